/-
  Strings as characters: what Len, Decode, Encode, split and Cut return.
-/
import Derived.Test.YtjkiollopajmoabDoorRName
import Derived.Laws.RangeAny
import Derived.Deep.CutRange
namespace Go.Proofs.YtjkiollopajmoabDoor.R
set_option linter.unusedVariables false
open Go.RowKit V

theorem enc_rep : enc 65533 = [239, 191, 189] := by decide
theorem rep_iff (l : List UInt8) (hl : l ≠ []) : bad (fst1 l) = ((fst1 l).1 == 65533 && !Lib.hasPrefix l [239, 191, 189]) := by
  by_cases hp : Lib.hasPrefix l [239, 191, 189] = true
  · obtain ⟨t, ht⟩ := List.isPrefixOf_iff_prefix.1 hp
    have h := fst1_enc 65533 t (by decide)
    rw [enc_rep, ht] at h
    rw [h, hp]
    rfl
  · have hp' : Lib.hasPrefix l [239, 191, 189] = false := by simpa using hp
    rw [hp']
    unfold bad
    rcases fst1_at l hl with ⟨h1, h2⟩ | ⟨h1, h2, h3, h4⟩
    · rw [h1, h2]; rfl
    · by_cases hc : (fst1 l).1 = 65533
      · exfalso
        apply hp
        rw [hc, enc_rep] at h2
        exact List.isPrefixOf_iff_prefix.2 ⟨l.drop (fst1 l).2, by rw [← h2, List.take_append_drop]⟩
      · have : ((fst1 l).1 == 65533) = false := by rw [beq_eq_false_iff_ne]; exact hc
        rw [this]; rfl

set_option maxHeartbeats 400000 in
theorem isrep_any (s : ByteArray) (w : World) : Calls Tryd.prog 44 #[.string s] w fun e w' => e = .returned (.bool (Lib.hasPrefix s.data.toList [239, 191, 189])) ∧ w = w' := by
  have HC := Lib.hid (Tryd.strings_HasPrefix s ⟨#[239, 191, 189]⟩ w)
  rw [show (⟨#[239, 191, 189]⟩ : ByteArray).data.toList = [239, 191, 189] from rfl] at HC
  go_enter Tryd.func44, Tryd.ntmps44
  go_wp2_with (go_at_call 53; refine HC.out.mono ?_; rintro e w' ⟨rfl, rfl⟩)
  go_ret
  exact ⟨rfl, rfl⟩

theorem isrep_at (S : ByteArray) (d : List UInt8) (pos : Nat) (w : World) (b : Bool) (hd : (S.extract pos S.size).data.toList = d) (hb : Lib.hasPrefix d [239, 191, 189] = b) :
    Calls Tryd.prog 44 #[.string (S.extract pos S.size)] w fun e w' => e = .returned (.bool b) ∧ w = w' := by
  have := isrep_any (S.extract pos S.size) w
  rw [hd, hb] at this
  exact this
theorem step_bad {l : List UInt8} {rs : List Nat} {p : Nat} (hp : p < l.length) (h : dec l = (dec (l.drop p)).map (rs ++ ·)) (hb : bad (fst1 (l.drop p)) = true) : dec l = none := by
  have hne : l.drop p ≠ [] := by intro e; have := congrArg List.length e; rw [List.length_drop, List.length_nil] at this; omega
  rw [h, dec_bad hne hb]; rfl
theorem step_good {l : List UInt8} {rs : List Nat} {p : Nat} (hp : p < l.length) (h : dec l = (dec (l.drop p)).map (rs ++ ·)) (hb : bad (fst1 (l.drop p)) = false) :
    dec l = (dec (l.drop (p + (fst1 (l.drop p)).2))).map ((rs ++ [(fst1 (l.drop p)).1]) ++ ·) := by
  have hne : l.drop p ≠ [] := by intro e; have := congrArg List.length e; rw [List.length_drop, List.length_nil] at this; omega
  rw [h, dec_good hne hb, List.drop_drop]
  cases dec (l.drop (p + (fst1 (l.drop p)).2)) <;> simp
theorem step_size {l : List UInt8} {p : Nat} (hp : p < l.length) : 1 ≤ (fst1 (l.drop p)).2 ∧ p + (fst1 (l.drop p)).2 ≤ l.length := by
  have hne : l.drop p ≠ [] := by intro e; have := congrArg List.length e; rw [List.length_drop, List.length_nil] at this; omega
  have := fst1_size _ hne
  rw [List.length_drop] at this
  omega
theorem step_end {l : List UInt8} {rs : List Nat} {p : Nat} (hp : l.length ≤ p) (h : dec l = (dec (l.drop p)).map (rs ++ ·)) : dec l = some rs := by
  rw [h, List.drop_of_length_le hp, dec_nil]; simp
theorem step_ne {l : List UInt8} {p : Nat} (hp : p < l.length) : l.drop p ≠ [] := by intro e; have := congrArg List.length e; rw [List.length_drop, List.length_nil] at this; omega

set_option maxRecDepth 100000 in
set_option maxHeartbeats 1000000 in
theorem len_any (l : List UInt8) (w : World) (hl : l.length ≤ 140737488355328) :
    Calls Tryd.prog 36 #[.string ⟨l.toArray⟩] w fun e w' => e = .returned (.tuple #[.int .i64 ((lenR l).1 : Int), .int .i64 ((lenR l).2 : Int)]) ∧ Below w.heap.size w w' := by
  obtain ⟨S, hS⟩ : ∃ S : ByteArray, S = ⟨l.toArray⟩ := ⟨_, rfl⟩
  have hSl : S.data.toList = l := by rw [hS]
  have hSz : S.size = l.length := by rw [hS]; simp [ByteArray.size]
  rw [← hS]
  have HSl := Lib.hid hSl
  have HSz := Lib.hid hSz
  clear hS hSl hSz
  go_enter Tryd.func36, Tryd.ntmps36
  go_wp2_with fail
  go_loopw [4, 5] (fun n z wr => ∃ (pos : Nat) (rs : List Nat) (b : Bool), wr = w.iter S pos ∧ pos ≤ l.length ∧ n = .int .i64 rs.length ∧ z = .bool b ∧ rs.length ≤ pos ∧ Hid (b = decide (0 ∈ rs)) ∧ Hid (dec l = (dec (l.drop pos)).map (rs ++ ·))) (fun _ _ w' => l.length - w'.iterPos w.heap.size)
  case atStart => exact ⟨0, [], false, rfl, Nat.zero_le _, rfl, rfl, Nat.le_refl _, by show _ = _; rfl, by show _ = _; cases h : dec (l.drop 0) <;> simp_all⟩
  case round =>
    obtain ⟨pos, rs, b, rfl, hpos, rfl, rfl, hrp, HZ, HD⟩ := hrel
    by_cases hlt : pos < l.length
    · have hnx : ∀ ty, (Instr.next (.pointer (some ⟨w.heap.size, 0, none⟩)) true ty).run Tryd.prog (w.iter S pos) = _ := fun ty => run_next_any w S pos ty (by rw [HSz.out]; exact hlt)
      rw [utf8_decode S pos (by rw [HSz.out]; omega), HSl.out] at hnx
      have hsz := step_size hlt
      have HR := Lib.hid (rep_iff _ (step_ne hlt))
      have HB := Lib.hid (step_bad hlt HD.out)
      have HG := Lib.hid (step_good hlt HD.out)
      clear HD
      generalize fst1 (l.drop pos) = F at *
      obtain ⟨c, k⟩ := F
      simp only at hnx hsz HR HG
      have hps : pos ≤ S.size := by rw [HSz.out]; exact hpos
      by_cases hc : c = 65533
      · subst hc
        by_cases hP : Lib.hasPrefix (l.drop pos) [239, 191, 189] = true
        · have HI := fun wx => isrep_at S (l.drop pos) pos wx true (by rw [drop_bytes, HSl.out]) hP
          have HI2 := Lib.hid HI
          have hb : bad (65533, k) = false := by rw [HR.out, hP]; rfl
          have HG2 := Lib.hid (HG.out hb)
          clear hb hP HI
          rcases b with _ | _
          all_goals
            go_wp2_with (go_at_call 44; refine (HI2.out _).mono ?_; rintro e w' ⟨rfl, rfl⟩)
          · go_roundw
            case rel => exact ⟨pos + k, rs ++ [65533], false, rfl, by omega, by rw [List.length_append]; rfl, rfl, by rw [List.length_append]; simp; omega, by show _ = _; have := HZ.out; simp_all, HG2.out⟩
            case measure => simp; omega
          · go_roundw
            case rel => exact ⟨pos + k, rs ++ [65533], true, rfl, by omega, by rw [List.length_append]; rfl, rfl, by rw [List.length_append]; simp; omega, by show _ = _; have := HZ.out; simp_all, HG2.out⟩
            case measure => simp; omega
        · have hP' : Lib.hasPrefix (l.drop pos) [239, 191, 189] = false := by simpa using hP
          have HI := fun wx => isrep_at S (l.drop pos) pos wx false (by rw [drop_bytes, HSl.out]) hP'
          have HI2 := Lib.hid HI
          have hb : bad (65533, k) = true := by rw [HR.out, hP']; rfl
          have hd := HB.out hb
          have HN : Hid (lenR l = (0, 12)) := by show _ = _; unfold lenR; rw [hd]
          clear hb hP hP' HI hd
          go_wp2_with (go_at_call 44; refine (HI2.out _).mono ?_; rintro e w' ⟨rfl, rfl⟩)
          go_ret2
          exact ⟨by rw [HN.out]; rfl, (Below.refl _ _).alloc (Nat.le_refl _) _⟩
      · have h1 : ((c : Int) == 65533) = false := by rw [beq_eq_false_iff_ne]; omega
        have hb : bad (c, k) = false := by rw [HR.out, show (c == 65533) = false by rw [beq_eq_false_iff_ne]; exact hc]; rfl
        have HG2 := Lib.hid (HG.out hb)
        clear hb hc
        rcases b with _ | _
        · by_cases h0 : c = 0
          · subst h0
            go_wp2_with fail
            go_roundw
            case rel => exact ⟨pos + k, rs ++ [0], true, rfl, by omega, by rw [List.length_append]; rfl, rfl, by rw [List.length_append]; simp; omega, by show _ = _; have := HZ.out; simp_all, HG2.out⟩
            case measure => simp; omega
          · have h2 : ((c : Int) == 0) = false := by rw [beq_eq_false_iff_ne]; omega
            have h0' : ¬ 0 = c := fun e => h0 e.symm
            go_wp2_with fail
            go_roundw
            case rel => exact ⟨pos + k, rs ++ [c], false, rfl, by omega, by rw [List.length_append]; rfl, rfl, by rw [List.length_append]; simp; omega, by show _ = _; have := HZ.out; simp_all, HG2.out⟩
            case measure => simp; omega
        · go_wp2_with fail
          go_roundw
          case rel => exact ⟨pos + k, rs ++ [c], true, rfl, by omega, by rw [List.length_append]; rfl, rfl, by rw [List.length_append]; simp; omega, by show _ = _; have := HZ.out; simp_all, HG2.out⟩
          case measure => simp; omega
    · have hnx : ∀ ty, (Instr.next (.pointer (some ⟨w.heap.size, 0, none⟩)) true ty).run Tryd.prog (w.iter S pos) = _ := fun ty => run_next_end w S pos ty (by rw [HSz.out]; exact hlt)
      have HE := Lib.hid (step_end (by omega) HD.out)
      clear HD
      rcases b with _ | _
      · have HN : Hid (lenR l = (rs.length, 0)) := by
          show _ = _; unfold lenR; rw [HE.out]; simp only
          rw [if_neg (of_decide_eq_false HZ.out.symm)]
        go_wp2_with fail
        go_ret2
        exact ⟨by rw [HN.out]; rfl, (Below.refl _ _).alloc (Nat.le_refl _) _⟩
      · have HN : Hid (lenR l = (0, 13)) := by
          show _ = _; unfold lenR; rw [HE.out]; simp only
          rw [if_pos (of_decide_eq_true HZ.out.symm)]
        go_wp2_with fail
        go_ret2
        exact ⟨by rw [HN.out]; rfl, (Below.refl _ _).alloc (Nat.le_refl _) _⟩
end Go.Proofs.YtjkiollopajmoabDoor.R
