/-
  split and Cut.
-/
import Derived.Test.YtjkiollopajmoabDoorRTextC
import Derived.Test.YtjkiollopajmoabDoorSched
namespace Go.Proofs.YtjkiollopajmoabDoor.R
set_option linter.unusedVariables false
open Go.RowKit V

theorem ba_ext {S : ByteArray} {l : List UInt8} (h : S.data.toList = l) : S = ⟨l.toArray⟩ := by
  apply ByteArray.ext
  rw [← h]
theorem encs_take_len (R : List Nat) (k : Nat) (hk : k < R.length) : (encs (R.take (k + 1))).length = (encs (R.take k)).length + (enc R[k]).length := by
  rw [List.take_succ_eq_append_getElem hk, encs_append, List.length_append]
  simp [encs]
theorem encs_split (R : List Nat) (k : Nat) : encs (R.take k) ++ encs (R.drop k) = encs R := by rw [← encs_append, List.take_append_drop]
theorem encs_drop (R : List Nat) (k : Nat) : (encs R).drop (encs (R.take k)).length = encs (R.drop k) := by
  rw [← encs_split R k, List.drop_left]
theorem encs_pre (R : List Nat) (k : Nat) : (encs R).take (encs (R.take k)).length = encs (R.take k) := by
  conv => lhs; rw [← encs_split R k]
  rw [List.take_left]
theorem encs_at (R : List Nat) (k : Nat) (hk : k < R.length) (hs : scal R[k] = true) : fst1 ((encs R).drop (encs (R.take k)).length) = (R[k], (enc R[k]).length) := by
  rw [encs_drop, List.drop_eq_getElem_cons hk, encs_cons]
  exact fst1_enc _ _ hs
theorem encs_take_lt (R : List Nat) (k : Nat) (h : (encs (R.take k)).length < (encs R).length) : k < R.length := by
  rcases Nat.lt_or_ge k R.length with h1 | h1
  · exact h1
  · rw [List.take_of_length_le h1] at h; omega
theorem encs_take_ge (R : List Nat) (k : Nat) (h : ¬ (encs (R.take k)).length < (encs R).length) (hk : k ≤ R.length) : k = R.length := by
  rcases Nat.lt_or_ge k R.length with h1 | h1
  · exfalso
    have h2 := encs_split R k
    have h3 := congrArg List.length h2
    rw [List.length_append, List.drop_eq_getElem_cons h1, encs_cons, List.length_append] at h3
    have := (enc_len R[k]).1
    omega
  · omega

set_option maxRecDepth 100000 in
set_option maxHeartbeats 1000000 in
theorem split_any (R : List Nat) (n : Nat) (w : World) (hR : ∀ r ∈ R, scal r = true) (hl : (encs R).length ≤ 140737488355328) (hn : n ≤ 140737488355328) :
    Calls Tryd.prog 37 #[.string ⟨(encs R).toArray⟩, .int .i64 (n : Int)] w fun e w' => e = .returned (.tuple #[.string ⟨(encs (R.take n)).toArray⟩, .string ⟨(encs (R.drop n)).toArray⟩]) ∧ Below w.heap.size w w' := by
  obtain ⟨S, hS⟩ : ∃ S : ByteArray, S = ⟨(encs R).toArray⟩ := ⟨_, rfl⟩
  have hSl : S.data.toList = encs R := by rw [hS]
  have hSz : S.size = (encs R).length := by rw [hS]; simp [ByteArray.size]
  have HRS := Lib.hid hR
  rw [← hS]
  have HS := Lib.hid hS
  have HSl := Lib.hid hSl
  have HSz := Lib.hid hSz
  clear hS hSl hSz hR
  go_enter Tryd.func37, Tryd.ntmps37
  go_wp2_with fail
  obtain ⟨g, hg⟩ : ∃ g, g = w.heap.size := ⟨_, rfl⟩
  go_loopw [1] (fun x wr => ∃ (k q pos : Nat), wr = w.iter S pos ∧ k + q = n ∧ k ≤ R.length ∧ x = .int .i64 q ∧ pos ≤ (encs R).length ∧ Hid (pos = (encs (R.take k)).length)) (fun _ w' => (encs R).length - w'.iterPos w.heap.size)
  case atStart => exact ⟨0, n, 0, rfl, by omega, Nat.zero_le _, rfl, Nat.zero_le _, by show _ = _; simp [encs]⟩
  case round =>
    obtain ⟨k, q, pos, rfl, hkq, hkR, rfl, hpl, HP⟩ := hrel
    by_cases hlt : pos < (encs R).length
    · have hnx : ∀ ty, (Instr.next (.pointer (some ⟨w.heap.size, 0, none⟩)) true ty).run Tryd.prog (w.iter S pos) = _ := fun ty => run_next_any w S pos ty (by rw [HSz.out]; exact hlt)
      have hk : k < R.length := encs_take_lt R k (by rw [← HP.out]; exact hlt)
      rw [utf8_decode S pos (by rw [HSz.out]; omega), HSl.out, HP.out, encs_at R k hk (HRS.out _ (List.getElem_mem hk)), ← HP.out] at hnx
      have hps : pos ≤ S.size := by rw [HSz.out]; omega
      have HL1 := Lib.hid (encs_take_len R k hk)
      have hl1 : pos + (enc R[k]).length ≤ (encs R).length := by
        have h2 := encs_split R (k + 1)
        have h3 := congrArg List.length h2
        rw [List.length_append, encs_take_len R k hk, ← HP.out] at h3
        omega
      have hl2 := (enc_len R[k]).1
      generalize hc : R[k] = c at *
      generalize he : enc c = E at *
      clear hc he
      by_cases hq : q = 0
      · subst hq
        obtain rfl : k = n := by omega
        have h1 : (S.extract 0 pos) = ⟨(encs (R.take k)).toArray⟩ := ba_ext (by rw [Lib.extract_data, HSl.out, HP.out]; simp only [Nat.sub_zero, List.drop_zero]; exact encs_pre R k)
        have h2 : (S.extract pos S.size) = ⟨(encs (R.drop k)).toArray⟩ := ba_ext (by rw [drop_bytes, HSl.out, HP.out]; exact encs_drop R k)
        have H1 := Lib.hid h1
        have H2 := Lib.hid h2
        clear h1 h2
        go_wp2_with fail
        refine Sch.wp_region_sched (fun _ => True) [(0, true), (1, true), (2, true), (3, true), (4, true), (5, true), (6, true), (7, true)] (by kernel_rfl) (by kernel_rfl) trivial ?_
        repeat (first | (refine Sch.held_q rfl rfl (fun K hK => ?_); go_big_quiet_op; (first | refine hK _ ?_ | refine ⟨_, fun _ _ => rfl, hK _ ?_⟩); clear hK K) | (refine Sch.held_s _ rfl rfl rfl ?_; simp only [Act.put, List.setIfInBounds_toArray, List.set_cons_zero, List.set_cons_succ]))
        refine Sch.held_n ?_
        go_wp2_with fail
        go_ret2
        exact ⟨by rw [← H1.out, ← H2.out]; rfl, ((Below.refl _ _).alloc (Nat.le_refl _) (.stringIter S (pos + E.length))).drew⟩
      · have hq0 : ((q : Int) == 0) = false := by rw [beq_eq_false_iff_ne]; omega
        have hq1 : 1 ≤ q := by omega
        go_wp2_with fail
        go_roundw
        case rel =>
          refine ⟨k + 1, q - 1, pos + E.length, rfl, by omega, by omega, by congr 1; omega, hl1, by show _ = _; rw [HL1.out, HP.out]⟩
        case measure => simp; omega
    · have hnx : ∀ ty, (Instr.next (.pointer (some ⟨w.heap.size, 0, none⟩)) true ty).run Tryd.prog (w.iter S pos) = _ := fun ty => run_next_end w S pos ty (by rw [HSz.out]; exact hlt)
      have hkl := encs_take_ge R k (by rw [← HP.out]; exact hlt) hkR
      have hnl : R.length ≤ n := by omega
      go_wp2_with fail
      go_ret2
      exact ⟨by rw [List.take_of_length_le hnl, List.drop_of_length_le hnl, ← HS.out]; rfl, (Below.refl _ _).alloc (Nat.le_refl _) _⟩

/-- The part of some bytes, or the error. -/
def cutR (l : List UInt8) (x y : Int) : List UInt8 × Nat :=
  if (decR l).2 ≠ 0 then ([], (decR l).2)
  else if x < 0 ∨ y < x ∨ ((decR l).1.length : Int) < y then ([], 3)
  else (encs (((decR l).1.drop x.toNat).take (y.toNat - x.toNat)), 0)

set_option maxRecDepth 100000 in
set_option maxHeartbeats 1000000 in
theorem cut_any (l : List UInt8) (x y : Int) (w : World) (hl : l.length ≤ 4398046511104) (hx : -9223372036854775808 ≤ x ∧ x ≤ 9223372036854775807) (hy : -9223372036854775808 ≤ y ∧ y ≤ 9223372036854775807) :
    Calls Tryd.prog 29 #[.string ⟨l.toArray⟩, .int .i64 x, .int .i64 y] w fun e w' => e = .returned (.tuple #[.string ⟨(cutR l x y).1.toArray⟩, .int .i64 ((cutR l x y).2 : Int)]) ∧ Below w.heap.size w w' := by
  have HLn := Lib.hid (len_any l w (by omega))
  rw [lenR_decR] at HLn
  by_cases he : (decR l).2 = 0
  · obtain ⟨henc, hsc, -⟩ := decR_ok he
    have hrs : (decR l).1.length ≤ l.length := by
      have := encs_len (decR l).1
      rw [henc] at this
      exact this.1
    have hcut : cutR l x y = if x < 0 ∨ y < x ∨ ((decR l).1.length : Int) < y then ([], 3) else (encs (((decR l).1.drop x.toNat).take (y.toNat - x.toNat)), 0) := by
      unfold cutR; rw [if_neg (by omega)]
    have HCut := Lib.hid hcut
    rw [he] at HLn
    simp only at HLn
    generalize (decR l).1 = R at *
    have HSc := Lib.hid hsc
    have HEn := Lib.hid henc
    clear hcut he hsc henc
    obtain ⟨hx1, hx2⟩ := hx
    obtain ⟨hy1, hy2⟩ := hy
    obtain ⟨S, hS⟩ : ∃ S : ByteArray, S = ⟨l.toArray⟩ := ⟨_, rfl⟩
    rw [← hS] at HLn ⊢
    have HS := Lib.hid hS
    clear hS
    by_cases hr : x < 0 ∨ y < x ∨ (R.length : Int) < y
    · have HN : Hid (cutR l x y = ([], 3)) := by show _ = _; rw [HCut.out, if_pos hr]
      clear HCut
      rcases hr with hr | hr
      · have hb : decide (x < 0) = true := by simpa using hr
        go_enter Tryd.func29, Tryd.ntmps29
        go_wp2_with (go_at_call 36; refine HLn.out.mono ?_; rintro e w' ⟨rfl, hb⟩)
        go_ret2
        exact ⟨by rw [HN.out]; rfl, by assumption⟩
      · by_cases hx0 : x < 0
        · have hb : decide (x < 0) = true := by simpa using hx0
          go_enter Tryd.func29, Tryd.ntmps29
          go_wp2_with (go_at_call 36; refine HLn.out.mono ?_; rintro e w' ⟨rfl, hb⟩)
          go_ret2
          exact ⟨by rw [HN.out]; rfl, by assumption⟩
        · have hb0 : decide (x < 0) = false := by simpa using hx0
          by_cases hyx : y < x
          · have hb1 : decide (y < x) = true := by simpa using hyx
            go_enter Tryd.func29, Tryd.ntmps29
            go_wp2_with (go_at_call 36; refine HLn.out.mono ?_; rintro e w' ⟨rfl, hb⟩)
            go_ret2
            exact ⟨by rw [HN.out]; rfl, by assumption⟩
          · have hb1 : decide (y < x) = false := by simpa using hyx
            have hyl : (R.length : Int) < y := by omega
            have hb2 : decide ((R.length : Int) < y) = true := by simpa using hyl
            go_enter Tryd.func29, Tryd.ntmps29
            go_wp2_with (go_at_call 36; refine HLn.out.mono ?_; rintro e w' ⟨rfl, hb⟩)
            go_ret2
            exact ⟨by rw [HN.out]; rfl, by assumption⟩
    · have HN : Hid (cutR l x y = (encs ((R.drop x.toNat).take (y.toNat - x.toNat)), 0)) := by show _ = _; rw [HCut.out, if_neg hr]
      clear HCut
      obtain ⟨m, rfl⟩ := Int.eq_ofNat_of_zero_le (show 0 ≤ x by omega)
      obtain ⟨n, rfl⟩ := Int.eq_ofNat_of_zero_le (show 0 ≤ y by omega)
      simp only [Int.toNat_natCast] at HN
      have hmn : m ≤ n := by omega
      have hnl : n ≤ R.length := by omega
      have hb1 : decide ((n : Int) < (m : Int)) = false := by simp; omega
      have hb2 : decide ((R.length : Int) < (n : Int)) = false := by simp; omega
      have hb3 : decide ((m : Int) < 0) = false := by simp
      have HSp := Lib.hid (fun wx => split_any R m wx HSc.out (by rw [HEn.out]; omega) (by omega))
      have hlen2 : (encs (R.drop m)).length ≤ l.length := by
        have := congrArg List.length (encs_split R m)
        rw [List.length_append, HEn.out] at this
        omega
      have HSp2 := Lib.hid (fun wx => split_any (R.drop m) (n - m) wx (fun r hr => HSc.out r (List.mem_of_mem_drop hr)) (by omega) (by omega))
      have e1 : (⟨(encs R).toArray⟩ : ByteArray) = S := by rw [HEn.out, HS.out]
      rw [e1] at HSp
      have e2 : ((n - m : Nat) : Int) = (n : Int) - (m : Int) := by omega
      rw [e2] at HSp2
      clear hr e1 e2 hlen2
      go_enter Tryd.func29, Tryd.ntmps29
      go_wp2_with fail
      refine HLn.out.mono ?_
      rintro e w1 ⟨rfl, hb⟩
      have HB1 := Lib.hid hb
      clear hb HLn
      go_wp2_with fail
      refine (HSp.out w1).mono ?_
      rintro e w2 ⟨rfl, hb⟩
      have HB2 := Lib.hid (HB1.out.trans (hb.mono HB1.out.size))
      clear hb HSp
      go_wp2_with fail
      refine (HSp2.out w2).mono ?_
      rintro e w3 ⟨rfl, hb⟩
      have HB3 := Lib.hid (HB2.out.trans (hb.mono HB2.out.size))
      clear hb HSp2
      go_wp2_with fail
      go_ret2
      exact ⟨by rw [HN.out]; rfl, HB3.out⟩
  · have HN : Hid (cutR l x y = ([], (decR l).2)) := by show _ = _; unfold cutR; rw [if_pos he]
    rw [(decR_fail he).1] at HLn
    have hbn : (((decR l).2 : Int) != 0) = true := by rw [bne_iff_ne]; omega
    have hbn2 : ¬ ((decR l).2 : Int) = 0 := by omega
    generalize (decR l).2 = E at *
    clear he
    go_enter Tryd.func29, Tryd.ntmps29
    go_wp2_with (go_at_call 36; refine HLn.out.mono ?_; rintro e w' ⟨rfl, hb⟩)
    go_ret2
    exact ⟨by rw [HN.out]; rfl, by assumption⟩
end Go.Proofs.YtjkiollopajmoabDoor.R
