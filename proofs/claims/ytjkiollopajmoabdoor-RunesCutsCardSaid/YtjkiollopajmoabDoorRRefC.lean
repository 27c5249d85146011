/-
  The reference's Decode and Encode.
-/
import Derived.Test.YtjkiollopajmoabDoorRRefB
namespace Go.Proofs.YtjkiollopajmoabDoor.R
set_option linter.unusedVariables false
open Go.RowKit V

theorem rfirst_at (S : ByteArray) (d : List UInt8) (pos : Nat) (hd : (S.extract pos S.size).data.toList = d) (hne : d ≠ []) (hlen : d.length ≤ 4398046511104) (w : World) :
    Calls Tryd.prog 35 #[.string (S.extract pos S.size)] w fun e w' => e = .returned (.tuple #[.int .i64 ((firstR d).1 : Int), .int .i64 ((firstR d).2 : Int)]) ∧ Below w.heap.size w w' := by
  rw [ba_ext hd]
  exact rfirst_any d hne hlen w

set_option maxRecDepth 100000 in
set_option maxHeartbeats 1000000 in
theorem rdecode_any (l : List UInt8) (w : World) (hl : l.length ≤ 4398046511104) :
    Calls Tryd.prog 20 #[.string ⟨l.toArray⟩] w fun e w' => ∃ v, e = .returned (.tuple #[v, .int .i64 ((decR l).2 : Int)]) ∧ O32 w' w.heap.size v (ints (decR l).1) ∧ Below w.heap.size w w' := by
  obtain ⟨S, hS⟩ : ∃ S : ByteArray, S = ⟨l.toArray⟩ := ⟨_, rfl⟩
  have hSl : S.data.toList = l := by rw [hS]
  have hSz : S.size = l.length := by rw [hS]; simp [ByteArray.size]
  rw [← hS]
  have HSl := Lib.hid hSl
  have HSz := Lib.hid hSz
  clear hS hSl hSz
  go_enter Tryd.func20, Tryd.ntmps20
  go_wp2_with fail
  go_loopw [4, 5, 6] (fun x z i wr => ∃ (pos : Nat) (rs : List Nat) (b : Bool), i = .int .i64 pos ∧ z = .bool b ∧ pos ≤ l.length ∧ rs.length ≤ pos ∧ Hid (b = decide (0 ∈ rs)) ∧ Hid (O32 wr w.heap.size x (ints rs)) ∧ Hid (Below w.heap.size w wr) ∧ Hid (dec l = (dec (l.drop pos)).map (rs ++ ·))) (fun _ _ i _ => l.length - (intOf i).toNat)
  case atStart => exact ⟨0, [], false, rfl, rfl, Nat.zero_le _, Nat.le_refl _, by show _ = _; rfl, G.OI.nil _ _ _ _, Below.refl _ _, by show _ = _; cases h : dec (l.drop 0) <;> simp_all⟩
  case round =>
    obtain ⟨pos, rs, b, rfl, rfl, hpos, hrp, HZ, HO, HB, HD⟩ := hrel
    by_cases hlt : pos < l.length
    · have q0 : decide ((pos : Int) < (S.size : Int)) = true := by rw [HSz.out]; simp; exact hlt
      have q0n : pos < S.size := by rw [HSz.out]; exact hlt
      have hps : pos ≤ S.size := by omega
      have HF := Lib.hid (fun wx => rfirst_at S (l.drop pos) pos (by rw [drop_bytes, HSl.out]) (step_ne hlt) (by rw [List.length_drop]; omega) wx)
      have hsz := step_size hlt
      have hsc := fst1_scal _ (step_ne hlt)
      by_cases hbad : bad (fst1 (l.drop pos)) = true
      · have hd := step_bad hlt HD.out hbad
        have HN : Hid (decR l = ([], 12)) := by show _ = _; unfold decR; rw [hd]
        have hf : firstR (l.drop pos) = (0, 0) := by unfold firstR; rw [if_pos hbad]
        rw [hf] at HF
        clear hd hf hbad hsc hsz HD
        go_wp2_with fail
        refine (HF.out _).mono ?_
        rintro e w2 ⟨rfl, hb2⟩
        have HB2 := Lib.hid (HB.out.trans (hb2.mono HB.out.size))
        clear hb2
        go_wp2_with fail
        go_ret2
        rw [HN.out]
        exact ⟨_, rfl, G.OI.nil _ _ _ _, HB2.out⟩
      · have hb' : bad (fst1 (l.drop pos)) = false := by simpa using hbad
        have HG := Lib.hid (step_good hlt HD.out hb')
        have hf : firstR (l.drop pos) = fst1 (l.drop pos) := by unfold firstR; rw [if_neg hbad]
        rw [hf] at HF
        clear hf hbad hb' HD
        generalize fst1 (l.drop pos) = F at *
        obtain ⟨c, k⟩ := F
        simp only at hsz hsc HG HF
        have hc := scal_iff.1 hsc
        have hcI : (c : Int) ≤ 1114111 := by omega
        have qk : ((k : Int) == 0) = false := by rw [beq_eq_false_iff_ne]; omega
        have HF2 : Hid (b = true ∨ b = false) := by show _ ∨ _; cases b <;> simp
        clear hsc hc
        by_cases h0 : c = 0
        · subst h0
          rcases b with _ | _
          all_goals
            go_wp2_with fail
            refine (HF.out _).mono ?_
            rintro e w2 ⟨rfl, hb2⟩
            have HB2 := Lib.hid (HB.out.trans (hb2.mono HB.out.size))
            have HO2 : Hid (O32 (w2.alloc (.cells #[.int .i32 0] 21)) w.heap.size u4 (ints rs)) := (HO.out.below hb2).below ((Below.refl _ _).alloc (Nat.le_refl _) _)
            clear hb2
            go_wp2_with (at_builtin; refine G.wpList_appI rfl (.tmp 27) (.tmp 30) 27 rfl Tryd.underlying27 info32 _ (ints rs) rfl HO2.out w2.heap.size 0 1 1 [(0 : Int)] rfl rfl (G.RowI.lit .i32 w2 _ rfl [(0 : Int)] _ _ rfl) (by rw [ints_length]; simp; omega) (by omega) (by simp; have := HB2.out.size; omega) ?_; intro v' w' ho' hg' hgr')
            go_roundw
            case rel => exact ⟨pos + k, rs ++ [0], true, rfl, rfl, by omega, by rw [List.length_append]; simp; omega, by show _ = _; have := HZ.out; simp_all, by show O32 _ _ _ _; rw [ints_append]; exact ho', (HB2.out.alloc HB2.out.size _).grown hg' (by simp; have := HB2.out.size; omega) (fun b hb => (HO2.out.lt b hb).1), HG.out⟩
            case measure => simp [intOf]; omega
        · have q1 : ((c : Int) == 0) = false := by rw [beq_eq_false_iff_ne]; omega
          have h0' : ¬ 0 = c := fun e => h0 e.symm
          have H0 := Lib.hid h0'
          clear h0 h0'
          rcases b with _ | _
          all_goals
            go_wp2_with fail
            refine (HF.out _).mono ?_
            rintro e w2 ⟨rfl, hb2⟩
            have HB2 := Lib.hid (HB.out.trans (hb2.mono HB.out.size))
            have HO2 : Hid (O32 (w2.alloc (.cells #[.int .i32 (c : Int)] 21)) w.heap.size u4 (ints rs)) := (HO.out.below hb2).below ((Below.refl _ _).alloc (Nat.le_refl _) _)
            clear hb2
            go_wp2_with (at_builtin; refine G.wpList_appI rfl (.tmp 27) (.tmp 30) 27 rfl Tryd.underlying27 info32 _ (ints rs) rfl HO2.out w2.heap.size 0 1 1 [(c : Int)] rfl rfl (G.RowI.lit .i32 w2 _ rfl [(c : Int)] _ _ rfl) (by rw [ints_length]; simp; omega) (by omega) (by simp; have := HB2.out.size; omega) ?_; intro v' w' ho' hg' hgr')
            go_roundw
            case rel => exact ⟨pos + k, rs ++ [c], _, rfl, rfl, by omega, by rw [List.length_append]; simp; omega, by show _ = _; have := HZ.out; have := H0.out; simp_all, by show O32 _ _ _ _; rw [ints_append]; exact ho', (HB2.out.alloc HB2.out.size _).grown hg' (by simp; have := HB2.out.size; omega) (fun b hb => (HO2.out.lt b hb).1), HG.out⟩
            case measure => simp [intOf]; omega
    · have q0 : decide ((pos : Int) < (S.size : Int)) = false := by rw [HSz.out]; simp; omega
      have q0n : ¬ pos < S.size := by rw [HSz.out]; exact hlt
      have HE := Lib.hid (step_end (by omega) HD.out)
      clear HD
      rcases b with _ | _
      · have HN : Hid (decR l = (rs, 0)) := by
          show _ = _; unfold decR; rw [HE.out]; simp only
          rw [if_neg (of_decide_eq_false HZ.out.symm)]
        go_wp2_with fail
        go_ret2
        rw [HN.out]
        exact ⟨_, rfl, HO.out, HB.out⟩
      · have HN : Hid (decR l = ([], 13)) := by
          show _ = _; unfold decR; rw [HE.out]; simp only
          rw [if_pos (of_decide_eq_true HZ.out.symm)]
        go_wp2_with fail
        go_ret2
        rw [HN.out]
        exact ⟨_, rfl, G.OI.nil _ _ _ _, HB.out⟩
end Go.Proofs.YtjkiollopajmoabDoor.R
