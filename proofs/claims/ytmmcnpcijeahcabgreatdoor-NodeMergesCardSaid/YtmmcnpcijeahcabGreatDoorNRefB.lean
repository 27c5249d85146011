/-
  Agree and Merge of the reference.
-/
import Derived.Test.YtmmcnpcijeahcabGreatDoorNRef
namespace Go.Proofs.YtmmcnpcijeahcabGreatDoor.Nd
set_option linter.unusedVariables false
open Go.RowKit V Go.Sort D

theorem agree_beq (a b : Nt) : agreeN a b = (decide (a.1 = b.1) && decide (a.2.1 = b.2.1) && (a.2.2.1 == b.2.2.1) && ((a.2.2.2 == b.2.2.2) || (a.2.2.2 == 0) || (b.2.2.2 == 0))) := by
  unfold agreeN
  simp only [Bool.beq_eq_decide_eq]
set_option maxRecDepth 100000 in
set_option maxHeartbeats 4000000 in
theorem agree_ref (a b : Nt) (w : World) : Calls Tryz.prog 35 #[nv a, nv b] w fun e w' => e = .returned (.bool (agreeN a b)) ∧ Below w.heap.size w w' := by
  have HE := Lib.hid (agree_beq a b)
  have HB := Lib.hid (bel_two w a b)
  have e1 := fun w => eql_dot a.1 b.1 w
  have e2 := fun w => eql_dot a.2.1 b.2.1 w
  generalize agreeN a b = R at *
  generalize decide (a.1 = b.1) = b1 at *
  generalize decide (a.2.1 = b.2.1) = b2 at *
  rcases b1 with _ | _
  · go_enter Tryz.func35, Tryz.ntmps35
    go_wp2_with fail
    go_ret
    exact ⟨by rw [HE.out]; rfl, HB.out⟩
  · rcases b2 with _ | _
    · go_enter Tryz.func35, Tryz.ntmps35
      go_wp2_with fail
      go_ret
      exact ⟨by rw [HE.out]; rfl, HB.out⟩
    · obtain ⟨b3, h3⟩ : ∃ x, (a.2.2.1 == b.2.2.1) = x := ⟨_, rfl⟩
      rcases b3 with _ | _
      · rw [h3] at HE
        go_enter Tryz.func35, Tryz.ntmps35
        go_wp2_with fail
        go_ret
        exact ⟨by rw [HE.out]; rfl, HB.out⟩
      · obtain ⟨b4, h4⟩ : ∃ x, (a.2.2.2 == b.2.2.2) = x := ⟨_, rfl⟩
        rcases b4 with _ | _
        · obtain ⟨b5, h5⟩ : ∃ x, (a.2.2.2 == 0) = x := ⟨_, rfl⟩
          rcases b5 with _ | _
          · obtain ⟨b6, h6⟩ : ∃ x, (b.2.2.2 == 0) = x := ⟨_, rfl⟩
            rw [h3, h4, h5, h6] at HE
            rcases b6 with _ | _
            · go_enter Tryz.func35, Tryz.ntmps35
              go_wp2_with fail
              go_ret
              exact ⟨by rw [HE.out]; rfl, HB.out⟩
            · go_enter Tryz.func35, Tryz.ntmps35
              go_wp2_with fail
              go_ret
              exact ⟨by rw [HE.out]; rfl, HB.out⟩
          · rw [h3, h4, h5] at HE
            go_enter Tryz.func35, Tryz.ntmps35
            go_wp2_with fail
            go_ret
            exact ⟨by rw [HE.out]; rfl, HB.out⟩
        · rw [h3, h4] at HE
          go_enter Tryz.func35, Tryz.ntmps35
          go_wp2_with fail
          go_ret
          exact ⟨by rw [HE.out]; rfl, HB.out⟩
/-- What the reference merges two valid nodes to. -/
def mrgR (a b : Nt) : Nt × Int := if agreeN a b = true then (if deadN a = true then a else b, 0) else (zeroN, 15)
theorem mrg_valid {a b : Nt} (ha : validN a = true) (hb : validN b = true) : mergeN a b = mrgR a b := by
  rw [merge_comm, merge_def, ha, hb, agree_comm]
  rfl
set_option maxRecDepth 100000 in
set_option maxHeartbeats 4000000 in
theorem merge_ref (a b : Nt) (w : World) : Calls Tryz.prog 17 #[nv a, nv b] w fun e w' => e = .returned (.tuple #[nv (mrgR a b).1, .int .i64 (mrgR a b).2]) ∧ Below w.heap.size w w' := by
  have HE : Hid (mrgR a b = if agreeN a b = true then (if deadN a = true then a else b, 0) else (zeroN, 15)) := rfl
  have HDe : Hid (deadN a = (a.2.2.2 == 0)) := rfl
  have HAg := Lib.hid (fun w => agree_ref a b w)
  have hbz := bel_box ((w.alloc (.cells (nc a) 25)).alloc (.cells (nc b) 25)) (.cells #[.int .i64 0, .int .i64 0, .int .i64 0, .int .i64 0, .int .i64 0, .int .i32 0] 25)
  have HK := Lib.hid ((N2.new a b w).keep hbz)
  have HB : Hid (Below w.heap.size w (((w.alloc (.cells (nc a) 25)).alloc (.cells (nc b) 25)).alloc (.cells #[.int .i64 0, .int .i64 0, .int .i64 0, .int .i64 0, .int .i64 0, .int .i32 0] 25))) := bel_tr (bel_two w a b) hbz
  have hz := Zb.new ((w.alloc (.cells (nc a) 25)).alloc (.cells (nc b) 25))
  rw [show ((w.alloc (.cells (nc a) 25)).alloc (.cells (nc b) 25)).heap.size = w.heap.size + 1 + 1 by simp] at hz
  have HZ := Lib.hid hz
  clear hz hbz
  rw [HDe.out] at HE
  generalize mrgR a b = M at *
  generalize agreeN a b = ag at *
  go_enter Tryz.func17, Tryz.ntmps17
  go_wp2_with fail
  generalize ((w.alloc (.cells (nc a) 25)).alloc (.cells (nc b) 25)).alloc (.cells #[.int .i64 0, .int .i64 0, .int .i64 0, .int .i64 0, .int .i64 0, .int .i32 0] 25) = w1 at *
  obtain ⟨⟨a0, a1, a2, a3, a4, a5⟩, b0, b1, b2, b3, b4, b5⟩ := HK.out
  refine (HAg.out _).mono ?_
  rintro e w2 ⟨rfl, hb⟩
  replace HK := Lib.hid (HK.out.keep hb)
  replace HZ := Lib.hid (HZ.out.keep hb)
  replace HB := bel_tr HB hb
  clear hb a0 a1 a2 a3 a4 a5 b0 b1 b2 b3 b4 b5
  obtain ⟨⟨a0, a1, a2, a3, a4, a5⟩, b0, b1, b2, b3, b4, b5⟩ := HK.out
  rcases ag with _ | _
  · obtain ⟨⟨z0, z1, z2, z3, z4, z5⟩, hf⟩ := HZ.out
    have f0 := hf 0
    have f1 := hf 1
    have f2 := hf 2
    have f3 := hf 3
    have f4 := hf 4
    have f5 := hf 5
    clear hf
    go_wp2_with fail
    (try simp only [Exit.inBlock, Exit.then])
    refine bodyPost_ret (v := .tuple #[.agg #[.int .i64 0, .int .i64 0, .int .i64 0, .int .i64 0, .int .i64 0, .int .i32 0], .int .i64 15]) (by rw [results_cell_tmp (fn := Tryz.f17) (p := 4) (u := 5) (ty := 25) rfl]; go_simp) rfl ?_
    rw [HE.out]
    exact ⟨rfl, putN_below HB.out (by omega) zeroN⟩
  · obtain ⟨db, h6⟩ : ∃ x, (a.2.2.2 == 0) = x := ⟨_, rfl⟩
    rw [h6] at HE
    rcases db with _ | _
    · obtain ⟨⟨z0, z1, z2, z3, z4, z5⟩, hf⟩ := HZ.out
      have f0 := hf 0
      have f1 := hf 1
      have f2 := hf 2
      have f3 := hf 3
      have f4 := hf 4
      have f5 := hf 5
      clear hf
      go_wp2_with fail
      (try simp only [Exit.inBlock, Exit.then])
      refine bodyPost_ret (v := .tuple #[nv b, .int .i64 0]) (by rw [results_cell_tmp (fn := Tryz.f17) (p := 4) (u := 5) (ty := 25) rfl]; go_simp) rfl ?_
      rw [HE.out]
      exact ⟨rfl, putN_below HB.out (by omega) b⟩
    · obtain ⟨⟨z0, z1, z2, z3, z4, z5⟩, hf⟩ := HZ.out
      have f0 := hf 0
      have f1 := hf 1
      have f2 := hf 2
      have f3 := hf 3
      have f4 := hf 4
      have f5 := hf 5
      clear hf
      go_wp2_with fail
      (try simp only [Exit.inBlock, Exit.then])
      refine bodyPost_ret (v := .tuple #[nv a, .int .i64 0]) (by rw [results_cell_tmp (fn := Tryz.f17) (p := 4) (u := 5) (ty := 25) rfl]; go_simp) rfl ?_
      rw [HE.out]
      exact ⟨rfl, putN_below HB.out (by omega) a⟩
end Go.Proofs.YtmmcnpcijeahcabGreatDoor.Nd
