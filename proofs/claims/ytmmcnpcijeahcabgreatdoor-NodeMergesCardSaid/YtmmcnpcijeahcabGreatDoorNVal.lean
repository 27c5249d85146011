/-
  Which nodes are valid, which are dead, what is killed: the program's.
-/
import Derived.Test.YtmmcnpcijeahcabGreatDoorNMem
import Derived.Test.YtmmcnpcijeahcabGreatDoorRName
namespace Go.Proofs.YtmmcnpcijeahcabGreatDoor.Nd
set_option linter.unusedVariables false
open Go.RowKit V Go.Sort D

theorem lays_alloc1 (w : World) (o : Obj) : Lays w (w.alloc o) := ⟨0, _, by rw [alloc_eq_grow]; rfl⟩
theorem lays_tr {w w1 w2 : World} (h : Lays w w1) (k : Lays w1 w2) : Lays w w2 := by
  obtain ⟨q, os, rfl⟩ := h
  obtain ⟨q2, os2, rfl⟩ := k
  exact ⟨q + q2, os ++ os2, by rw [← World.drewN_drewN, ← grow_grow]; rfl⟩
theorem bel_t {w w1 w2 : World} (h : Hid (Below w.heap.size w w1)) (hb : Below w1.heap.size w1 w2) : Hid (Below w.heap.size w w2) := bel_tr h hb
set_option maxRecDepth 100000 in
theorem dead_any (n : Nt) (w : World) : Calls Tryz.prog 10 #[nv n] w fun e w' => e = .returned (.bool (deadN n)) ∧ Lays w w' := by
  have HE : Hid (deadN n = decide (n.2.2.2 = 0)) := rfl
  obtain ⟨⟨d1, d2⟩, ⟨p1, p2⟩, t, q⟩ := n
  generalize deadN ((d1, d2), (p1, p2), t, q) = R at *
  by_cases h : q = 0
  · subst h
    go_enter Tryz.func10, Tryz.ntmps10
    go_wp2_with fail
    go_ret
    exact ⟨by rw [HE.out]; rfl, lays_alloc1 _ _⟩
  · have hq : (q == 0) = false := by simpa using h
    have HF : Hid (decide (q = 0) = false) := decide_eq_false h
    clear h
    go_enter Tryz.func10, Tryz.ntmps10
    go_wp2_with fail
    go_ret
    exact ⟨by rw [HE.out, HF.out]; rfl, lays_alloc1 _ _⟩
set_option maxRecDepth 100000 in
theorem kill_any (n : Nt) (w : World) : Calls Tryz.prog 11 #[nv n] w fun e w' => e = .returned (nv (killN n)) ∧ Lays w w' := by
  obtain ⟨⟨d1, d2⟩, ⟨p1, p2⟩, t, q⟩ := n
  go_enter Tryz.func11, Tryz.ntmps11
  go_wp2_with fail
  (try simp only [Exit.inBlock, Exit.then])
  refine bodyPost_ret (v := .agg #[.int .i64 d1, .int .i64 d2, .int .i64 p1, .int .i64 p2, .int .i64 t, .int .i32 0]) (by rw [results_cell1 (fn := Tryz.f11) (p := 2) (ty := 25) rfl]; go_simp) rfl ?_
  exact ⟨rfl, lays_alloc2 _ _ _⟩
def vpR (n : Nt) : Bool := (rootR n.2.1 || validR n.2.1) && !decide (n.2.1 = n.1)
set_option maxRecDepth 100000 in
set_option maxHeartbeats 2000000 in
theorem vp_any (n : Nt) (w : World) : Calls Tryz.prog 25 #[nv n] w fun e w' => e = .returned (.bool (vpR n)) ∧ Below w.heap.size w w' := by
  have HE : Hid (vpR n = ((rootR n.2.1 || validR n.2.1) && !decide (n.2.1 = n.1))) := rfl
  have HRo := Lib.hid (fun w => root_any n.2.1 w)
  have HVa := Lib.hid (fun w => valid_any n.2.1 w)
  have hne := fun w => neq_dot n.2.1 n.1 w
  generalize rootR n.2.1 = rv at *
  generalize validR n.2.1 = pv at *
  generalize decide (n.2.1 = n.1) = b at *
  have HK := Lib.hid (Nb.new w n)
  have HB := Lib.hid (bel_box w (.cells (nc n) 25))
  obtain ⟨⟨d1, d2⟩, ⟨p1, p2⟩, t, q⟩ := n
  generalize vpR ((d1, d2), (p1, p2), t, q) = R at *
  go_enter Tryz.func25, Tryz.ntmps25
  go_wp2_with fail
  generalize w.alloc (.cells #[.int .i64 d1, .int .i64 d2, .int .i64 p1, .int .i64 p2, .int .i64 t, .int .i32 q] 25) = w0 at *
  obtain ⟨k0, k1, k2, k3, k4, k5⟩ := HK.out
  refine (HRo.out _).mono ?_
  rintro e w1 ⟨rfl, hb⟩
  replace HK := Lib.hid (HK.out.keep hb)
  replace HB := bel_tr HB hb
  clear hb k0 k1 k2 k3 k4 k5
  obtain ⟨k0, k1, k2, k3, k4, k5⟩ := HK.out
  cases rv
  · go_wp2_with fail
    refine (HVa.out _).mono ?_
    rintro e w2 ⟨rfl, hb⟩
    replace HK := Lib.hid (HK.out.keep hb)
    replace HB := bel_tr HB hb
    clear hb k0 k1 k2 k3 k4 k5
    obtain ⟨k0, k1, k2, k3, k4, k5⟩ := HK.out
    cases pv
    · go_wp2_with fail
      go_ret
      exact ⟨by rw [HE.out]; simp, HB.out⟩
    · go_wp2_with fail
      go_ret
      exact ⟨by rw [HE.out]; simp, HB.out⟩
  · go_wp2_with fail
    go_ret
    exact ⟨by rw [HE.out]; simp, HB.out⟩
set_option maxRecDepth 100000 in
set_option maxHeartbeats 2000000 in
theorem validN_any (n : Nt) (w : World) : Calls Tryz.prog 8 #[nv n] w fun e w' => e = .returned (.bool (validN n)) ∧ Below w.heap.size w w' := by
  have HE : Hid (validN n = (validR n.1 && vpR n && decide (1 ≤ n.2.2.1) && decide (n.2.2.1 ≤ 4611686018427387904) && (deadN n || R.vld n.2.2.2))) := by show _ = _; unfold validN vpR deadN; simp only [Bool.and_assoc]
  have HVa := Lib.hid (fun w => D.valid_any n.1 w)
  have HVp := Lib.hid (fun w => vp_any n w)
  have HDe := Lib.hid (fun w => dead_any n w)
  have HRu := Lib.hid (fun w => R.valid_any n.2.2.2 w)
  generalize validR n.1 = bv at *
  generalize vpR n = pv at *
  generalize deadN n = dd at *
  generalize R.vld n.2.2.2 = rr at *
  have HK := Lib.hid (Nb.new w n)
  have HB := Lib.hid (bel_box w (.cells (nc n) 25))
  obtain ⟨⟨d1, d2⟩, ⟨p1, p2⟩, t, q⟩ := n
  generalize validN ((d1, d2), (p1, p2), t, q) = R at *
  go_enter Tryz.func8, Tryz.ntmps8
  go_wp2_with fail
  generalize w.alloc (.cells #[.int .i64 d1, .int .i64 d2, .int .i64 p1, .int .i64 p2, .int .i64 t, .int .i32 q] 25) = w0 at *
  obtain ⟨k0, k1, k2, k3, k4, k5⟩ := HK.out
  refine (HVa.out _).mono ?_
  rintro e w1 ⟨rfl, hb⟩
  replace HK := Lib.hid (HK.out.keep hb)
  replace HB := bel_tr HB hb
  clear hb k0 k1 k2 k3 k4 k5
  obtain ⟨k0, k1, k2, k3, k4, k5⟩ := HK.out
  cases bv
  · go_wp2_with fail
    go_ret
    exact ⟨by rw [HE.out]; simp, HB.out⟩
  · go_wp2_with fail
    refine (HVp.out _).mono ?_
    rintro e w2 ⟨rfl, hb⟩
    replace HK := Lib.hid (HK.out.keep hb)
    replace HB := bel_tr HB hb
    clear hb k0 k1 k2 k3 k4 k5
    obtain ⟨k0, k1, k2, k3, k4, k5⟩ := HK.out
    cases pv
    · go_wp2_with fail
      go_ret
      exact ⟨by rw [HE.out]; simp, HB.out⟩
    · by_cases h1 : 1 ≤ t
      · by_cases h2 : t ≤ 4611686018427387904
        · go_wp2_with fail
          refine (HDe.out _).mono ?_
          rintro e w3 ⟨rfl, hb⟩
          replace hb := hb.bel
          replace HK := Lib.hid (HK.out.keep hb)
          replace HB := bel_tr HB hb
          clear hb k0 k1 k2 k3 k4 k5
          obtain ⟨k0, k1, k2, k3, k4, k5⟩ := HK.out
          cases dd
          · go_wp2_with fail
            refine (HRu.out _).mono ?_
            rintro e w9 ⟨rfl, rfl⟩
            go_wp2_with fail
            go_ret
            exact ⟨by rw [HE.out]; simp [h1, h2], HB.out⟩
          · go_wp2_with fail
            go_ret
            exact ⟨by rw [HE.out]; simp [h1, h2], HB.out⟩
        · go_wp2_with fail
          go_ret
          exact ⟨by rw [HE.out, show decide (t ≤ 4611686018427387904) = false from decide_eq_false (by omega)]; simp, HB.out⟩
      · go_wp2_with fail
        go_ret
        exact ⟨by rw [HE.out, show decide (1 ≤ t) = false from decide_eq_false (by omega)]; simp, HB.out⟩
end Go.Proofs.YtmmcnpcijeahcabGreatDoor.Nd
