/-
  Merge of the program.
-/
import Derived.Test.YtmmcnpcijeahcabGreatDoorNAgr
namespace Go.Proofs.YtmmcnpcijeahcabGreatDoor.Nd
set_option linter.unusedVariables false
open Go.RowKit V Go.Sort D

/-- A box with the zero node that may be written. -/
def Zb (w : World) (g : Nat) : Prop := Nb w g zeroN ∧ ∀ o, w.frozen? ⟨g, o, none⟩ = false
theorem Zb.keep {w w' : World} {g : Nat} (h : Zb w g) (hb : Below w.heap.size w w') : Zb w' g := ⟨h.1.keep hb, fun o => (hb.frozen (p := ⟨g, o, none⟩) h.1.lt).trans (h.2 o)⟩
theorem Zb.new (w : World) : Zb (w.alloc (.cells #[.int .i64 0, .int .i64 0, .int .i64 0, .int .i64 0, .int .i64 0, .int .i32 0] 25)) w.heap.size := by
  refine ⟨Nb.new w zeroN, fun o => ?_⟩
  go_simp
/-- A node that is stored. -/
def putN (w : World) (g : Nat) (n : Nt) : World :=
  (((((w.setCell ⟨g, 0, none⟩ (.int .i64 n.1.1)).setCell ⟨g, 1, none⟩ (.int .i64 n.1.2)).setCell ⟨g, 2, none⟩ (.int .i64 n.2.1.1)).setCell ⟨g, 3, none⟩ (.int .i64 n.2.1.2)).setCell ⟨g, 4, none⟩ (.int .i64 n.2.2.1)).setCell ⟨g, 5, none⟩ (.int .i32 n.2.2.2)
theorem putN_below {B : Nat} {a w : World} {g : Nat} (h : Below B a w) (hg : B ≤ g) (n : Nt) : Below B a (putN w g n) :=
  (((((h.setCell (p := ⟨g, 0, none⟩) hg _).setCell (p := ⟨g, 1, none⟩) hg _).setCell (p := ⟨g, 2, none⟩) hg _).setCell (p := ⟨g, 3, none⟩) hg _).setCell (p := ⟨g, 4, none⟩) hg _).setCell (p := ⟨g, 5, none⟩) hg _
theorem merge_def (a b : Nt) : mergeN a b = if (validN a && validN b) = true then (if agreeN a b = true then (if deadN b = true then b else a, 0) else (zeroN, 15)) else (zeroN, 2) := by
  unfold mergeN deadN
  simp only [decide_eq_true_eq]

set_option maxRecDepth 100000 in
set_option maxHeartbeats 4000000 in
theorem merge_any (a b : Nt) (w : World) : Calls Tryz.prog 23 #[nv a, nv b] w fun e w' => e = .returned (.tuple #[nv (mergeN a b).1, .int .i64 (mergeN a b).2]) ∧ Below w.heap.size w w' := by
  have HE := Lib.hid (merge_def a b)
  have HVa := Lib.hid (fun w => validN_any a w)
  have HVb := Lib.hid (fun w => validN_any b w)
  have HAg := Lib.hid (fun w => agree_any a b w)
  have HDb := Lib.hid (fun w => dead_any b w)
  have hbz := bel_box ((w.alloc (.cells (nc a) 25)).alloc (.cells (nc b) 25)) (.cells #[.int .i64 0, .int .i64 0, .int .i64 0, .int .i64 0, .int .i64 0, .int .i32 0] 25)
  have HK := Lib.hid ((N2.new a b w).keep hbz)
  have HB : Hid (Below w.heap.size w (((w.alloc (.cells (nc a) 25)).alloc (.cells (nc b) 25)).alloc (.cells #[.int .i64 0, .int .i64 0, .int .i64 0, .int .i64 0, .int .i64 0, .int .i32 0] 25))) := bel_tr (bel_two w a b) hbz
  have hz := Zb.new ((w.alloc (.cells (nc a) 25)).alloc (.cells (nc b) 25))
  rw [show ((w.alloc (.cells (nc a) 25)).alloc (.cells (nc b) 25)).heap.size = w.heap.size + 1 + 1 by simp] at hz
  have HZ := Lib.hid hz
  clear hz hbz
  generalize mergeN a b = M at *
  generalize validN a = va at *
  generalize validN b = vb at *
  generalize agreeN a b = ag at *
  generalize deadN b = db at *
  go_enter Tryz.func23, Tryz.ntmps23
  go_wp2_with fail
  generalize ((w.alloc (.cells (nc a) 25)).alloc (.cells (nc b) 25)).alloc (.cells #[.int .i64 0, .int .i64 0, .int .i64 0, .int .i64 0, .int .i64 0, .int .i32 0] 25) = w1 at *
  obtain ⟨⟨a0, a1, a2, a3, a4, a5⟩, b0, b1, b2, b3, b4, b5⟩ := HK.out
  refine (HVa.out _).mono ?_
  rintro e w2 ⟨rfl, hb⟩
  replace HK := Lib.hid (HK.out.keep hb)
  replace HZ := Lib.hid (HZ.out.keep hb)
  replace HB := bel_tr HB hb
  clear hb a0 a1 a2 a3 a4 a5 b0 b1 b2 b3 b4 b5
  obtain ⟨⟨a0, a1, a2, a3, a4, a5⟩, b0, b1, b2, b3, b4, b5⟩ := HK.out
  rcases va with _ | _
  · obtain ⟨⟨z0, z1, z2, z3, z4, z5⟩, hf⟩ := HZ.out
    have f0 := hf 0
    have f1 := hf 1
    have f2 := hf 2
    have f3 := hf 3
    have f4 := hf 4
    have f5 := hf 5
    clear hf
    go_wp2_with fail
    (try simp only [Exit.inBlock, Exit.then])
    refine bodyPost_ret (v := .tuple #[.agg #[.int .i64 0, .int .i64 0, .int .i64 0, .int .i64 0, .int .i64 0, .int .i32 0], .int .i64 2]) (by rw [results_cell_tmp (fn := Tryz.f23) (p := 4) (u := 5) (ty := 25) rfl]; go_simp) rfl ?_
    rw [HE.out]
    exact ⟨rfl, putN_below HB.out (by omega) zeroN⟩
  · go_wp2_with fail
    refine (HVb.out _).mono ?_
    rintro e w3 ⟨rfl, hb⟩
    replace HK := Lib.hid (HK.out.keep hb)
    replace HZ := Lib.hid (HZ.out.keep hb)
    replace HB := bel_tr HB hb
    clear hb a0 a1 a2 a3 a4 a5 b0 b1 b2 b3 b4 b5
    obtain ⟨⟨a0, a1, a2, a3, a4, a5⟩, b0, b1, b2, b3, b4, b5⟩ := HK.out
    rcases vb with _ | _
    · obtain ⟨⟨z0, z1, z2, z3, z4, z5⟩, hf⟩ := HZ.out
      have f0 := hf 0
      have f1 := hf 1
      have f2 := hf 2
      have f3 := hf 3
      have f4 := hf 4
      have f5 := hf 5
      clear hf
      go_wp2_with fail
      (try simp only [Exit.inBlock, Exit.then])
      refine bodyPost_ret (v := .tuple #[.agg #[.int .i64 0, .int .i64 0, .int .i64 0, .int .i64 0, .int .i64 0, .int .i32 0], .int .i64 2]) (by rw [results_cell_tmp (fn := Tryz.f23) (p := 4) (u := 5) (ty := 25) rfl]; go_simp) rfl ?_
      rw [HE.out]
      exact ⟨rfl, putN_below HB.out (by omega) zeroN⟩
    · go_wp2_with fail
      refine (HAg.out _).mono ?_
      rintro e w4 ⟨rfl, hb⟩
      replace HK := Lib.hid (HK.out.keep hb)
      replace HZ := Lib.hid (HZ.out.keep hb)
      replace HB := bel_tr HB hb
      clear hb a0 a1 a2 a3 a4 a5 b0 b1 b2 b3 b4 b5
      obtain ⟨⟨a0, a1, a2, a3, a4, a5⟩, b0, b1, b2, b3, b4, b5⟩ := HK.out
      rcases ag with _ | _
      · obtain ⟨⟨z0, z1, z2, z3, z4, z5⟩, hf⟩ := HZ.out
        have f0 := hf 0
        have f1 := hf 1
        have f2 := hf 2
        have f3 := hf 3
        have f4 := hf 4
        have f5 := hf 5
        clear hf
        go_wp2_with fail
        (try simp only [Exit.inBlock, Exit.then])
        refine bodyPost_ret (v := .tuple #[.agg #[.int .i64 0, .int .i64 0, .int .i64 0, .int .i64 0, .int .i64 0, .int .i32 0], .int .i64 15]) (by rw [results_cell_tmp (fn := Tryz.f23) (p := 4) (u := 5) (ty := 25) rfl]; go_simp) rfl ?_
        rw [HE.out]
        exact ⟨rfl, putN_below HB.out (by omega) zeroN⟩
      · go_wp2_with fail
        refine (HDb.out _).mono ?_
        rintro e w5 ⟨rfl, hb⟩
        replace hb := hb.bel
        replace HK := Lib.hid (HK.out.keep hb)
        replace HZ := Lib.hid (HZ.out.keep hb)
        replace HB := bel_tr HB hb
        clear hb a0 a1 a2 a3 a4 a5 b0 b1 b2 b3 b4 b5
        obtain ⟨⟨a0, a1, a2, a3, a4, a5⟩, b0, b1, b2, b3, b4, b5⟩ := HK.out
        rcases db with _ | _
        · obtain ⟨⟨z0, z1, z2, z3, z4, z5⟩, hf⟩ := HZ.out
          have f0 := hf 0
          have f1 := hf 1
          have f2 := hf 2
          have f3 := hf 3
          have f4 := hf 4
          have f5 := hf 5
          clear hf
          go_wp2_with fail
          (try simp only [Exit.inBlock, Exit.then])
          refine bodyPost_ret (v := .tuple #[nv a, .int .i64 0]) (by rw [results_cell_tmp (fn := Tryz.f23) (p := 4) (u := 5) (ty := 25) rfl]; go_simp) rfl ?_
          rw [HE.out]
          exact ⟨rfl, putN_below HB.out (by omega) a⟩
        · obtain ⟨⟨z0, z1, z2, z3, z4, z5⟩, hf⟩ := HZ.out
          have f0 := hf 0
          have f1 := hf 1
          have f2 := hf 2
          have f3 := hf 3
          have f4 := hf 4
          have f5 := hf 5
          clear hf
          go_wp2_with fail
          (try simp only [Exit.inBlock, Exit.then])
          refine bodyPost_ret (v := .tuple #[nv b, .int .i64 0]) (by rw [results_cell_tmp (fn := Tryz.f23) (p := 4) (u := 5) (ty := 25) rfl]; go_simp) rfl ?_
          rw [HE.out]
          exact ⟨rfl, putN_below HB.out (by omega) b⟩
end Go.Proofs.YtmmcnpcijeahcabGreatDoor.Nd
