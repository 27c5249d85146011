/-
  Layer 14's reference: two nodes merged, whether two states agree, copies, spoilt copies.
-/
import Derived.Test.YtmdebedkljpagaaJnB
import Derived.Test.YtmdebedkljpagaaQCat
namespace Go.Proofs.Ytmdebedkljpagaa.Jn
set_option linter.unusedVariables false
open Go.RowKit V Go.Sort D Nd Qs
attribute [local irreducible] Sch.heldN Sch.stepV Sch.stepE

set_option maxRecDepth 100000 in
set_option maxHeartbeats 4000000 in
theorem merge_ref (a b : Nt) (w : World) : Calls Try.prog 32 #[nv a, nv b] w fun e w' => e = .returned (.tuple #[nv (mrgR a b), .bool (agreeN a b)]) ∧ Below w.heap.size w w' := by
  have HE : Hid (agreeN a b = (decide (a.1 = b.1) && decide (a.2.1 = b.2.1) && !(a.2.2.1 != b.2.2.1) && !((a.2.2.2 != 0) && (b.2.2.2 != 0) && (a.2.2.2 != b.2.2.2)))) := by
    show _ = _
    rw [agree_beq]
    simp only [bne]
    cases (a.2.2.2 == b.2.2.2) <;> cases (a.2.2.2 == 0) <;> cases (b.2.2.2 == 0) <;> simp
  have HM : Hid (mrgR a b = if agreeN a b = true then (if (b.2.2.2 == 0) = true then b else a) else zeroN) := by
    show _ = _
    unfold mrgR
    simp only [beq_iff_eq]
  have hbz := bel_box ((w.alloc (.cells (nc a) 44)).alloc (.cells (nc b) 44)) (.cells #[.int .i64 0, .int .i64 0, .int .i64 0, .int .i64 0, .int .i64 0, .int .i32 0] 44)
  have HK := Lib.hid ((N2.new a b w).keep hbz)
  have HB : Hid (Below w.heap.size w (((w.alloc (.cells (nc a) 44)).alloc (.cells (nc b) 44)).alloc (.cells #[.int .i64 0, .int .i64 0, .int .i64 0, .int .i64 0, .int .i64 0, .int .i32 0] 44))) := bel_tr (bel_two w a b) hbz
  have hz := Zb.new ((w.alloc (.cells (nc a) 44)).alloc (.cells (nc b) 44))
  rw [show ((w.alloc (.cells (nc a) 44)).alloc (.cells (nc b) 44)).heap.size = w.heap.size + 1 + 1 by simp] at hz
  have HZ := Lib.hid hz
  clear hz hbz
  have e1 := fun w => neq_dot a.1 b.1 w
  have e2 := fun w => neq_dot a.2.1 b.2.1 w
  generalize mrgR a b = M at *
  generalize agreeN a b = R at *
  generalize decide (a.1 = b.1) = b1 at *
  generalize decide (a.2.1 = b.2.1) = b2 at *
  rcases b1 with _ | _
  · simp only [Bool.not_false] at e1
    go_enter Try.func32, Try.ntmps32
    go_upto_region 1 with fail
    generalize ((w.alloc (.cells (nc a) 44)).alloc (.cells (nc b) 44)).alloc (.cells #[.int .i64 0, .int .i64 0, .int .i64 0, .int .i64 0, .int .i64 0, .int .i32 0] 44) = w1 at *
    obtain ⟨⟨a0, a1, a2, a3, a4, a5⟩, b0, b1, b2, b3, b4, b5⟩ := HK.out
    obtain ⟨⟨z0, z1, z2, z3, z4, z5⟩, hf⟩ := HZ.out
    have f0 := hf 0
    have f1 := hf 1
    have f2 := hf 2
    have f3 := hf 3
    have f4 := hf 4
    have f5 := hf 5
    clear hf
    go_wp2_with fail
    (try simp only [Exit.inBlock, Exit.then])
    refine bodyPost_ret (v := .tuple #[.agg #[.int .i64 0, .int .i64 0, .int .i64 0, .int .i64 0, .int .i64 0, .int .i32 0], .bool false]) (by rw [results_cell_tmp (fn := Try.f32) (p := 4) (u := 5) (ty := 44) rfl]; go_simp) rfl ?_
    exact ⟨by rw [HM.out, HE.out]; (try rfl), putN_below HB.out (by omega) zeroN⟩
  simp only [Bool.not_true] at e1
  rcases b2 with _ | _
  · simp only [Bool.not_false] at e2
    go_enter Try.func32, Try.ntmps32
    go_upto_region 1 with fail
    generalize ((w.alloc (.cells (nc a) 44)).alloc (.cells (nc b) 44)).alloc (.cells #[.int .i64 0, .int .i64 0, .int .i64 0, .int .i64 0, .int .i64 0, .int .i32 0] 44) = w1 at *
    obtain ⟨⟨a0, a1, a2, a3, a4, a5⟩, b0, b1, b2, b3, b4, b5⟩ := HK.out
    obtain ⟨⟨z0, z1, z2, z3, z4, z5⟩, hf⟩ := HZ.out
    have f0 := hf 0
    have f1 := hf 1
    have f2 := hf 2
    have f3 := hf 3
    have f4 := hf 4
    have f5 := hf 5
    clear hf
    go_wp2_with fail
    (try simp only [Exit.inBlock, Exit.then])
    refine bodyPost_ret (v := .tuple #[.agg #[.int .i64 0, .int .i64 0, .int .i64 0, .int .i64 0, .int .i64 0, .int .i32 0], .bool false]) (by rw [results_cell_tmp (fn := Try.f32) (p := 4) (u := 5) (ty := 44) rfl]; go_simp) rfl ?_
    exact ⟨by rw [HM.out, HE.out]; (try rfl), putN_below HB.out (by omega) zeroN⟩
  simp only [Bool.not_true] at e2
  obtain ⟨b3, h3⟩ : ∃ x, (a.2.2.1 != b.2.2.1) = x := ⟨_, rfl⟩
  rcases b3 with _ | _
  rotate_left
  · rw [h3] at HE
    go_enter Try.func32, Try.ntmps32
    go_upto_region 1 with fail
    generalize ((w.alloc (.cells (nc a) 44)).alloc (.cells (nc b) 44)).alloc (.cells #[.int .i64 0, .int .i64 0, .int .i64 0, .int .i64 0, .int .i64 0, .int .i32 0] 44) = w1 at *
    obtain ⟨⟨a0, a1, a2, a3, a4, a5⟩, b0, b1, b2, b3, b4, b5⟩ := HK.out
    obtain ⟨⟨z0, z1, z2, z3, z4, z5⟩, hf⟩ := HZ.out
    have f0 := hf 0
    have f1 := hf 1
    have f2 := hf 2
    have f3 := hf 3
    have f4 := hf 4
    have f5 := hf 5
    clear hf
    go_wp2_with fail
    (try simp only [Exit.inBlock, Exit.then])
    refine bodyPost_ret (v := .tuple #[.agg #[.int .i64 0, .int .i64 0, .int .i64 0, .int .i64 0, .int .i64 0, .int .i32 0], .bool false]) (by rw [results_cell_tmp (fn := Try.f32) (p := 4) (u := 5) (ty := 44) rfl]; go_simp) rfl ?_
    exact ⟨by rw [HM.out, HE.out]; (try rfl), putN_below HB.out (by omega) zeroN⟩
  obtain ⟨b4, h4⟩ : ∃ x, (a.2.2.2 != 0) = x := ⟨_, rfl⟩
  obtain ⟨b5, h5⟩ : ∃ x, (b.2.2.2 != 0) = x := ⟨_, rfl⟩
  have h5e : (b.2.2.2 == 0) = !b5 := by rw [← h5]; simp only [bne, Bool.not_not]
  rw [h3, h4, h5] at HE
  rw [h5e] at HM
  rcases b4 with _ | _
  · rcases b5 with _ | _
    · simp only [Bool.not_false] at h5e
      go_enter Try.func32, Try.ntmps32
      go_upto_region 1 with fail
      generalize ((w.alloc (.cells (nc a) 44)).alloc (.cells (nc b) 44)).alloc (.cells #[.int .i64 0, .int .i64 0, .int .i64 0, .int .i64 0, .int .i64 0, .int .i32 0] 44) = w1 at *
      obtain ⟨⟨a0, a1, a2, a3, a4, a5⟩, b0, b1, b2, b3, b4, b5⟩ := HK.out
      obtain ⟨⟨z0, z1, z2, z3, z4, z5⟩, hf⟩ := HZ.out
      have f0 := hf 0
      have f1 := hf 1
      have f2 := hf 2
      have f3 := hf 3
      have f4 := hf 4
      have f5 := hf 5
      clear hf
      go_wp2_with fail
      (try simp only [Exit.inBlock, Exit.then])
      refine bodyPost_ret (v := .tuple #[nv b, .bool true]) (by rw [results_cell_tmp (fn := Try.f32) (p := 4) (u := 5) (ty := 44) rfl]; go_simp) rfl ?_
      exact ⟨by rw [HM.out, HE.out]; (try rfl), putN_below HB.out (by omega) b⟩
    · simp only [Bool.not_true] at h5e
      go_enter Try.func32, Try.ntmps32
      go_upto_region 1 with fail
      generalize ((w.alloc (.cells (nc a) 44)).alloc (.cells (nc b) 44)).alloc (.cells #[.int .i64 0, .int .i64 0, .int .i64 0, .int .i64 0, .int .i64 0, .int .i32 0] 44) = w1 at *
      obtain ⟨⟨a0, a1, a2, a3, a4, a5⟩, b0, b1, b2, b3, b4, b5⟩ := HK.out
      obtain ⟨⟨z0, z1, z2, z3, z4, z5⟩, hf⟩ := HZ.out
      have f0 := hf 0
      have f1 := hf 1
      have f2 := hf 2
      have f3 := hf 3
      have f4 := hf 4
      have f5 := hf 5
      clear hf
      go_wp2_with fail
      (try simp only [Exit.inBlock, Exit.then])
      refine bodyPost_ret (v := .tuple #[nv a, .bool true]) (by rw [results_cell_tmp (fn := Try.f32) (p := 4) (u := 5) (ty := 44) rfl]; go_simp) rfl ?_
      exact ⟨by rw [HM.out, HE.out]; (try rfl), putN_below HB.out (by omega) a⟩
  · rcases b5 with _ | _
    · simp only [Bool.not_false] at h5e
      go_enter Try.func32, Try.ntmps32
      go_upto_region 1 with fail
      generalize ((w.alloc (.cells (nc a) 44)).alloc (.cells (nc b) 44)).alloc (.cells #[.int .i64 0, .int .i64 0, .int .i64 0, .int .i64 0, .int .i64 0, .int .i32 0] 44) = w1 at *
      obtain ⟨⟨a0, a1, a2, a3, a4, a5⟩, b0, b1, b2, b3, b4, b5⟩ := HK.out
      obtain ⟨⟨z0, z1, z2, z3, z4, z5⟩, hf⟩ := HZ.out
      have f0 := hf 0
      have f1 := hf 1
      have f2 := hf 2
      have f3 := hf 3
      have f4 := hf 4
      have f5 := hf 5
      clear hf
      go_wp2_with fail
      (try simp only [Exit.inBlock, Exit.then])
      refine bodyPost_ret (v := .tuple #[nv b, .bool true]) (by rw [results_cell_tmp (fn := Try.f32) (p := 4) (u := 5) (ty := 44) rfl]; go_simp) rfl ?_
      exact ⟨by rw [HM.out, HE.out]; (try rfl), putN_below HB.out (by omega) b⟩
    · simp only [Bool.not_true] at h5e
      obtain ⟨b6, h6⟩ : ∃ x, (a.2.2.2 != b.2.2.2) = x := ⟨_, rfl⟩
      rw [h6] at HE
      rcases b6 with _ | _
      · skip
        go_enter Try.func32, Try.ntmps32
        go_upto_region 1 with fail
        generalize ((w.alloc (.cells (nc a) 44)).alloc (.cells (nc b) 44)).alloc (.cells #[.int .i64 0, .int .i64 0, .int .i64 0, .int .i64 0, .int .i64 0, .int .i32 0] 44) = w1 at *
        obtain ⟨⟨a0, a1, a2, a3, a4, a5⟩, b0, b1, b2, b3, b4, b5⟩ := HK.out
        obtain ⟨⟨z0, z1, z2, z3, z4, z5⟩, hf⟩ := HZ.out
        have f0 := hf 0
        have f1 := hf 1
        have f2 := hf 2
        have f3 := hf 3
        have f4 := hf 4
        have f5 := hf 5
        clear hf
        go_wp2_with fail
        (try simp only [Exit.inBlock, Exit.then])
        refine bodyPost_ret (v := .tuple #[nv a, .bool true]) (by rw [results_cell_tmp (fn := Try.f32) (p := 4) (u := 5) (ty := 44) rfl]; go_simp) rfl ?_
        exact ⟨by rw [HM.out, HE.out]; (try rfl), putN_below HB.out (by omega) a⟩
      · skip
        go_enter Try.func32, Try.ntmps32
        go_upto_region 1 with fail
        generalize ((w.alloc (.cells (nc a) 44)).alloc (.cells (nc b) 44)).alloc (.cells #[.int .i64 0, .int .i64 0, .int .i64 0, .int .i64 0, .int .i64 0, .int .i32 0] 44) = w1 at *
        obtain ⟨⟨a0, a1, a2, a3, a4, a5⟩, b0, b1, b2, b3, b4, b5⟩ := HK.out
        obtain ⟨⟨z0, z1, z2, z3, z4, z5⟩, hf⟩ := HZ.out
        have f0 := hf 0
        have f1 := hf 1
        have f2 := hf 2
        have f3 := hf 3
        have f4 := hf 4
        have f5 := hf 5
        clear hf
        go_wp2_with fail
        (try simp only [Exit.inBlock, Exit.then])
        refine bodyPost_ret (v := .tuple #[.agg #[.int .i64 0, .int .i64 0, .int .i64 0, .int .i64 0, .int .i64 0, .int .i32 0], .bool false]) (by rw [results_cell_tmp (fn := Try.f32) (p := 4) (u := 5) (ty := 44) rfl]; go_simp) rfl ?_
        exact ⟨by rw [HM.out, HE.out]; (try rfl), putN_below HB.out (by omega) zeroN⟩

theorem bel_none {w w1 : World} (hg : w.grownBy w1 none) : Below w.heap.size w w1 := ⟨hg.os, hg.tape, hg.output, hg.size, fun b hb => hg.block b hb (by simp)⟩
set_option maxRecDepth 100000 in
set_option maxHeartbeats 2000000 in
theorem copy_ref (l : List Nt) (a : Option Addr) (c : Nat) (w : World) (hx : RowN w a l) (hna : a = none → c = 0) (hlx : l.length ≤ 1000000) :
    Calls Try.prog 9 #[.slice a l.length c] w fun e w' => ∃ v, e = .returned v ∧ ON w' w.heap.size 44 v l ∧ Below w.heap.size w w' := by
  have HX := Lib.hid hx
  have HNa := Lib.hid hna
  have HLe := Lib.hid hlx
  clear hx hna hlx
  go_enter Try.func9, Try.ntmps9
  go_wp2_with (at_builtin; refine wpList_appN rfl _ _ _ rfl Try.underlying23 infoN (.slice none 0 0) [] rfl (ON.nil _ w.heap.size _) a l c l.length rfl rfl HX.out HNa.out (by have := HLe.out; simp only [List.length_nil]; omega) (Nat.le_refl _) ?_)
  intro v5 w5 ho hg _
  have HO := Lib.hid ho
  have HB := Lib.hid (bel_none hg)
  clear ho hg
  go_wp2_with fail
  go_ret
  exact ⟨v5, rfl, HO.out, HB.out⟩
end Go.Proofs.Ytmdebedkljpagaa.Jn
