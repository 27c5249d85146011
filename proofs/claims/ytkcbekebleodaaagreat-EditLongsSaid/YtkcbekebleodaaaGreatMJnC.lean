/-
  Layer 14's reference: two nodes merged, whether two states agree, copies, spoilt copies.
-/
import Derived.Test.YtkcbekebleodaaaGreatMQAsk
import Derived.Test.YtkcbekebleodaaaGreatQCat
import Derived.Test.YtkcbekebleodaaaGreatMDRefB
import Derived.Test.YtkcbekebleodaaaGreatMNMem

section
namespace Go.Proofs.YtkcbekebleodaaaGreat.Jn
set_option linter.unusedVariables false
open Go.RowKit V Go.Sort D Nd Qs
attribute [local irreducible] Sch.heldN Sch.stepV Sch.stepE

set_option maxRecDepth 100000 in
set_option maxHeartbeats 4000000 in
theorem merge_ref (a b : Nt) (w : World) : Calls Tryz.prog 57 #[nv a, nv b] w fun e w' => e = .returned (.tuple #[nv (mrgR a b), .bool (agreeN a b)]) ∧ Below w.heap.size w w' := by
  have HE : Hid (agreeN a b = (decide (a.1 = b.1) && decide (a.2.1 = b.2.1) && !(a.2.2.1 != b.2.2.1) && !((a.2.2.2 != 0) && (b.2.2.2 != 0) && (a.2.2.2 != b.2.2.2)))) := by
    show _ = _
    rw [agree_beq]
    simp only [bne]
    cases (a.2.2.2 == b.2.2.2) <;> cases (a.2.2.2 == 0) <;> cases (b.2.2.2 == 0) <;> simp
  have HM : Hid (mrgR a b = if agreeN a b = true then (if (b.2.2.2 == 0) = true then b else a) else zeroN) := by
    show _ = _
    unfold mrgR
    simp only [beq_iff_eq]
  have hbz := bel_box ((w.alloc (.cells (nc a) 53)).alloc (.cells (nc b) 53)) (.cells #[.int .i64 0, .int .i64 0, .int .i64 0, .int .i64 0, .int .i64 0, .int .i32 0] 53)
  have HK := Lib.hid ((N2.new a b w).keep hbz)
  have HB : Hid (Below w.heap.size w (((w.alloc (.cells (nc a) 53)).alloc (.cells (nc b) 53)).alloc (.cells #[.int .i64 0, .int .i64 0, .int .i64 0, .int .i64 0, .int .i64 0, .int .i32 0] 53))) := bel_tr (bel_two w a b) hbz
  have hz := Zb.new ((w.alloc (.cells (nc a) 53)).alloc (.cells (nc b) 53))
  rw [show ((w.alloc (.cells (nc a) 53)).alloc (.cells (nc b) 53)).heap.size = w.heap.size + 1 + 1 by simp] at hz
  have HZ := Lib.hid hz
  clear hz hbz
  have e1 := fun w => neq_dot a.1 b.1 w
  have e2 := fun w => neq_dot a.2.1 b.2.1 w
  generalize mrgR a b = M at *
  generalize agreeN a b = R at *
  generalize decide (a.1 = b.1) = b1 at *
  generalize decide (a.2.1 = b.2.1) = b2 at *
  rcases b1 with _ | _
  · simp only [Bool.not_false] at e1
    go_enter Tryz.func57, Tryz.ntmps57
    go_upto_region 1 with fail
    generalize ((w.alloc (.cells (nc a) 53)).alloc (.cells (nc b) 53)).alloc (.cells #[.int .i64 0, .int .i64 0, .int .i64 0, .int .i64 0, .int .i64 0, .int .i32 0] 53) = w1 at *
    obtain ⟨⟨a0, a1, a2, a3, a4, a5⟩, b0, b1, b2, b3, b4, b5⟩ := HK.out
    obtain ⟨⟨z0, z1, z2, z3, z4, z5⟩, hf⟩ := HZ.out
    have f0 := hf 0
    have f1 := hf 1
    have f2 := hf 2
    have f3 := hf 3
    have f4 := hf 4
    have f5 := hf 5
    clear hf
    go_wp2_with fail
    (try simp only [Exit.inBlock, Exit.then])
    refine bodyPost_ret (v := .tuple #[.agg #[.int .i64 0, .int .i64 0, .int .i64 0, .int .i64 0, .int .i64 0, .int .i32 0], .bool false]) (by rw [results_cell_tmp (fn := Tryz.f57) (p := 4) (u := 5) (ty := 53) rfl]; go_simp) rfl ?_
    exact ⟨by rw [HM.out, HE.out]; (try rfl), putN_below HB.out (by omega) zeroN⟩
  simp only [Bool.not_true] at e1
  rcases b2 with _ | _
  · simp only [Bool.not_false] at e2
    go_enter Tryz.func57, Tryz.ntmps57
    go_upto_region 1 with fail
    generalize ((w.alloc (.cells (nc a) 53)).alloc (.cells (nc b) 53)).alloc (.cells #[.int .i64 0, .int .i64 0, .int .i64 0, .int .i64 0, .int .i64 0, .int .i32 0] 53) = w1 at *
    obtain ⟨⟨a0, a1, a2, a3, a4, a5⟩, b0, b1, b2, b3, b4, b5⟩ := HK.out
    obtain ⟨⟨z0, z1, z2, z3, z4, z5⟩, hf⟩ := HZ.out
    have f0 := hf 0
    have f1 := hf 1
    have f2 := hf 2
    have f3 := hf 3
    have f4 := hf 4
    have f5 := hf 5
    clear hf
    go_wp2_with fail
    (try simp only [Exit.inBlock, Exit.then])
    refine bodyPost_ret (v := .tuple #[.agg #[.int .i64 0, .int .i64 0, .int .i64 0, .int .i64 0, .int .i64 0, .int .i32 0], .bool false]) (by rw [results_cell_tmp (fn := Tryz.f57) (p := 4) (u := 5) (ty := 53) rfl]; go_simp) rfl ?_
    exact ⟨by rw [HM.out, HE.out]; (try rfl), putN_below HB.out (by omega) zeroN⟩
  simp only [Bool.not_true] at e2
  obtain ⟨b3, h3⟩ : ∃ x, (a.2.2.1 != b.2.2.1) = x := ⟨_, rfl⟩
  rcases b3 with _ | _
  rotate_left
  · rw [h3] at HE
    go_enter Tryz.func57, Tryz.ntmps57
    go_upto_region 1 with fail
    generalize ((w.alloc (.cells (nc a) 53)).alloc (.cells (nc b) 53)).alloc (.cells #[.int .i64 0, .int .i64 0, .int .i64 0, .int .i64 0, .int .i64 0, .int .i32 0] 53) = w1 at *
    obtain ⟨⟨a0, a1, a2, a3, a4, a5⟩, b0, b1, b2, b3, b4, b5⟩ := HK.out
    obtain ⟨⟨z0, z1, z2, z3, z4, z5⟩, hf⟩ := HZ.out
    have f0 := hf 0
    have f1 := hf 1
    have f2 := hf 2
    have f3 := hf 3
    have f4 := hf 4
    have f5 := hf 5
    clear hf
    go_wp2_with fail
    (try simp only [Exit.inBlock, Exit.then])
    refine bodyPost_ret (v := .tuple #[.agg #[.int .i64 0, .int .i64 0, .int .i64 0, .int .i64 0, .int .i64 0, .int .i32 0], .bool false]) (by rw [results_cell_tmp (fn := Tryz.f57) (p := 4) (u := 5) (ty := 53) rfl]; go_simp) rfl ?_
    exact ⟨by rw [HM.out, HE.out]; (try rfl), putN_below HB.out (by omega) zeroN⟩
  obtain ⟨b4, h4⟩ : ∃ x, (a.2.2.2 != 0) = x := ⟨_, rfl⟩
  obtain ⟨b5, h5⟩ : ∃ x, (b.2.2.2 != 0) = x := ⟨_, rfl⟩
  have h5e : (b.2.2.2 == 0) = !b5 := by rw [← h5]; simp only [bne, Bool.not_not]
  rw [h3, h4, h5] at HE
  rw [h5e] at HM
  rcases b4 with _ | _
  · rcases b5 with _ | _
    · simp only [Bool.not_false] at h5e
      go_enter Tryz.func57, Tryz.ntmps57
      go_upto_region 1 with fail
      generalize ((w.alloc (.cells (nc a) 53)).alloc (.cells (nc b) 53)).alloc (.cells #[.int .i64 0, .int .i64 0, .int .i64 0, .int .i64 0, .int .i64 0, .int .i32 0] 53) = w1 at *
      obtain ⟨⟨a0, a1, a2, a3, a4, a5⟩, b0, b1, b2, b3, b4, b5⟩ := HK.out
      obtain ⟨⟨z0, z1, z2, z3, z4, z5⟩, hf⟩ := HZ.out
      have f0 := hf 0
      have f1 := hf 1
      have f2 := hf 2
      have f3 := hf 3
      have f4 := hf 4
      have f5 := hf 5
      clear hf
      go_wp2_with fail
      (try simp only [Exit.inBlock, Exit.then])
      refine bodyPost_ret (v := .tuple #[nv b, .bool true]) (by rw [results_cell_tmp (fn := Tryz.f57) (p := 4) (u := 5) (ty := 53) rfl]; go_simp) rfl ?_
      exact ⟨by rw [HM.out, HE.out]; (try rfl), putN_below HB.out (by omega) b⟩
    · simp only [Bool.not_true] at h5e
      go_enter Tryz.func57, Tryz.ntmps57
      go_upto_region 1 with fail
      generalize ((w.alloc (.cells (nc a) 53)).alloc (.cells (nc b) 53)).alloc (.cells #[.int .i64 0, .int .i64 0, .int .i64 0, .int .i64 0, .int .i64 0, .int .i32 0] 53) = w1 at *
      obtain ⟨⟨a0, a1, a2, a3, a4, a5⟩, b0, b1, b2, b3, b4, b5⟩ := HK.out
      obtain ⟨⟨z0, z1, z2, z3, z4, z5⟩, hf⟩ := HZ.out
      have f0 := hf 0
      have f1 := hf 1
      have f2 := hf 2
      have f3 := hf 3
      have f4 := hf 4
      have f5 := hf 5
      clear hf
      go_wp2_with fail
      (try simp only [Exit.inBlock, Exit.then])
      refine bodyPost_ret (v := .tuple #[nv a, .bool true]) (by rw [results_cell_tmp (fn := Tryz.f57) (p := 4) (u := 5) (ty := 53) rfl]; go_simp) rfl ?_
      exact ⟨by rw [HM.out, HE.out]; (try rfl), putN_below HB.out (by omega) a⟩
  · rcases b5 with _ | _
    · simp only [Bool.not_false] at h5e
      go_enter Tryz.func57, Tryz.ntmps57
      go_upto_region 1 with fail
      generalize ((w.alloc (.cells (nc a) 53)).alloc (.cells (nc b) 53)).alloc (.cells #[.int .i64 0, .int .i64 0, .int .i64 0, .int .i64 0, .int .i64 0, .int .i32 0] 53) = w1 at *
      obtain ⟨⟨a0, a1, a2, a3, a4, a5⟩, b0, b1, b2, b3, b4, b5⟩ := HK.out
      obtain ⟨⟨z0, z1, z2, z3, z4, z5⟩, hf⟩ := HZ.out
      have f0 := hf 0
      have f1 := hf 1
      have f2 := hf 2
      have f3 := hf 3
      have f4 := hf 4
      have f5 := hf 5
      clear hf
      go_wp2_with fail
      (try simp only [Exit.inBlock, Exit.then])
      refine bodyPost_ret (v := .tuple #[nv b, .bool true]) (by rw [results_cell_tmp (fn := Tryz.f57) (p := 4) (u := 5) (ty := 53) rfl]; go_simp) rfl ?_
      exact ⟨by rw [HM.out, HE.out]; (try rfl), putN_below HB.out (by omega) b⟩
    · simp only [Bool.not_true] at h5e
      obtain ⟨b6, h6⟩ : ∃ x, (a.2.2.2 != b.2.2.2) = x := ⟨_, rfl⟩
      rw [h6] at HE
      rcases b6 with _ | _
      · skip
        go_enter Tryz.func57, Tryz.ntmps57
        go_upto_region 1 with fail
        generalize ((w.alloc (.cells (nc a) 53)).alloc (.cells (nc b) 53)).alloc (.cells #[.int .i64 0, .int .i64 0, .int .i64 0, .int .i64 0, .int .i64 0, .int .i32 0] 53) = w1 at *
        obtain ⟨⟨a0, a1, a2, a3, a4, a5⟩, b0, b1, b2, b3, b4, b5⟩ := HK.out
        obtain ⟨⟨z0, z1, z2, z3, z4, z5⟩, hf⟩ := HZ.out
        have f0 := hf 0
        have f1 := hf 1
        have f2 := hf 2
        have f3 := hf 3
        have f4 := hf 4
        have f5 := hf 5
        clear hf
        go_wp2_with fail
        (try simp only [Exit.inBlock, Exit.then])
        refine bodyPost_ret (v := .tuple #[nv a, .bool true]) (by rw [results_cell_tmp (fn := Tryz.f57) (p := 4) (u := 5) (ty := 53) rfl]; go_simp) rfl ?_
        exact ⟨by rw [HM.out, HE.out]; (try rfl), putN_below HB.out (by omega) a⟩
      · skip
        go_enter Tryz.func57, Tryz.ntmps57
        go_upto_region 1 with fail
        generalize ((w.alloc (.cells (nc a) 53)).alloc (.cells (nc b) 53)).alloc (.cells #[.int .i64 0, .int .i64 0, .int .i64 0, .int .i64 0, .int .i64 0, .int .i32 0] 53) = w1 at *
        obtain ⟨⟨a0, a1, a2, a3, a4, a5⟩, b0, b1, b2, b3, b4, b5⟩ := HK.out
        obtain ⟨⟨z0, z1, z2, z3, z4, z5⟩, hf⟩ := HZ.out
        have f0 := hf 0
        have f1 := hf 1
        have f2 := hf 2
        have f3 := hf 3
        have f4 := hf 4
        have f5 := hf 5
        clear hf
        go_wp2_with fail
        (try simp only [Exit.inBlock, Exit.then])
        refine bodyPost_ret (v := .tuple #[.agg #[.int .i64 0, .int .i64 0, .int .i64 0, .int .i64 0, .int .i64 0, .int .i32 0], .bool false]) (by rw [results_cell_tmp (fn := Tryz.f57) (p := 4) (u := 5) (ty := 53) rfl]; go_simp) rfl ?_
        exact ⟨by rw [HM.out, HE.out]; (try rfl), putN_below HB.out (by omega) zeroN⟩

theorem bel_none {w w1 : World} (hg : w.grownBy w1 none) : Below w.heap.size w w1 := ⟨hg.os, hg.tape, hg.output, hg.size, fun b hb => hg.block b hb (by simp)⟩
set_option maxRecDepth 100000 in
set_option maxHeartbeats 2000000 in
theorem copy_ref (l : List Nt) (a : Option Addr) (c : Nat) (w : World) (hx : RowN w a l) (hna : a = none → c = 0) (hlx : l.length ≤ 1000000) :
    Calls Tryz.prog 11 #[.slice a l.length c] w fun e w' => ∃ v, e = .returned v ∧ ON w' w.heap.size 53 v l ∧ Below w.heap.size w w' := by
  have HX := Lib.hid hx
  have HNa := Lib.hid hna
  have HLe := Lib.hid hlx
  clear hx hna hlx
  go_enter Tryz.func11, Tryz.ntmps11
  go_wp2_with (at_builtin; refine wpList_appN rfl _ _ _ rfl Tryz.underlying23 infoN (.slice none 0 0) [] rfl (ON.nil _ w.heap.size _) a l c l.length rfl rfl HX.out HNa.out (by have := HLe.out; simp only [List.length_nil]; omega) (Nat.le_refl _) ?_)
  intro v5 w5 ho hg _
  have HO := Lib.hid ho
  have HB := Lib.hid (bel_none hg)
  clear ho hg
  go_wp2_with fail
  go_ret
  exact ⟨v5, rfl, HO.out, HB.out⟩
end Go.Proofs.YtkcbekebleodaaaGreat.Jn
end

/-
  Layer 14's reference: whether two states agree.
-/
section
namespace Go.Proofs.YtkcbekebleodaaaGreat.Jn
set_option linter.unusedVariables false
open Go.RowKit V Go.Sort D Nd Qs
attribute [local irreducible] Sch.heldN Sch.stepV Sch.stepE

theorem idx_eq {l : List Nt} {d : Dt} : (idxS l d = -1 ∧ atS l d = none) ∨ ∃ k, ∃ hk : k < l.length, idxS l d = (k : Int) ∧ atS l d = some l[k] := by
  by_cases h : ∃ k, ∃ hk : k < l.length, l[k].1 = d ∧ ∀ j (hj : j < l.length), j < k → l[j].1 ≠ d
  · obtain ⟨k, hk, e, hn⟩ := h
    obtain ⟨h1, h2⟩ := idx_hit hk hn e
    exact .inr ⟨k, hk, h1, h2⟩
  · have hn : ∀ j (hj : j < l.length), l[j].1 ≠ d := by
      intro j
      induction j using Nat.strongRecOn with
      | ind j ih => exact fun hj e => h ⟨j, hj, e, fun i hi hij => ih i hij hi⟩
    obtain ⟨h1, h2⟩ := idx_none hn
    exact .inl ⟨h1, h2⟩
/-- What one node says of a state. -/
def okS (b : List Nt) (x : Nt) : Bool := match atS b x.1 with | none => true | some y => agreeN x y
theorem agS_def (a b : List Nt) : agS a b = a.all (okS b) := rfl
/-- Two nodes of two rows. -/
def Vab (b1 o1 b2 o2 : Nat) (n m : Nt) (w : World) : Prop := Na w b1 o1 n ∧ Na w b2 o2 m
section
variable {b1 o1 b2 o2 : Nat} {n m : Nt}
theorem Vab.keep {w w' : World} (h : Vab b1 o1 b2 o2 n m w) (hb : Below w.heap.size w w') : Vab b1 o1 b2 o2 n m w' := ⟨h.1.keep hb, h.2.keep hb⟩
theorem Vab.ln : ∀ w, Vab b1 o1 b2 o2 n m w → (Instr.loadAt 53 (.pointer (some ⟨b1, o1, none⟩))).run Tryz.prog w = .ok (nv n) w := fun w k => k.1.load
theorem Vab.lm : ∀ w, Vab b1 o1 b2 o2 n m w → (Instr.loadAt 53 (.pointer (some ⟨b2, o2, none⟩))).run Tryz.prog w = .ok (nv m) w := fun w k => k.2.load
theorem na_gb {w w' : World} {b o r : Nat} {n : Nt} (h : Na w b o n) (hg : w.grownBy w' (some r)) (hne : b ≠ r) : Na w' b o n := by
  have e : w'.heap[b]? = w.heap[b]? := hg.block b (lt_of_cell h.1) (by simpa using hne)
  obtain ⟨h0, h1, h2, h3, h4, h5⟩ := h
  exact ⟨(World.cell?_of_block (a := ⟨b, _, none⟩) e).trans h0, (World.cell?_of_block (a := ⟨b, _, none⟩) e).trans h1, (World.cell?_of_block (a := ⟨b, _, none⟩) e).trans h2, (World.cell?_of_block (a := ⟨b, _, none⟩) e).trans h3, (World.cell?_of_block (a := ⟨b, _, none⟩) e).trans h4, (World.cell?_of_block (a := ⟨b, _, none⟩) e).trans h5⟩
theorem gb_putN (w : World) (g : Nat) (n : Nt) : w.grownBy (Nd.putN w g n) (some g) :=
  gb_trans (gb_trans (gb_trans (gb_trans (gb_trans (gb_setCell _ _ _ _) (gb_setCell _ _ _ _)) (gb_setCell _ _ _ _)) (gb_setCell _ _ _ _)) (gb_setCell _ _ _ _)) (gb_setCell _ _ _ _)
theorem Vab.put {w : World} {g : Nat} (h : Vab b1 o1 b2 o2 n m w) (h1 : b1 < g) (h2 : b2 < g) (x : Nt) : Vab b1 o1 b2 o2 n m (Nd.putN w g x) := ⟨na_gb h.1 (gb_putN w g x) (by omega), na_gb h.2 (gb_putN w g x) (by omega)⟩
theorem Vab.lt {w : World} (h : Vab b1 o1 b2 o2 n m w) : b1 < w.heap.size ∧ b2 < w.heap.size := ⟨lt_of_cell h.1.1, lt_of_cell h.2.1⟩
end
set_option maxRecDepth 100000 in
set_option maxHeartbeats 4000000 in
theorem agree_ref (xs ys : List Nt) (a b : Option Addr) (c d : Nat) (w : World) (hx : RowN w a xs) (hy : RowN w b ys) (hlx : xs.length ≤ 1000000) (hly : ys.length ≤ 1000000) :
    Calls Tryz.prog 27 #[.slice a xs.length c, .slice b ys.length d] w fun e w' => e = .returned (.bool (agS xs ys)) ∧ Below w.heap.size w w' := by
  have HX := Lib.hid hx
  have HY := Lib.hid hy
  have HLy := Lib.hid hly
  have hli : (xs.length : Int) ≤ 1000000 := by omega
  have HF := Lib.hid (fun n w h => find_ref ys n b d w h hly)
  clear hx hy hlx hly
  go_enter Tryz.func27, Tryz.ntmps27
  go_wp2_with fail
  go_loopw [5, 6, 7, 8] (fun i _ _ _ wr => ∃ k : Nat, k ≤ xs.length ∧ i = .int .i64 (k : Int) ∧ Hid (Below w.heap.size w wr) ∧ Hid (∀ j (hj : j < xs.length), j < k → okS ys xs[j] = true)) (fun i _ _ _ _ => xs.length - (intOf i).toNat)
  case atStart => exact ⟨0, Nat.zero_le _, rfl, Below.refl _ _, fun j _ h => by omega⟩
  case round =>
    obtain ⟨k, hk, rfl, hh, HV⟩ := hrel
    by_cases hlt : k < xs.length
    · have hi0 : (k : Int) < (xs.length : Int) := by omega
      obtain ⟨b1, o1, rfl, hna⟩ := na_of (HX.out.keep hh.out) k hlt
      have HYr := Lib.hid (HY.out.keep hh.out)
      have hix := ixS b1 o1 xs.length c k (k : Int) rfl hlt
      have HNo : Hid (okS ys xs[k] = false → agS xs ys = false) := fun h => by
        rw [agS_def, ← Bool.not_eq_true, List.all_eq_true]
        intro h2
        rw [h2 _ (List.getElem_mem hlt)] at h
        cases h
      have HYs : Hid (okS ys xs[k] = true → ∀ j (hj : j < xs.length), j < k + 1 → okS ys xs[j] = true) := fun h j hj hjk => by
        by_cases hjk2 : j = k
        · subst hjk2; exact h
        · exact HV.out j hj (by omega)
      obtain ⟨q, hq⟩ : ∃ q, q = xs[k] := ⟨_, rfl⟩
      rw [← hq] at hna HNo HYs
      clear hq
      have HN := Lib.hid hna
      have HFq := Lib.hid (HF.out q.1)
      have HIx := Lib.hid (idx_eq (l := ys) (d := q.1))
      obtain ⟨n0, n1, -⟩ := hna
      generalize hR : idxS ys q.1 = r at *
      clear hR
      have HQ2 : Hid (okS ys q = match atS ys q.1 with | none => true | some y => agreeN q y) := rfl
      go_wp2_with fail
      refine (HFq.out _ HYr.out).mono ?_
      rintro e w2 ⟨rfl, hb⟩
      have hh2 := bel_tr hh hb
      have HN2 := Lib.hid (HN.out.keep hb)
      have HY2 := Lib.hid (HYr.out.keep hb)
      clear hb HFq n0 n1 HN HYr
      rcases HIx.out with ⟨rfl, hat⟩ | ⟨k2, hk2, rfl, hat⟩
      · rw [hat] at HQ2
        go_wp2_with fail
        go_roundw
        case rel => exact ⟨k + 1, by omega, by go_num, hh2, HYs.out HQ2.out⟩
        case measure => simp [intOf]; omega
      · rw [hat] at HQ2
        have h0 : (0 : Int) ≤ (k2 : Int) := by omega
        obtain ⟨b2, o2, rfl, hnb⟩ := na_of HY2.out k2 hk2
        have hix2 := ixS b2 o2 ys.length d k2 (k2 : Int) rfl hk2
        obtain ⟨p, hp⟩ : ∃ p, p = ys[k2] := ⟨_, rfl⟩
        rw [← hp] at hnb HQ2
        have HQ3 : Hid (okS ys q = agreeN q p) := HQ2.out
        clear hp hat HIx HQ2
        have HM := Lib.hid (fun w => merge_ref q p w)
        generalize mrgR q p = M at *
        generalize agreeN q p = ag at *
        have HK : Hid (Vab b1 (o1 + k * 6) b2 (o2 + k2 * 6) q p w2.drew) := ⟨HN2.out.keep (Below.refl _ _).drew, hnb.keep (Below.refl _ _).drew⟩
        have HB0 : Hid (Below w.heap.size w w2.drew) := hh2.out.drew
        clear hnb HN2 HY2
        go_wp2_with fail
        refine Sch.wp_region_tn (Vab b1 (o1 + k * 6) b2 (o2 + k2 * 6) q p) (.val 0 (.val 1 (.val 2 (.val 3 (.val 4 (.val 5 (.val 6 (.val 7 (.two 8 (.val 9 (.val 10 (.val 11 (.one 12 (.one 13 (.val 14 .done)))))) 12 (.one 8 (.val 9 (.val 10 (.val 11 (.one 13 (.val 14 .done))))))))))))))) (by kernel_rfl) (by kernel_rfl) HK.out ?_
        repeat (first
          | (refine Sch.tn_q rfl rfl rfl (fun K hK => ?_); go_big_quiet_op; (first | refine hK _ ?_ | refine ⟨_, fun _ _ => rfl, hK _ ?_⟩); clear hK K)
          | (refine Sch.tn_chk _ _ _ rfl rfl rfl rfl rfl ?_; simp only [Act.put, List.setIfInBounds_toArray, List.set_cons_zero, List.set_cons_succ])
          | (refine Sch.tn_load _ _ _ _ _ rfl rfl rfl rfl (by first | exact Vab.ln | exact Vab.lm) rfl ?_; simp only [Act.put, List.setIfInBounds_toArray, List.set_cons_zero, List.set_cons_succ]))
        generalize w2.drew = w3 at *
        refine Sch.tn_two ?_ ?_
        · skip
          refine Sch.tn_e rfl rfl (fun K hK => ?_)
          go_wp2_with fail
          refine (HM.out _).mono ?_
          rintro e w4 ⟨rfl, hb⟩
          have HB4 := bel_tr HB0 hb
          have HK4 := Lib.hid (HK.out.keep hb)
          clear hb
          refine hK _ _ HK4.out ?_
          clear hK K
          repeat (first
            | (refine Sch.tn_q rfl rfl rfl (fun K hK => ?_); go_big_quiet_op; (first | refine hK _ ?_ | refine ⟨_, fun _ _ => rfl, hK _ ?_⟩); clear hK K)
            | (refine Sch.tn_chk _ _ _ rfl rfl rfl rfl rfl ?_; simp only [Act.put, List.setIfInBounds_toArray, List.set_cons_zero, List.set_cons_succ])
            | (refine Sch.tn_load _ _ _ _ _ rfl rfl rfl rfl (by first | exact Vab.ln | exact Vab.lm) rfl ?_; simp only [Act.put, List.setIfInBounds_toArray, List.set_cons_zero, List.set_cons_succ]))
          have hz := Zb.new w4
          have hb := bel_box w4 (.cells #[.int .i64 0, .int .i64 0, .int .i64 0, .int .i64 0, .int .i64 0, .int .i32 0] 53)
          have HB5 := bel_tr HB4 hb
          have HK5 := Lib.hid (HK4.out.keep hb)
          have HLt : Hid (b1 < w4.heap.size ∧ b2 < w4.heap.size) := HK4.out.lt
          have HGe : Hid (w.heap.size ≤ w4.heap.size) := HB4.out.size
          refine Sch.tn_e rfl rfl (fun K hK => ?_)
          go_wp2_with fail
          refine hK _ (w4.alloc (.cells #[.int .i64 0, .int .i64 0, .int .i64 0, .int .i64 0, .int .i64 0, .int .i32 0] 53)) HK5.out ?_
          clear hK K hb
          have HZ5 := Lib.hid hz
          clear hz
          generalize w4.alloc (.cells #[.int .i64 0, .int .i64 0, .int .i64 0, .int .i64 0, .int .i64 0, .int .i32 0] 53) = w5 at *
          generalize w4.heap.size = g at *
          obtain ⟨⟨z0, z1, z2, z3, z4, z5⟩, hf⟩ := HZ5.out
          have f0 := hf 0
          have f1 := hf 1
          have f2 := hf 2
          have f3 := hf 3
          have f4 := hf 4
          have f5 := hf 5
          clear hf
          refine Sch.tn_e rfl rfl (fun K hK => ?_)
          go_wp2_with fail
          refine hK _ (Nd.putN w5 g M) (HK5.out.put HLt.out.1 HLt.out.2 M) ?_
          clear hK K z0 z1 z2 z3 z4 z5 f0 f1 f2 f3 f4 f5
          have HB9 := Lib.hid (Nd.putN_below HB5.out HGe.out M)
          generalize Nd.putN w5 g M = w9 at *
          repeat (first
            | (refine Sch.tn_q rfl rfl rfl (fun K hK => ?_); go_big_quiet_op; (first | refine hK _ ?_ | refine ⟨_, fun _ _ => rfl, hK _ ?_⟩); clear hK K)
            | (refine Sch.tn_chk _ _ _ rfl rfl rfl rfl rfl ?_; simp only [Act.put, List.setIfInBounds_toArray, List.set_cons_zero, List.set_cons_succ])
            | (refine Sch.tn_load _ _ _ _ _ rfl rfl rfl rfl (by first | exact Vab.ln | exact Vab.lm) rfl ?_; simp only [Act.put, List.setIfInBounds_toArray, List.set_cons_zero, List.set_cons_succ]))
          refine Sch.tn_n ?_
          rcases ag with _ | _
          · go_wp2_with fail
            go_ret
            exact ⟨by rw [HNo.out HQ3.out]; rfl, HB9.out⟩
          · go_wp2_with fail
            go_roundw
            case rel => exact ⟨k + 1, by omega, by go_num, HB9, HYs.out HQ3.out⟩
            case measure => simp [intOf]; omega
        · have HB3 := HB0
          have HK3 := HK
          have hz := Zb.new w3
          have hb := bel_box w3 (.cells #[.int .i64 0, .int .i64 0, .int .i64 0, .int .i64 0, .int .i64 0, .int .i32 0] 53)
          have HB4 := bel_tr HB3 hb
          have HK4 := Lib.hid (HK3.out.keep hb)
          have HLt : Hid (b1 < w3.heap.size ∧ b2 < w3.heap.size) := HK3.out.lt
          have HGe : Hid (w.heap.size ≤ w3.heap.size) := HB3.out.size
          refine Sch.tn_e rfl rfl (fun K hK => ?_)
          go_wp2_with fail
          refine hK _ (w3.alloc (.cells #[.int .i64 0, .int .i64 0, .int .i64 0, .int .i64 0, .int .i64 0, .int .i32 0] 53)) HK4.out ?_
          clear hK K hb
          have HZ4 := Lib.hid hz
          clear hz
          generalize w3.alloc (.cells #[.int .i64 0, .int .i64 0, .int .i64 0, .int .i64 0, .int .i64 0, .int .i32 0] 53) = w4 at *
          generalize w3.heap.size = g at *
          refine Sch.tn_e rfl rfl (fun K hK => ?_)
          go_wp2_with fail
          refine (HM.out _).mono ?_
          rintro e w5 ⟨rfl, hb⟩
          have HB5 := bel_tr HB4 hb
          have HK5 := Lib.hid (HK4.out.keep hb)
          have HZ5 := Lib.hid (HZ4.out.keep hb)
          clear hb
          refine hK _ _ HK5.out ?_
          clear hK K
          repeat (first
            | (refine Sch.tn_q rfl rfl rfl (fun K hK => ?_); go_big_quiet_op; (first | refine hK _ ?_ | refine ⟨_, fun _ _ => rfl, hK _ ?_⟩); clear hK K)
            | (refine Sch.tn_chk _ _ _ rfl rfl rfl rfl rfl ?_; simp only [Act.put, List.setIfInBounds_toArray, List.set_cons_zero, List.set_cons_succ])
            | (refine Sch.tn_load _ _ _ _ _ rfl rfl rfl rfl (by first | exact Vab.ln | exact Vab.lm) rfl ?_; simp only [Act.put, List.setIfInBounds_toArray, List.set_cons_zero, List.set_cons_succ]))
          obtain ⟨⟨z0, z1, z2, z3, z4, z5⟩, hf⟩ := HZ5.out
          have f0 := hf 0
          have f1 := hf 1
          have f2 := hf 2
          have f3 := hf 3
          have f4 := hf 4
          have f5 := hf 5
          clear hf
          refine Sch.tn_e rfl rfl (fun K hK => ?_)
          go_wp2_with fail
          refine hK _ (Nd.putN w5 g M) (HK5.out.put HLt.out.1 HLt.out.2 M) ?_
          clear hK K z0 z1 z2 z3 z4 z5 f0 f1 f2 f3 f4 f5
          have HB9 := Lib.hid (Nd.putN_below HB5.out HGe.out M)
          generalize Nd.putN w5 g M = w9 at *
          repeat (first
            | (refine Sch.tn_q rfl rfl rfl (fun K hK => ?_); go_big_quiet_op; (first | refine hK _ ?_ | refine ⟨_, fun _ _ => rfl, hK _ ?_⟩); clear hK K)
            | (refine Sch.tn_chk _ _ _ rfl rfl rfl rfl rfl ?_; simp only [Act.put, List.setIfInBounds_toArray, List.set_cons_zero, List.set_cons_succ])
            | (refine Sch.tn_load _ _ _ _ _ rfl rfl rfl rfl (by first | exact Vab.ln | exact Vab.lm) rfl ?_; simp only [Act.put, List.setIfInBounds_toArray, List.set_cons_zero, List.set_cons_succ]))
          refine Sch.tn_n ?_
          rcases ag with _ | _
          · go_wp2_with fail
            go_ret
            exact ⟨by rw [HNo.out HQ3.out]; rfl, HB9.out⟩
          · go_wp2_with fail
            go_roundw
            case rel => exact ⟨k + 1, by omega, by go_num, HB9, HYs.out HQ3.out⟩
            case measure => simp [intOf]; omega
    · obtain rfl : k = xs.length := by omega
      have hend : ¬ (xs.length : Int) < (xs.length : Int) := by omega
      have HT : Hid (agS xs ys = true) := by
        show _ = _
        rw [agS_def, List.all_eq_true]
        intro x hx
        obtain ⟨j, hj, rfl⟩ := List.getElem_of_mem hx
        exact HV.out j hj hj
      go_wp2_with fail
      go_ret
      exact ⟨by rw [HT.out]; rfl, hh.out⟩
end Go.Proofs.YtkcbekebleodaaaGreat.Jn
end

/-
  Rows of nodes of a call's own that are written, and sorted.
-/
section
namespace Go.Proofs.YtkcbekebleodaaaGreat.Qs
set_option linter.unusedVariables false
open Go.RowKit V Go.Sort Go.Shelf D Nd

theorem heap_set {w : World} {g : Nat} {cur : Array Value} {e : TypeId} (h : w.heap[g]? = some (.cells cur e (0, 0))) (i : Nat) (v : Value) : (w.setCell ⟨g, i, none⟩ v).heap[g]? = some (.cells (cur.setIfInBounds i v) e (0, 0)) := by
  simp only [World.setCell, Array.getElem?_modify, if_true, h, Option.map_some]
  simp
theorem on_of {w : World} {base g cap : Nat} {cur : Array Value} {l : List Nt} (hb : base ≤ g) (hg : w.heap[g]? = some (.cells cur E (0, 0))) (hn : l.length ≤ cap) (hc : cap ≤ maxLen) (hs : cur.size = cap * 6)
    (hr : ∀ i (hi : i < l.length) (j : Nat), j < 6 → cur[i * 6 + j]? = (nc l[i])[j]?) : ON w base E (.slice (some ⟨g, 0, none⟩) l.length cap) l := by
  refine ⟨cellsN_length l, .inr ⟨g, cap, cur, rfl, hb, hg, hn, hc, hs, ?_⟩⟩
  apply List.ext_getElem?
  intro t
  rw [List.getElem?_take]
  by_cases ht : t < l.length * 6
  · rw [if_pos ht, Array.getElem?_toList]
    have hi : t / 6 < l.length := by omega
    have h1 := hr (t / 6) hi (t % 6) (by omega)
    have h2 := cellsN_at l (t / 6) hi (t % 6) (by omega)
    have e : t / 6 * 6 + t % 6 = t := by omega
    rw [e] at h1 h2
    rw [h1, h2]
  · rw [if_neg ht, List.getElem?_eq_none (by rw [cellsN_length]; omega)]
theorem ON.cur {w : World} {base : Nat} {v : Value} {l : List Nt} (h : ON w base E v l) : (v = .slice none 0 0 ∧ l = []) ∨ ∃ g cap cur, v = .slice (some ⟨g, 0, none⟩) l.length cap ∧ base ≤ g ∧ w.heap[g]? = some (.cells cur E (0, 0)) ∧ l.length ≤ cap ∧ cap ≤ maxLen ∧ cur.size = cap * 6 ∧ ∀ i (hi : i < l.length) (j : Nat), j < 6 → cur[i * 6 + j]? = (nc l[i])[j]? := by
  rcases h.2 with ⟨rfl, h0⟩ | ⟨g, cap, cur, rfl, hb, hg, hn, hc, hs, ht⟩
  · exact .inl ⟨rfl, List.eq_nil_of_length_eq_zero h0⟩
  · refine .inr ⟨g, cap, cur, rfl, hb, hg, hn, hc, hs, fun i hi j hj => ?_⟩
    rw [← cellsN_at l i hi j hj, ← ht, List.getElem?_take, if_pos (by omega), Array.getElem?_toList]
/-- A node that is stored into a row. -/
def putAt (w : World) (g o : Nat) (n : Nt) : World :=
  (((((w.setCell ⟨g, o, none⟩ (.int .i64 n.1.1)).setCell ⟨g, o + 1, none⟩ (.int .i64 n.1.2)).setCell ⟨g, o + 2, none⟩ (.int .i64 n.2.1.1)).setCell ⟨g, o + 3, none⟩ (.int .i64 n.2.1.2)).setCell ⟨g, o + 4, none⟩ (.int .i64 n.2.2.1)).setCell ⟨g, o + 5, none⟩ (.int .i32 n.2.2.2)
theorem putAt_below {B : Nat} {a w : World} {g : Nat} (h : Below B a w) (hg : B ≤ g) (o : Nat) (n : Nt) : Below B a (putAt w g o n) :=
  (((((h.setCell (p := ⟨g, _, none⟩) hg _).setCell (p := ⟨g, _, none⟩) hg _).setCell (p := ⟨g, _, none⟩) hg _).setCell (p := ⟨g, _, none⟩) hg _).setCell (p := ⟨g, _, none⟩) hg _).setCell (p := ⟨g, _, none⟩) hg _
theorem putAt_gb (w : World) (g o : Nat) (n : Nt) : w.grownBy (putAt w g o n) (some g) :=
  gb_trans (gb_trans (gb_trans (gb_trans (gb_trans (gb_setCell _ _ _ _) (gb_setCell _ _ _ _)) (gb_setCell _ _ _ _)) (gb_setCell _ _ _ _)) (gb_setCell _ _ _ _)) (gb_setCell _ _ _ _)
theorem heap_putAt {w : World} {g : Nat} {cur : Array Value} {e : TypeId} (h : w.heap[g]? = some (.cells cur e (0, 0))) (o : Nat) (n : Nt) : (putAt w g o n).heap[g]? = some (.cells ((((((cur.setIfInBounds o (.int .i64 n.1.1)).setIfInBounds (o + 1) (.int .i64 n.1.2)).setIfInBounds (o + 2) (.int .i64 n.2.1.1)).setIfInBounds (o + 3) (.int .i64 n.2.1.2)).setIfInBounds (o + 4) (.int .i64 n.2.2.1)).setIfInBounds (o + 5) (.int .i32 n.2.2.2)) e (0, 0)) :=
  heap_set (heap_set (heap_set (heap_set (heap_set (heap_set h _ _) _ _) _ _) _ _) _ _) _ _
theorem ON.put {w : World} {base g c m : Nat} {l : List Nt} (h : ON w base E (.slice (some ⟨g, 0, none⟩) m c) l) {k : Nat} (hk : k < l.length) (n : Nt) : ON (putAt w g (k * 6) n) base E (.slice (some ⟨g, 0, none⟩) m c) (l.set k n) := by
  rcases h.cur with ⟨e, -⟩ | ⟨g', cap, cur, e, hb, hg, hn, hc, hs, hr⟩
  · cases e
  · simp only [Value.slice.injEq, Option.some.injEq, Addr.mk.injEq, and_true] at e
    obtain ⟨rfl, rfl, rfl⟩ := e
    have := on_of (l := l.set k n) hb (heap_putAt hg (k * 6) n) (by simpa using hn) hc (by simpa using hs) (fun i hi j hj => ?_)
    · rw [List.length_set] at this; exact this
    · rw [List.length_set] at hi
      simp only [Array.getElem?_setIfInBounds, Array.size_setIfInBounds]
      rw [List.getElem_set]
      by_cases e : k = i
      · subst e
        rw [if_pos rfl]
        match j, hj with
        | 0, _ => simp; omega
        | 1, _ => simp; omega
        | 2, _ => simp; omega
        | 3, _ => simp; omega
        | 4, _ => simp; omega
        | 5, _ => simp; omega
      · rw [if_neg e, if_neg (by omega), if_neg (by omega), if_neg (by omega), if_neg (by omega), if_neg (by omega), if_neg (by omega)]
        exact hr i hi j hj
theorem ON.putTime {w : World} {base g c m : Nat} {l : List Nt} (h : ON w base E (.slice (some ⟨g, 0, none⟩) m c) l) {k : Nat} (hk : k < l.length) (z : Int) : ON (w.setCell ⟨g, k * 6 + 4, none⟩ (.int .i64 z)) base E (.slice (some ⟨g, 0, none⟩) m c) (l.set k (l[k].1, l[k].2.1, z, l[k].2.2.2)) := by
  rcases h.cur with ⟨e, -⟩ | ⟨g', cap, cur, e, hb, hg, hn, hc, hs, hr⟩
  · cases e
  · simp only [Value.slice.injEq, Option.some.injEq, Addr.mk.injEq, and_true] at e
    obtain ⟨rfl, rfl, rfl⟩ := e
    have := on_of (l := l.set k (l[k].1, l[k].2.1, z, l[k].2.2.2)) hb (heap_set hg (k * 6 + 4) (.int .i64 z)) (by simpa using hn) hc (by simpa using hs) (fun i hi j hj => ?_)
    · rw [List.length_set] at this; exact this
    · rw [List.length_set] at hi
      simp only [Array.getElem?_setIfInBounds]
      rw [List.getElem_set]
      by_cases e : k = i
      · subst e
        rw [if_pos rfl]
        by_cases e4 : j = 4
        · subst e4
          simp; omega
        · rw [if_neg (by omega), hr k hi j hj]
          match j, hj, e4 with
          | 0, _, _ => rfl
          | 1, _, _ => rfl
          | 2, _, _ => rfl
          | 3, _, _ => rfl
          | 5, _, _ => rfl
      · rw [if_neg e, if_neg (by omega)]
        exact hr i hi j hj
theorem ON.free {w : World} {base g c m : Nat} {l : List Nt} (h : ON w base E (.slice (some ⟨g, 0, none⟩) m c) l) (o : Nat) : w.frozen? ⟨g, o, none⟩ = false := by
  rcases h.cur with ⟨e, -⟩ | ⟨g', cap, cur, e, hb, hg, hn, hc, hs, hr⟩
  · cases e
  · simp only [Value.slice.injEq, Option.some.injEq, Addr.mk.injEq, and_true] at e
    obtain ⟨rfl, rfl, rfl⟩ := e
    simp [World.frozen?, hg]
theorem ON.na {w : World} {base g m c : Nat} {l : List Nt} (h : ON w base E (.slice (some ⟨g, 0, none⟩) m c) l) (k : Nat) (hk : k < l.length) : Na w g (k * 6) l[k] := by
  obtain ⟨b, o, e, hn⟩ := na_of h.r.1 k hk
  cases e
  rw [Nat.zero_add] at hn
  exact hn
end Go.Proofs.YtkcbekebleodaaaGreat.Qs
end

/-
  Rows of nodes of the call's own that are cut; the library's IndexFunc, exactly, and DeleteFunc, at nodes.
-/
section
namespace Go.Proofs.YtkcbekebleodaaaGreat.Un
set_option linter.unusedVariables false
open Go.RowKit V Go.Sort D Nd Qs

/-! ### Rows that are cut -/
theorem heap_setCells {g : Nat} {e : TypeId} : ∀ (vs : List Value) (o : Nat) {w : World} {cur : Array Value}, w.heap[g]? = some (.cells cur e (0, 0)) →
    ∃ cur', (w.setCells g o vs).heap[g]? = some (.cells cur' e (0, 0)) ∧ cur'.size = cur.size ∧ ∀ t, t < o → cur'[t]? = cur[t]?
  | [], o, w, cur, h => ⟨cur, h, rfl, fun _ _ => rfl⟩
  | v :: vs, o, w, cur, h => by
    obtain ⟨cur', h1, h2, h3⟩ := heap_setCells vs (o + 1) (heap_set h o v)
    refine ⟨cur', h1, by rw [h2]; simp, fun t ht => ?_⟩
    rw [h3 t (by omega), Array.getElem?_setIfInBounds_ne (by omega)]
theorem gb_setCells (g : Nat) : ∀ (vs : List Value) (o : Nat) (w : World), w.grownBy (w.setCells g o vs) (some g)
  | [], o, w => gb_refl _ _
  | v :: vs, o, w => gb_trans (gb_setCell _ _ _ _) (gb_setCells g vs (o + 1) _)
theorem _root_.Go.Proofs.YtkcbekebleodaaaGreat.Qs.ON.clears {w : World} {base g c m : Nat} {l : List Nt} (h : ON w base Qs.E (.slice (some ⟨g, 0, none⟩) m c) l) (k : Nat) (hk : k ≤ l.length) (vs : List Value) : ON (w.setCells g (k * 6) vs) base Qs.E (.slice (some ⟨g, 0, none⟩) k c) (l.take k) := by
  rcases h.cur with ⟨e, -⟩ | ⟨g', cap, cur, e, hb, hg, hn, hc, hs, hr⟩
  · cases e
  · simp only [Value.slice.injEq, Option.some.injEq, Addr.mk.injEq, and_true] at e
    obtain ⟨rfl, rfl, rfl⟩ := e
    have hl : (l.take k).length = k := by rw [List.length_take]; omega
    obtain ⟨cur', h1, h2, h3⟩ := heap_setCells vs (k * 6) hg
    have := on_of (l := l.take k) (base := base) (g := g) (cap := c) (cur := cur') hb h1 (by omega) hc (by rw [h2]; exact hs) (fun i hi j hj => by rw [List.getElem_take, h3 _ (by omega)]; exact hr i (by omega) j hj)
    rwa [hl] at this
theorem run_clearN (w : World) {base g n c0 : Nat} {l : List Nt} (h : ON w base Qs.E (.slice (some ⟨g, 0, none⟩) n c0) l) (k c : Nat) (hk : k < l.length) : ∃ vs, ∀ ty, (Builtin.clear_ #[22] ty #[.slice (some ⟨g, k * 6, none⟩) (l.length - k) c]).run Tryz.prog w = .ok (.tuple #[]) (w.setCells g (k * 6) vs) := by
  have hzc : (Builtin.zeroCells (Value.cells zeroNv) (l.length - k)).toList.length = (l.length - k) * 6 := by simp [Builtin.zeroCells, Value.cells]
  have hzo : ∀ v ∈ (Builtin.zeroCells (Value.cells zeroNv) (l.length - k)).toList, v.oneCell' = true := by
    intro v hv
    simp [Builtin.zeroCells, Value.cells] at hv
    obtain ⟨j, -, rfl⟩ := hv
    have h6 : j % 6 < 6 := Nat.mod_lt _ (by decide)
    generalize j % 6 = t at *
    match t, h6 with
    | 0, _ => rfl
    | 1, _ => rfl
    | 2, _ => rfl
    | 3, _ => rfl
    | 4, _ => rfl
    | 5, _ => rfl
  refine ⟨(Builtin.zeroCells (Value.cells zeroNv) (l.length - k)).toList, fun ty => ?_⟩
  have hcell : ∀ j, j < l.length * 6 → (w.cell? ⟨g, j, none⟩).isSome = true ∧ w.frozen? ⟨g, j, none⟩ = false := by
    intro j hj
    refine ⟨?_, h.free _⟩
    rcases h.cur with ⟨e, -⟩ | ⟨g', cap, cur, e, hb, hg, hn, hc, hs, hr⟩
    · cases e
    · simp only [Value.slice.injEq, Option.some.injEq, Addr.mk.injEq, and_true] at e
      obtain ⟨rfl, rfl, rfl⟩ := e
      have : w.cell? ⟨g, j, none⟩ = cur[j]? := by simp [World.cell?, hg]
      rw [this, Array.getElem?_eq_getElem (by omega)]
      rfl
  have hst := run_storeCells_cells (P := Tryz.prog) g (k * 6) (Builtin.zeroCells (Value.cells zeroNv) (l.length - k)).toList 0 w
    (fun j hj => by rw [Nat.add_zero]; exact (hcell _ (by omega)).1) (fun j hj => by rw [Nat.add_zero]; exact (hcell _ (by omega)).2) hzo
  simp only [Nat.add_zero] at hst
  obtain ⟨m, hm⟩ : ∃ m, l.length - k = m + 1 := ⟨l.length - k - 1, by omega⟩
  rw [hm] at hst ⊢
  have hv := Tryz.zeroValue53
  simp [Builtin.clear_, run_underlying Tryz.underlying22, hv, hst]

/-! ### Where the first one stands -/
def posI (p : Nt → Bool) (l : List Nt) : Int := if l.any p then ((l.takeWhile fun x => !p x).length : Int) else -1
theorem at_parts3 {α : Type} {p : List α} {i : Nat} (hi : i < p.length) : p = p.take i ++ p[i] :: p.drop (i + 1) := by rw [← List.drop_eq_getElem_cons hi, List.take_append_drop]
theorem pos_here {p : Nt → Bool} {l : List Nt} {k : Nat} (hk : k < l.length) (h : p l[k] = true) (hn : ∀ j (hj : j < l.length), j < k → p l[j] = false) : posI p l = (k : Int) := by
  unfold posI
  rw [if_pos (any_here hk h)]
  have e : l.takeWhile (fun x => !p x) = l.take k := by
    conv => lhs; rw [at_parts3 hk]
    rw [List.takeWhile_append_of_pos (fun x hx => ?_), List.takeWhile_cons, if_neg (by rw [h]; decide), List.append_nil]
    obtain ⟨i, hi, rfl⟩ := List.mem_iff_getElem.1 hx
    rw [List.length_take] at hi
    rw [List.getElem_take, hn i (by omega) (by omega)]
    rfl
  rw [e, List.length_take]
  omega
theorem pos_away {p : Nt → Bool} {l : List Nt} (h : ∀ j (hj : j < l.length), p l[j] = false) : posI p l = -1 := by
  unfold posI
  rw [any_away h]
  rfl
end Go.Proofs.YtkcbekebleodaaaGreat.Un
end
