/-
  Which nodes are valid, which are dead, what is killed: the program's.
-/
import Derived.Test.YtfmlenhakejefaaNMem
import Derived.Test.YtfmlenhakejefaaMRName

section
namespace Go.Proofs.Ytfmlenhakejefaa.Nd
set_option linter.unusedVariables false
open Go.RowKit V Go.Sort D

theorem lays_alloc1 (w : World) (o : Obj) : Lays w (w.alloc o) := ⟨0, _, by rw [alloc_eq_grow]; rfl⟩
theorem lays_tr {w w1 w2 : World} (h : Lays w w1) (k : Lays w1 w2) : Lays w w2 := by
  obtain ⟨q, os, rfl⟩ := h
  obtain ⟨q2, os2, rfl⟩ := k
  exact ⟨q + q2, os ++ os2, by rw [← World.drewN_drewN, ← grow_grow]; rfl⟩
theorem bel_t {w w1 w2 : World} (h : Hid (Below w.heap.size w w1)) (hb : Below w1.heap.size w1 w2) : Hid (Below w.heap.size w w2) := bel_tr h hb
set_option maxRecDepth 100000 in
theorem dead_any (n : Nt) (w : World) : Calls Try.prog 63 #[nv n] w fun e w' => e = .returned (.bool (deadN n)) ∧ Lays w w' := by
  have HE : Hid (deadN n = decide (n.2.2.2 = 0)) := rfl
  obtain ⟨⟨d1, d2⟩, ⟨p1, p2⟩, t, q⟩ := n
  generalize deadN ((d1, d2), (p1, p2), t, q) = R at *
  by_cases h : q = 0
  · subst h
    go_enter Try.func63, Try.ntmps63
    go_wp2_with fail
    go_ret
    exact ⟨by rw [HE.out]; rfl, lays_alloc1 _ _⟩
  · have hq : (q == 0) = false := by simpa using h
    have HF : Hid (decide (q = 0) = false) := decide_eq_false h
    clear h
    go_enter Try.func63, Try.ntmps63
    go_wp2_with fail
    go_ret
    exact ⟨by rw [HE.out, HF.out]; rfl, lays_alloc1 _ _⟩
def vpR (n : Nt) : Bool := (rootR n.2.1 || validR n.2.1) && !decide (n.2.1 = n.1)
set_option maxRecDepth 100000 in
set_option maxHeartbeats 2000000 in
theorem vp_any (n : Nt) (w : World) : Calls Try.prog 62 #[nv n] w fun e w' => e = .returned (.bool (vpR n)) ∧ Below w.heap.size w w' := by
  have HE : Hid (vpR n = ((rootR n.2.1 || validR n.2.1) && !decide (n.2.1 = n.1))) := rfl
  have HRo := Lib.hid (fun w => root_any n.2.1 w)
  have HVa := Lib.hid (fun w => valid_any n.2.1 w)
  have hne := fun w => neq_dot n.2.1 n.1 w
  generalize rootR n.2.1 = rv at *
  generalize validR n.2.1 = pv at *
  generalize decide (n.2.1 = n.1) = b at *
  have HK := Lib.hid (Nb.new w n)
  have HB := Lib.hid (bel_box w (.cells (nc n) 38))
  obtain ⟨⟨d1, d2⟩, ⟨p1, p2⟩, t, q⟩ := n
  generalize vpR ((d1, d2), (p1, p2), t, q) = R at *
  go_enter Try.func62, Try.ntmps62
  go_wp2_with fail
  generalize w.alloc (.cells #[.int .i64 d1, .int .i64 d2, .int .i64 p1, .int .i64 p2, .int .i64 t, .int .i32 q] 38) = w0 at *
  obtain ⟨k0, k1, k2, k3, k4, k5⟩ := HK.out
  refine (HRo.out _).mono ?_
  rintro e w1 ⟨rfl, hb⟩
  replace HK := Lib.hid (HK.out.keep hb)
  replace HB := bel_tr HB hb
  clear hb k0 k1 k2 k3 k4 k5
  obtain ⟨k0, k1, k2, k3, k4, k5⟩ := HK.out
  cases rv
  · go_wp2_with fail
    refine (HVa.out _).mono ?_
    rintro e w2 ⟨rfl, hb⟩
    replace HK := Lib.hid (HK.out.keep hb)
    replace HB := bel_tr HB hb
    clear hb k0 k1 k2 k3 k4 k5
    obtain ⟨k0, k1, k2, k3, k4, k5⟩ := HK.out
    cases pv
    · go_wp2_with fail
      go_ret
      exact ⟨by rw [HE.out]; simp, HB.out⟩
    · go_wp2_with fail
      go_ret
      exact ⟨by rw [HE.out]; simp, HB.out⟩
  · go_wp2_with fail
    go_ret
    exact ⟨by rw [HE.out]; simp, HB.out⟩
set_option maxRecDepth 100000 in
set_option maxHeartbeats 2000000 in
theorem validN_any (n : Nt) (w : World) : Calls Try.prog 50 #[nv n] w fun e w' => e = .returned (.bool (validN n)) ∧ Below w.heap.size w w' := by
  have HE : Hid (validN n = (validR n.1 && vpR n && decide (1 ≤ n.2.2.1) && decide (n.2.2.1 ≤ 4611686018427387904) && (deadN n || R.vld n.2.2.2))) := by show _ = _; unfold validN vpR deadN; simp only [Bool.and_assoc]
  have HVa := Lib.hid (fun w => D.valid_any n.1 w)
  have HVp := Lib.hid (fun w => vp_any n w)
  have HDe := Lib.hid (fun w => dead_any n w)
  have HRu := Lib.hid (fun w => R.valid_any n.2.2.2 w)
  generalize validR n.1 = bv at *
  generalize vpR n = pv at *
  generalize deadN n = dd at *
  generalize R.vld n.2.2.2 = rr at *
  have HK := Lib.hid (Nb.new w n)
  have HB := Lib.hid (bel_box w (.cells (nc n) 38))
  obtain ⟨⟨d1, d2⟩, ⟨p1, p2⟩, t, q⟩ := n
  generalize validN ((d1, d2), (p1, p2), t, q) = R at *
  go_enter Try.func50, Try.ntmps50
  go_wp2_with fail
  generalize w.alloc (.cells #[.int .i64 d1, .int .i64 d2, .int .i64 p1, .int .i64 p2, .int .i64 t, .int .i32 q] 38) = w0 at *
  obtain ⟨k0, k1, k2, k3, k4, k5⟩ := HK.out
  refine (HVa.out _).mono ?_
  rintro e w1 ⟨rfl, hb⟩
  replace HK := Lib.hid (HK.out.keep hb)
  replace HB := bel_tr HB hb
  clear hb k0 k1 k2 k3 k4 k5
  obtain ⟨k0, k1, k2, k3, k4, k5⟩ := HK.out
  cases bv
  · go_wp2_with fail
    go_ret
    exact ⟨by rw [HE.out]; simp, HB.out⟩
  · go_wp2_with fail
    refine (HVp.out _).mono ?_
    rintro e w2 ⟨rfl, hb⟩
    replace HK := Lib.hid (HK.out.keep hb)
    replace HB := bel_tr HB hb
    clear hb k0 k1 k2 k3 k4 k5
    obtain ⟨k0, k1, k2, k3, k4, k5⟩ := HK.out
    cases pv
    · go_wp2_with fail
      go_ret
      exact ⟨by rw [HE.out]; simp, HB.out⟩
    · by_cases h1 : 1 ≤ t
      · by_cases h2 : t ≤ 4611686018427387904
        · go_wp2_with fail
          refine (HDe.out _).mono ?_
          rintro e w3 ⟨rfl, hb⟩
          replace hb := hb.bel
          replace HK := Lib.hid (HK.out.keep hb)
          replace HB := bel_tr HB hb
          clear hb k0 k1 k2 k3 k4 k5
          obtain ⟨k0, k1, k2, k3, k4, k5⟩ := HK.out
          cases dd
          · go_wp2_with fail
            refine (HRu.out _).mono ?_
            rintro e w9 ⟨rfl, rfl⟩
            go_wp2_with fail
            go_ret
            exact ⟨by rw [HE.out]; simp [h1, h2], HB.out⟩
          · go_wp2_with fail
            go_ret
            exact ⟨by rw [HE.out]; simp [h1, h2], HB.out⟩
        · go_wp2_with fail
          go_ret
          exact ⟨by rw [HE.out, show decide (t ≤ 4611686018427387904) = false from decide_eq_false (by omega)]; simp, HB.out⟩
      · go_wp2_with fail
        go_ret
        exact ⟨by rw [HE.out, show decide (1 ≤ t) = false from decide_eq_false (by omega)]; simp, HB.out⟩
end Go.Proofs.Ytfmlenhakejefaa.Nd
end

/-
  Before, agree and Merge of the program.
-/
section
namespace Go.Proofs.Ytfmlenhakejefaa.Nd
set_option linter.unusedVariables false
open Go.RowKit V Go.Sort D
attribute [local irreducible] Sch.heldN Sch.stepV Sch.stepE

/-- Two boxes with a node each. -/
def N2 (g h : Nat) (a b : Nt) (w : World) : Prop := Nb w g a ∧ Nb w h b
theorem N2.keep {g h : Nat} {a b : Nt} {w w' : World} (k : N2 g h a b w) (hb : Below w.heap.size w w') : N2 g h a b w' := ⟨k.1.keep hb, k.2.keep hb⟩
theorem N2.new (a b : Nt) (w : World) : N2 w.heap.size (w.heap.size + 1) a b ((w.alloc (.cells (nc a) 38)).alloc (.cells (nc b) 38)) := by
  have h := Nb.new (w.alloc (.cells (nc a) 38)) b
  rw [show (w.alloc (.cells (nc a) 38)).heap.size = w.heap.size + 1 by simp] at h
  exact ⟨(Nb.new w a).keep (bel_box _ _), h⟩
section
variable {g h : Nat} {a b : Nt}
theorem N2.na : ∀ w, N2 g h a b w → (Instr.loadAt 38 (.pointer (some ⟨g, 0, none⟩))).run Try.prog w = .ok (nv a) w := fun w k => k.1.load
theorem N2.nb : ∀ w, N2 g h a b w → (Instr.loadAt 38 (.pointer (some ⟨h, 0, none⟩))).run Try.prog w = .ok (nv b) w := fun w k => k.2.load
theorem N2.ad : ∀ w, N2 g h a b w → (Instr.loadAt 36 (.pointer (some ⟨g, 0, none⟩))).run Try.prog w = .ok (dv a.1) w := fun w k => k.1.loadD
theorem N2.bd : ∀ w, N2 g h a b w → (Instr.loadAt 36 (.pointer (some ⟨h, 0, none⟩))).run Try.prog w = .ok (dv b.1) w := fun w k => k.2.loadD
theorem N2.ap : ∀ w, N2 g h a b w → (Instr.loadAt 36 (.pointer (some ⟨g, 2, none⟩))).run Try.prog w = .ok (dv a.2.1) w := fun w k => k.1.loadP
theorem N2.bp : ∀ w, N2 g h a b w → (Instr.loadAt 36 (.pointer (some ⟨h, 2, none⟩))).run Try.prog w = .ok (dv b.2.1) w := fun w k => k.2.loadP
theorem N2.at : ∀ w, N2 g h a b w → (Instr.loadAt 3 (.pointer (some ⟨g, 4, none⟩))).run Try.prog w = .ok (.int .i64 a.2.2.1) w := fun w k => k.1.loadT
theorem N2.bt : ∀ w, N2 g h a b w → (Instr.loadAt 3 (.pointer (some ⟨h, 4, none⟩))).run Try.prog w = .ok (.int .i64 b.2.2.1) w := fun w k => k.2.loadT
theorem N2.ar : ∀ w, N2 g h a b w → (Instr.loadAt 21 (.pointer (some ⟨g, 5, none⟩))).run Try.prog w = .ok (.int .i32 a.2.2.2) w := fun w k => k.1.loadR
theorem N2.br : ∀ w, N2 g h a b w → (Instr.loadAt 21 (.pointer (some ⟨h, 5, none⟩))).run Try.prog w = .ok (.int .i32 b.2.2.2) w := fun w k => k.2.loadR
end
theorem bel_two (w : World) (a b : Nt) : Below w.heap.size w ((w.alloc (.cells (nc a) 38)).alloc (.cells (nc b) 38)) := (bel_box _ _).alloc (by simp) _

theorem cmpI_pos {x y : Int} : 0 < cmpI x y ↔ y < x := by
  unfold cmpI
  split
  · constructor <;> intro h <;> omega
  · split <;> constructor <;> intro h <;> omega
theorem cmpI_zero {x y : Int} : cmpI x y = 0 ↔ x = y := by
  unfold cmpI
  split
  · constructor <;> intro h <;> omega
  · split <;> constructor <;> intro h <;> omega
theorem before_cmp (a b : Nt) : decide (0 < (if cmpI a.2.2.1 b.2.2.1 = 0 then cmpR a.1 b.1 else cmpI a.2.2.1 b.2.2.1)) = beforeN a b := by
  rw [Bool.eq_iff_iff, decide_eq_true_eq, before_iff]
  by_cases h : a.2.2.1 = b.2.2.1
  · rw [if_pos (cmpI_zero.2 h), cmp_pos]
    exact ⟨fun k => .inr ⟨h, k⟩, fun k => k.elim (fun k => absurd h (by omega)) (·.2)⟩
  · rw [if_neg (fun e => h (cmpI_zero.1 e)), cmpI_pos]
    exact ⟨.inl, fun k => k.elim id fun k => absurd k.1 h⟩

end Go.Proofs.Ytfmlenhakejefaa.Nd
end

/-
  agree and Merge of the program.
-/
section
namespace Go.Proofs.Ytfmlenhakejefaa.Nd
set_option linter.unusedVariables false
open Go.RowKit V Go.Sort D
attribute [local irreducible] Sch.heldN Sch.stepV Sch.stepE

theorem agree_kill (a b : Nt) : agreeN a b = (decide (killN a = killN b) && (decide (a.2.2.2 = b.2.2.2) || deadN a || deadN b)) := by
  rw [Bool.eq_iff_iff, agree_iff]
  unfold deadN killN
  simp only [Bool.and_eq_true, Bool.or_eq_true, decide_eq_true_eq, Prod.mk.injEq, and_true]
  constructor
  · rintro ⟨h1, h2, h3, h4 | h4 | h4⟩
    · exact ⟨⟨h1, h2, h3⟩, .inl (.inl h4)⟩
    · exact ⟨⟨h1, h2, h3⟩, .inl (.inr h4)⟩
    · exact ⟨⟨h1, h2, h3⟩, .inr h4⟩
  · rintro ⟨⟨h1, h2, h3⟩, (h4 | h4) | h4⟩
    · exact ⟨h1, h2, h3, .inl h4⟩
    · exact ⟨h1, h2, h3, .inr (.inl h4)⟩
    · exact ⟨h1, h2, h3, .inr (.inr h4)⟩

end Go.Proofs.Ytfmlenhakejefaa.Nd
end

/-
  Merge of the program.
-/
section
namespace Go.Proofs.Ytfmlenhakejefaa.Nd
set_option linter.unusedVariables false
open Go.RowKit V Go.Sort D

/-- A box with the zero node that may be written. -/
def Zb (w : World) (g : Nat) : Prop := Nb w g zeroN ∧ ∀ o, w.frozen? ⟨g, o, none⟩ = false
theorem Zb.keep {w w' : World} {g : Nat} (h : Zb w g) (hb : Below w.heap.size w w') : Zb w' g := ⟨h.1.keep hb, fun o => (hb.frozen (p := ⟨g, o, none⟩) h.1.lt).trans (h.2 o)⟩
theorem Zb.new (w : World) : Zb (w.alloc (.cells #[.int .i64 0, .int .i64 0, .int .i64 0, .int .i64 0, .int .i64 0, .int .i32 0] 38)) w.heap.size := by
  refine ⟨Nb.new w zeroN, fun o => ?_⟩
  go_simp
/-- A node that is stored. -/
def putN (w : World) (g : Nat) (n : Nt) : World :=
  (((((w.setCell ⟨g, 0, none⟩ (.int .i64 n.1.1)).setCell ⟨g, 1, none⟩ (.int .i64 n.1.2)).setCell ⟨g, 2, none⟩ (.int .i64 n.2.1.1)).setCell ⟨g, 3, none⟩ (.int .i64 n.2.1.2)).setCell ⟨g, 4, none⟩ (.int .i64 n.2.2.1)).setCell ⟨g, 5, none⟩ (.int .i32 n.2.2.2)
theorem putN_below {B : Nat} {a w : World} {g : Nat} (h : Below B a w) (hg : B ≤ g) (n : Nt) : Below B a (putN w g n) :=
  (((((h.setCell (p := ⟨g, 0, none⟩) hg _).setCell (p := ⟨g, 1, none⟩) hg _).setCell (p := ⟨g, 2, none⟩) hg _).setCell (p := ⟨g, 3, none⟩) hg _).setCell (p := ⟨g, 4, none⟩) hg _).setCell (p := ⟨g, 5, none⟩) hg _
theorem merge_def (a b : Nt) : mergeN a b = if (validN a && validN b) = true then (if agreeN a b = true then (if deadN b = true then b else a, 0) else (zeroN, 15)) else (zeroN, 2) := by
  unfold mergeN deadN
  simp only [decide_eq_true_eq]

end Go.Proofs.Ytfmlenhakejefaa.Nd
end

/-
  Valid, Before, Agree and Merge of the reference.
-/
section
namespace Go.Proofs.Ytfmlenhakejefaa.Nd
set_option linter.unusedVariables false
open Go.RowKit V Go.Sort D

def i32 (q : Int) : Prop := -2147483648 ≤ q ∧ q ≤ 2147483647
end Go.Proofs.Ytfmlenhakejefaa.Nd
end

/-
  Agree and Merge of the reference.
-/
section
namespace Go.Proofs.Ytfmlenhakejefaa.Nd
set_option linter.unusedVariables false
open Go.RowKit V Go.Sort D

theorem agree_beq (a b : Nt) : agreeN a b = (decide (a.1 = b.1) && decide (a.2.1 = b.2.1) && (a.2.2.1 == b.2.2.1) && ((a.2.2.2 == b.2.2.2) || (a.2.2.2 == 0) || (b.2.2.2 == 0))) := by
  unfold agreeN
  simp only [Bool.beq_eq_decide_eq]
/-- What the reference merges two valid nodes to. -/
def mrgR (a b : Nt) : Nt × Int := if agreeN a b = true then (if deadN a = true then a else b, 0) else (zeroN, 15)
theorem mrg_valid {a b : Nt} (ha : validN a = true) (hb : validN b = true) : mergeN a b = mrgR a b := by
  rw [merge_comm, merge_def, ha, hb, agree_comm]
  rfl
end Go.Proofs.Ytfmlenhakejefaa.Nd
end
