/-
  What holds between two rounds of a range over an iterator whose body changes the map.
-/
import Derived.Test.YtmmcnpcijeahcaaJIterA
import Derived.Test.YtmmcnpcijeahcaaSchX
namespace Go.Proofs.Ytmmcnpcijeahcaa.J
set_option linter.unusedVariables false
open Go.RowKit V Go.Shelf

section
variable {w w1 w2 : World} {g : Nat} {row : Option Nat}
theorem bel_none (hg : w.grownBy w1 none) : Below w.heap.size w w1 := ⟨hg.os, hg.tape, hg.output, hg.size, fun b hb => hg.block b hb (by simp)⟩
/-- What turns further on lies beyond all that was. -/
theorem gb_low {r : Option Nat} (h : w.grownBy w1 r) (k : w1.grownBy w2 row) (hr : ∀ x, row = some x → w.heap.size ≤ x) : w.grownBy w2 r :=
  ⟨k.os.trans h.os, k.tape.trans h.tape, k.output.trans h.output, Nat.le_trans h.size k.size, fun b hb hn => (k.block b (Nat.lt_of_lt_of_le hb h.size) fun e => by have := hr b e.symm; omega).trans (h.block b hb hn)⟩
theorem bel_low (h : Below w.heap.size w w1) (k : w1.grownBy w2 row) (hr : ∀ x, row = some x → w.heap.size ≤ x) : Below w.heap.size w w2 := bel_none (gb_low (gb_below h none) k hr)
end

/-- Between two rounds: what was before got's box is as it was, but for the map; this too until so many have come; got. -/
def Inv (W : World) (g : Nat) (t : Int) (pre : List Pr) (A : World) : Prop :=
  ∃ v, W.grownBy A (some g) ∧ ((pre.length : Int) < t → Below W.heap.size W A) ∧ Bx A W.heap.size v 27 ∧ OP A (W.heap.size + 1) E v pre
theorem Inv.abF {W : World} {g : Nat} {t : Int} {pre : List Pr} : AbF (W.heap.size + 1) (Inv W g t pre) := fun A A' row ha hg hr => by
  obtain ⟨v, h1, h2, h3, h4⟩ := ha
  have hr' : ∀ x, row = some x → W.heap.size ≤ x := fun x e => by have := (hr x e).1; omega
  exact ⟨v, gb_low h1 hg hr', fun h => bel_low (h2 h) hg hr', h3.gb hg (fun e => by have := (hr _ e.symm).1; omega), OP.abF (B := W.heap.size + 1) A A' row h4 hg hr⟩
/-- One pair more has been written. -/
theorem Inv.step {W A W5 : World} {g : Nat} {t : Int} {pre m' : List Pr} {v v5 : Value} (h1 : W.grownBy A (some g)) (h2 : (pre.length : Int) < t → Below W.heap.size W A) (h3 : Bx A W.heap.size v 27) (h4 : OP A (W.heap.size + 1) E v pre)
    (o : Obj) (hg : (A.alloc o).grownBy W5 v.ownBlock) (ho5 : OP W5 (W.heap.size + 1) E v5 m') :
    W.grownBy (W5.setCell ⟨W.heap.size, 0, none⟩ v5) (some g) ∧ ((pre.length : Int) < t → Below W.heap.size W (W5.setCell ⟨W.heap.size, 0, none⟩ v5)) ∧ Bx (W5.setCell ⟨W.heap.size, 0, none⟩ v5) W.heap.size v5 27 ∧ OP (W5.setCell ⟨W.heap.size, 0, none⟩ v5) (W.heap.size + 1) E v5 m' ∧
      Kp (W.heap.size + 1) A (W5.setCell ⟨W.heap.size, 0, none⟩ v5) ∧ Bx W5 W.heap.size v 27 := by
  have hlt : ∀ x, v.ownBlock = some x → W.heap.size + 1 ≤ x := fun x hx => (h4.lt x hx).1
  have hba := bel_box A o
  have ne1 : some W.heap.size ≠ v.ownBlock := fun e => by have := hlt _ e.symm; omega
  have hx1 : Bx W5 W.heap.size v 27 := (h3.keep hba).gb hg ne1
  have r1 : ∀ x, v.ownBlock = some x → W.heap.size ≤ x := fun x hx => by have := hlt x hx; omega
  have r2 : ∀ x, (some W.heap.size : Option Nat) = some x → W.heap.size ≤ x := fun x hx => by cases hx; exact Nat.le_refl _
  have r0 : ∀ x, (none : Option Nat) = some x → W.heap.size ≤ x := fun x hx => by cases hx
  have hs := gb_setCell W5 W.heap.size 0 v5
  refine ⟨gb_low (gb_low (gb_low h1 (gb_alloc A o none) r0) hg r1) hs r2, fun h => bel_low (bel_low (bel_low (h2 h) (gb_alloc A o none) r0) hg r1) hs r2, hx1.set v5, ho5.keep hs ?_, ((Kp.bel hba).trans (Kp.own (h4.below hba) hg)).trans (Kp.gbLow hs (by omega)), hx1⟩
  rcases hv : v5.ownBlock with _ | x
  · exact .inl rfl
  · exact .inr (by have := (ho5.lt x hv).1; simp; omega)
theorem OP.map {A A' : World} {base g : Nat} {v : Value} {l : List Pr} (h : OP A base E v l) (hg : A.grownBy A' (some g)) (hl : g < base) : OP A' base E v l :=
  h.keep hg (by
    rcases hv : v.ownBlock with _ | x
    · exact .inl rfl
    · exact .inr (by have := (h.lt x hv).1; simp; omega))
/-- What is read ahead of Delete. -/
def Rg (Bm g Bg b : Nat) (v : Value) (q : Int) (w : World) : Prop := w.cell? ⟨Bm, 0, none⟩ = some (.pointer (some ⟨g, 0, none⟩)) ∧ w.cell? ⟨Bg, 0, none⟩ = some v ∧ w.cell? ⟨b, 0, none⟩ = some (.int .i64 q)
theorem load_mpc {w : World} {b : Nat} {v : Value} (h : w.cell? ⟨b, 0, none⟩ = some v) : (Instr.loadAt 25 (.pointer (some ⟨b, 0, none⟩))).run Try.prog w = .ok v w := by
  go_simp
theorem wp_hide {P : Program} {cd : Code} {Q : Exit → Act → World → Prop} {a : Act} {w : World} (h : ∀ Q' : Exit → Act → World → Prop, Hid (∀ e a w, Q e a w → Q' e a w) → cd.wp P Q' a w) : cd.wp P Q a w := h Q (Lib.hid fun _ _ _ h => h)
section
variable {F : Fence} {n : Nat} {P : Program} {fn : Func} {R : Ending → World → Prop} {a : Act} {w : World} {v : Value}
theorem retM (hr : (results fn a.tmps).run P w = .ok v w) (hd : a.defers = []) (hR : R (.returned v) w) : bodyPostM F n P fn R .ret a w := by
  show LeavesInM F n P fn a.tmps R a.defers .returning w
  rw [hd]
  exact ⟨v, hr, hR⟩
theorem retM1 {D : Nat} (hd : a.defers = [{ target := .collected D, args := #[] }]) (hK : w.heap[D]? = some (.deferred (some []))) (hr : (results fn a.tmps).run P (w.putObj D (.deferred none)) = .ok v (w.putObj D (.deferred none))) (hR : R (.returned v) (w.putObj D (.deferred none))) :
    bodyPostM F n P fn R .ret a w := by
  show LeavesInM F n P fn a.tmps R a.defers .returning w
  rw [hd]
  exact ⟨by simp, .inl ⟨_, _, rfl, run_takeDeferred hK, ⟨v, hr, hR⟩⟩⟩
end
/-- What is read at the end. -/
def Rz (Bg R : Nat) (d : Bool) (v : Value) (L : List Pr) (av : Option Addr) (cv : Nat) (w : World) : Prop := Bx w Bg v 27 ∧ Sq w R d L av cv
theorem Rz.keep {Bg R : Nat} {d : Bool} {v : Value} {L : List Pr} {av : Option Addr} {cv : Nat} {w w' : World} (h : Rz Bg R d v L av cv w) (hb : Below w.heap.size w w') : Rz Bg R d v L av cv w' := ⟨h.1.keep hb, h.2.keep hb⟩
theorem load_mb {w : World} {R n c : Nat} {d : Bool} {a : Option Addr} (h : Mb w R d (.slice a n c)) : (Instr.loadAt 29 (.pointer (some ⟨R, 0, none⟩))).run Try.prog w = .ok (mv d a n c) w := by
  have k0 := h.c0
  have k1 := h.c1
  unfold mv
  go_simp
/-- The first of some pairs, at its place. -/
theorem OP.first {A : World} {base n c : Nat} {a : Option Addr} {l : List Pr} (h : OP A base E (.slice a n c) l) (hl : 0 < l.length) : ∃ b, a = some ⟨b, 0, none⟩ ∧ base ≤ b ∧ A.cell? ⟨b, 0, none⟩ = some (.int .i64 l[0].1) := by
  obtain ⟨a', c', e, hr, hn, hc, hx⟩ := h.row
  simp only [Value.slice.injEq] at e
  obtain ⟨rfl, rfl, rfl⟩ := e
  rcases hr with h0 | ⟨b, o, rfl, hh⟩
  · rw [h0] at hl; cases hl
  · obtain ⟨h1, h2, h3, -⟩ := hx _ rfl
    simp only [Addr.mk.injEq, true_and, and_true] at h1
    subst h1
    have := (hh 0 hl).1
    simp only [Nat.zero_mul, Nat.add_zero, Nat.zero_add] at this
    exact ⟨b, rfl, h3, this⟩
end Go.Proofs.Ytmmcnpcijeahcaa.J
