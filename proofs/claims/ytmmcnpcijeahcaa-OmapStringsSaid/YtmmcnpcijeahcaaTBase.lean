/-
  What OmapStrings keeps: a map, Go's own maps beside it, boxes, rows of numbers.
-/
import Derived.Test.YtmmcnpcijeahcaaTNo
import Derived.Test.YtmmcnpcijeahcaaJKnown
import Derived.Test.YtmmcnpcijeahcaaJActs
import Derived.Maps.OwnOps
import Derived.Maps.OwnSet
import Derived.Maps.Views
import Derived.Maps.StringElems
namespace Go.Proofs.Ytmmcnpcijeahcaa.Jt
set_option linter.unusedVariables false
open Go.RowKit V Go.Shelf
open Go.Maps (Keyed int_keyed keyOf_int_mk)

section
variable {w w1 w2 : World} {g : Nat} {row : Option Nat}
theorem bel_none (hg : w.grownBy w1 none) : Below w.heap.size w w1 := ⟨hg.os, hg.tape, hg.output, hg.size, fun b hb => hg.block b hb (by simp)⟩
theorem gb_low {r : Option Nat} (h : w.grownBy w1 r) (k : w1.grownBy w2 row) (hr : ∀ x, row = some x → w.heap.size ≤ x) : w.grownBy w2 r :=
  ⟨k.os.trans h.os, k.tape.trans h.tape, k.output.trans h.output, Nat.le_trans h.size k.size, fun b hb hn => (k.block b (Nat.lt_of_lt_of_le hb h.size) fun e => by have := hr b e.symm; omega).trans (h.block b hb hn)⟩
theorem bel_low (h : Below w.heap.size w w1) (k : w1.grownBy w2 row) (hr : ∀ x, row = some x → w.heap.size ≤ x) : Below w.heap.size w w2 := bel_none (gb_low (gb_below h none) k hr)
theorem wp_hide {P : Program} {cd : Code} {Q : Exit → Act → World → Prop} {a : Act} {w : World} (h : ∀ Q' : Exit → Act → World → Prop, Hid (∀ e a w, Q e a w → Q' e a w) → cd.wp P Q' a w) : cd.wp P Q a w := h Q (Lib.hid fun _ _ _ h => h)
end
section
variable {F : Fence} {n : Nat} {P : Program} {fn : Func} {R : Ending → World → Prop} {a : Act} {w : World} {v : Value}
theorem retM (hr : (results fn a.tmps).run P w = .ok v w) (hd : a.defers = []) (hR : R (.returned v) w) : bodyPostM F n P fn R .ret a w := by
  show LeavesInM F n P fn a.tmps R a.defers .returning w
  rw [hd]
  exact ⟨v, hr, hR⟩
theorem retM1 {D : Nat} (hd : a.defers = [{ target := .collected D, args := #[] }]) (hK : w.heap[D]? = some (.deferred (some []))) (hr : (results fn a.tmps).run P (w.putObj D (.deferred none)) = .ok v (w.putObj D (.deferred none))) (hR : R (.returned v) (w.putObj D (.deferred none))) :
    bodyPostM F n P fn R .ret a w := by
  show LeavesInM F n P fn a.tmps R a.defers .returning w
  rw [hd]
  exact ⟨by simp, .inl ⟨_, _, rfl, run_takeDeferred hK, ⟨v, hr, hR⟩⟩⟩
end

/-! ### Go's own maps -/
theorem lawI : Keyed Try.prog 3 := int_keyed Try.underlying3
theorem zeroI (w : World) : (zeroValue 3).run Try.prog w = .ok (.int .i64 0) w := by kernel_rfl
theorem zeroS (w : World) : (zeroValue 9).run Try.prog w = .ok (.string ⟨#[]⟩) w := by kernel_rfl
/-- A key of a map: a length. -/
abbrev kl (n : Nat) : Lit := .int .i64 (n : Int)
abbrev lz (n : Nat) : DataW Unit := .lit (.int .i64 (n : Int))
abbrev ls (s : ByteArray) : DataW Unit := .lit (.string s.data.toList)
theorem kl_wf {n : Nat} (h : n ≤ 1000000) : (kl n).wf = true := WalkArith.wf_i64 (by omega)
theorem kl_of {n : Nat} (h : n ≤ 1000000) : keyOf Try.prog 3 (.int .i64 (n : Int)) = some (kl n) := keyOf_int_mk Try.underlying3 (kl_wf h)
theorem kl_ne {a b : Nat} (h : a ≠ b) : kl a ≠ kl b := fun e => h (by injection e with _ e; omega)
/-- Numbers by lengths. -/
def Cm (w : World) (b n : Nat) (D : DataW Unit) : Prop := w.ownsMap Try.prog 3 (plainElem Try.prog 3) b n D
/-- Strings by lengths. -/
def Fm (w : World) (b n : Nat) (D : DataW Unit) : Prop := w.ownsMap Try.prog 3 (plainElem Try.prog 9) b n D
set_option maxRecDepth 100000 in
theorem Cm.look {w : World} {b n : Nat} {D : DataW Unit} (h : Cm w b n D) {k c : Nat} (hk : k ≤ 1000000) (hc : D.atKey (kl k) (lz 0) = lz c) : (Instr.lookup 58 (.map (some b)) (.int .i64 (k : Int)) false).run Try.prog w = .ok (.int .i64 (c : Int)) w := by
  obtain ⟨c', hrun, hat, -⟩ := World.ownsMap.lookup_int h lawI Try.underlying58 Try.underlying3 (zeroI w) (kl_of hk)
  rw [hrun]
  have e : (DataW.lit (.int .i64 c') : DataW Unit) = lz c := hat.symm.trans hc
  injection e with e
  injection e with _ e
  rw [e]
set_option maxRecDepth 100000 in
theorem Fm.look {w : World} {b n : Nat} {D : DataW Unit} (h : Fm w b n D) {k : Nat} {s : ByteArray} (hk : k ≤ 1000000) (hc : D.atKey (kl k) (ls ⟨#[]⟩) = ls s) : (Instr.lookup 57 (.map (some b)) (.int .i64 (k : Int)) false).run Try.prog w = .ok (.string s) w := by
  obtain ⟨v, ps, hrun, hv⟩ := World.ownsMap.lookup h lawI Try.underlying57 (zeroS w) (plainElem_string Try.underlying9 (by decide)) (kl_of hk)
  rw [hrun]
  obtain ⟨s', rfl, e, -⟩ := plainElem_string_inv Try.underlying9 hv
  simp only [Prod.mk.injEq] at e
  have e2 : (DataW.lit (.string s'.data.toList) : DataW Unit) = ls s := e.1.symm.trans hc
  injection e2 with e2
  injection e2 with e2
  have : s' = s := by
    apply ByteArray.ext
    exact Array.toList_inj.1 e2
  rw [this]

/-- A block without cells. -/
def Nb (w : World) (b : Nat) : Prop := ∀ p, w.cell? ⟨b, p, none⟩ = none
theorem Cm.nb {w : World} {b n : Nat} {D : DataW Unit} (h : Cm w b n D) : Nb w b := fun p => by
  obtain ⟨es, clock, hb, -⟩ := h
  simp only [World.cell?, hb]
theorem Fm.nb {w : World} {b n : Nat} {D : DataW Unit} (h : Fm w b n D) : Nb w b := fun p => by
  obtain ⟨es, clock, hb, -⟩ := h
  simp only [World.cell?, hb]
theorem Nb.ne {w : World} {b c o : Nat} {v : Value} (h : Nb w b) (hc : w.cell? ⟨c, o, none⟩ = some v) : c ≠ b := by
  rintro rfl
  rw [h o] at hc
  cases hc
theorem Mp.c0 {w : World} {g : Nat} {d : Bool} {L : List Pr} (h : Mp w g d L) : w.cell? ⟨g, 0, none⟩ = some (.func (.func (fnOf d)) #[] #[]) := by
  obtain ⟨T, h, -⟩ := h
  exact h.1
theorem Mp.gbN {w w' : World} {g b : Nat} {d : Bool} {L : List Pr} (hm : Mp w g d L) (hg : w.grownBy w' (some b)) (hn : Nb w b) : Mp w' g d L := by
  have hlt := hm.lt
  have hne := hn.ne hm.c0
  obtain ⟨T, h1, h2, h3, h4, h5, h6⟩ := hm
  have e := hg.block g hlt (by simpa using hne)
  exact ⟨T, ⟨(World.cell?_of_block (w := w) e).trans h1.1, (World.cell?_of_block (w := w) e).trans h1.2⟩, h2.gb hg (Tr.on_ne (hn 4) h2), h3, (World.cell?_of_block (w := w) e).trans h4, fun o => by rw [← h5 o]; simp only [World.frozen?, e], h6⟩
theorem ne_of {w : World} {a b : Nat} {u v : Value} (h : w.cell? ⟨a, 0, none⟩ = some u) (h' : w.cell? ⟨b, 0, none⟩ = some v) (hne : u ≠ v) : a ≠ b := by
  rintro rfl
  rw [h] at h'
  exact hne (Option.some.inj h')
/-- The row of a value: so many numbers. -/
def Vr (w : World) (v : Sl) : Prop := ∃ (b : Nat) (zs : List Int), v.a = some ⟨b, 0, none⟩ ∧ zs.length = v.n ∧ 1 ≤ v.n ∧ G.RowI .i64 w (some ⟨b, 0, none⟩) zs
theorem Vr.cell {w : World} {v : Sl} {b : Nat} {zs : List Int} (hz : zs.length = v.n) (h1 : 1 ≤ v.n) (hr : G.RowI .i64 w (some ⟨b, 0, none⟩) zs) : ∃ z, w.cell? ⟨b, 0, none⟩ = some (.int .i64 z) := by
  rcases hr with h | ⟨b', o', e, h⟩
  · rw [h] at hz; simp at hz; omega
  · cases e
    exact ⟨_, h 0 (by omega)⟩
theorem Vr.keep {w w' : World} {v : Sl} (h : Vr w v) (hb : Below w.heap.size w w') : Vr w' v := by
  obtain ⟨b, zs, h1, h2, h3, h4⟩ := h
  exact ⟨b, zs, h1, h2, h3, h4.keep hb (Nat.le_refl _)⟩
theorem Vr.gb {w w' : World} {v : Sl} {x : Nat} (h : Vr w v) (hg : w.grownBy w' (some x)) (hx : ∀ z, w.cell? ⟨x, 0, none⟩ ≠ some (.int .i64 z)) : Vr w' v := by
  obtain ⟨b, zs, h1, h2, h3, h4⟩ := h
  obtain ⟨z, hz⟩ := Vr.cell h2 h3 h4
  have hne : b ≠ x := by rintro rfl; exact hx z hz
  refine ⟨b, zs, h1, h2, h3, h4.of_heap fun b' hb' hl => hg.block b' hl ?_⟩
  obtain ⟨o, e⟩ := hb'
  cases e
  simpa using hne
def Vs (w : World) (L : List Pr) : Prop := ∀ p ∈ L, Vr w p.2

/-! ### All that lies there -/
structure Pls where
  (w0 : World) (B g mF bF mC bC : Nat) (d : Bool)
def Gs (p : Pls) (n : Nat) (L : List Pr) (D1 D2 : DataW Unit) (A : World) : Prop :=
  Mp A p.g p.d L ∧ Vs A L ∧ Fm A p.mF n D1 ∧ Cm A p.mC n D2 ∧ J.Bx A p.B (.bool false) 4 ∧ J.Bx A p.bF (.map (some p.mF)) 57 ∧ J.Bx A p.bC (.map (some p.mC)) 58 ∧ Below p.w0.heap.size p.w0 A ∧ (p.w0.heap.size ≤ p.g ∧ p.w0.heap.size ≤ p.mF ∧ p.w0.heap.size ≤ p.mC ∧ p.w0.heap.size ≤ p.B) ∧ p.mF ≠ p.mC
section
variable {p : Pls} {n : Nat} {L M : List Pr} {D1 D2 E : DataW Unit} {A A' : World}
theorem Gs.keep (h : Gs p n L D1 D2 A) (hb : Below A.heap.size A A') : Gs p n L D1 D2 A' := by
  obtain ⟨h1, h2, h3, h4, h5, h6, h7, h8, h9⟩ := h
  exact ⟨h1.keep hb, fun q hq => (h2 q hq).keep hb, World.ownsMap.kept h3 (gb_below hb none) (by simp), World.ownsMap.kept h4 (gb_below hb none) (by simp), h5.keep hb, h6.keep hb, h7.keep hb, h8.trans (hb.mono h8.size), h9⟩
theorem bx_map {b x : Nat} {v : Value} {t : TypeId} (h : J.Bx A b v t) (hx : Nb A x) (hg : A.grownBy A' (some x)) : J.Bx A' b v t := h.gb hg (by simpa using hx.ne h.cell)
/-- Set was called. -/
theorem Gs.set (h : Gs p n L D1 D2 A) (hm : Mp A' p.g p.d M) (hg : A.grownBy A' (some p.g)) (hv : Vs A M) : Gs p n M D1 D2 A' := by
  obtain ⟨h1, h2, h3, h4, h5, h6, h7, h8, h9, h10⟩ := h
  have c0 := h1.c0
  refine ⟨hm, fun q hq => (hv q hq).gb hg (fun z => by rw [c0]; simp), World.ownsMap.kept h3 hg ?_, World.ownsMap.kept h4 hg ?_, h5.gb hg (by simpa using ne_of h5.cell c0 (by simp)), h6.gb hg (by simpa using ne_of h6.cell c0 (by simp)), h7.gb hg (by simpa using ne_of h7.cell c0 (by simp)), h8.grown hg h8.size (fun k hk => by cases hk; exact h9.1), h9, h10⟩
  · have := h3.nb.ne c0; simpa using this.symm
  · have := h4.nb.ne c0; simpa using this.symm
/-- first was written. -/
theorem Gs.put1 (h : Gs p n L D1 D2 A) (hf : Fm A' p.mF (n + 1) E) (hg : A.grownBy A' (some p.mF)) : Gs p (n + 1) L E D2 A' := by
  obtain ⟨h1, h2, h3, h4, h5, h6, h7, h8, h9, h10⟩ := h
  exact ⟨h1.gbN hg h3.nb, fun q hq => (h2 q hq).gb hg (fun z => by rw [h3.nb 0]; simp), hf, World.ownsMap.mono (World.ownsMap.kept h4 hg (by simpa using h10.symm)) (Nat.le_succ _), bx_map h5 h3.nb hg, bx_map h6 h3.nb hg, bx_map h7 h3.nb hg, h8.grown hg h8.size (fun k hk => by cases hk; exact h9.2.1), h9, h10⟩
/-- count was written. -/
theorem Gs.put2 (h : Gs p n L D1 D2 A) (hf : Cm A' p.mC (n + 1) E) (hg : A.grownBy A' (some p.mC)) : Gs p (n + 1) L D1 E A' := by
  obtain ⟨h1, h2, h3, h4, h5, h6, h7, h8, h9, h10⟩ := h
  exact ⟨h1.gbN hg h4.nb, fun q hq => (h2 q hq).gb hg (fun z => by rw [h4.nb 0]; simp), World.ownsMap.mono (World.ownsMap.kept h3 hg (by simpa using h10)) (Nat.le_succ _), hf, bx_map h5 h4.nb hg, bx_map h6 h4.nb hg, bx_map h7 h4.nb hg, h8.grown hg h8.size (fun k hk => by cases hk; exact h9.2.2.1), h9, h10⟩
end
end Go.Proofs.Ytmmcnpcijeahcaa.Jt
