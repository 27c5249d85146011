/-
  Layer 16: what comes in: a digest, two contexts by value; the laws DigestLooks, DigestDiffs, DigestStates, as the rows' frames ask for them.
-/
import Derived.Test.YtgopkffgljiblaaGreatDgP
import Derived.Test.YtgopkffgljiblaaGreatMInD
import Derived.Test.YtgopkffgljiblaaGreatQIn
section
namespace Go.Proofs.YtgopkffgljiblaaGreat.Dg
set_option linter.unusedVariables false
open Go.RowKit Go.ChangeShapes Go.WideShapes Go.ChangeAt V D Nd Qs Jn
open E (SV)
open F (Ct)

theorem sv_in {W : World} {a : Option Addr} {xs : List Dt} {n : Nat} (h : F.InL W a xs n) : SV W (.slice a xs.length n) xs := ⟨a, n, rfl, h.2.1, h.2.2.1, h.2.2.2.2⟩
/-- Two cells that are read as a context. -/
theorem ctx_in {P : Program} {H : Type} {enc : TypeId × Value → H} {W : World} {base n : Nat} {t e : TypeId} {fv fc f0 f1 : Field} {u v : Value} {y : DataW H × List MemPlace}
    (ht : P.underlying t = some (.struct #[fv, fc])) (o0 : fv.offset = 0) (o1 : fc.offset = 1) (cv : P.cellsOf fv.type = 1) (cc : P.cellsOf fc.type = 1) (hv1 : P.underlying fv.type = some (.slice e)) (hc1 : P.underlying fc.type = some (.slice e))
    (he : P.underlying e = some (.struct #[f0, f1])) (ce : P.cellsOf e = 2) (p0 : f0.offset = 0) (p1 : f1.offset = 1) (c0 : P.cellsOf f0.type = 1) (c1 : P.cellsOf f1.type = 1)
    (k0 : P.underlying f0.type = some (.int .i64)) (k1 : P.underlying f1.type = some (.int .i64))
    (h : DataW.trod enc P W base (fun _ => true) true n t [u, v] = some y) : ∃ c : Ct, Kx W u v c := by
  obtain ⟨xs, m, _, _, hlen, _, hg⟩ := DataW.trod_struct ht h
  have h0 := hg 0 fv rfl
  have h1 := hg 1 fc rfl
  rw [o0, cv] at h0
  rw [o1, cc] at h1
  match xs, hlen with
  | [y0, y1], _ =>
    obtain ⟨l1, a, n1, rfl, hx⟩ := F.in_list hv1 he ce p0 p1 c0 c1 k0 k1 (show DataW.trod enc P W base (fun _ => true) true m fv.type [u] = some y0 by simpa using h0)
    obtain ⟨l2, b, n2, rfl, hy⟩ := F.in_list hc1 he ce p0 p1 c0 c1 k0 k1 (show DataW.trod enc P W base (fun _ => true) true m fc.type [v] = some y1 by simpa using h1)
    exact ⟨(l1, l2), sv_in hx, sv_in hy⟩
/-- A digest that came in. -/
theorem in_digest {P : Program} {H : Type} {enc : TypeId × Value → H} {W : World} {base b0 : Nat} {r : Reach} {t e : TypeId} {ga gg fv fc f0 f1 : Field} {v : Value} {d : DataW H} {p : List MemPlace}
    (ht : P.underlying t = some (.struct #[ga, gg])) (hC : P.cellsOf t = 4) (q0 : ga.offset = 0) (q1 : gg.offset = 2) (ca : P.cellsOf ga.type = 2) (cg : P.cellsOf gg.type = 2)
    (ua : P.underlying ga.type = some (.struct #[fv, fc])) (ug : P.underlying gg.type = some (.struct #[fv, fc])) (o0 : fv.offset = 0) (o1 : fc.offset = 1) (cv : P.cellsOf fv.type = 1) (cc : P.cellsOf fc.type = 1)
    (hv1 : P.underlying fv.type = some (.slice e)) (hc1 : P.underlying fc.type = some (.slice e))
    (he : P.underlying e = some (.struct #[f0, f1])) (ce : P.cellsOf e = 2) (p0 : f0.offset = 0) (p1 : f1.offset = 1) (c0 : P.cellsOf f0.type = 1) (c1 : P.cellsOf f1.type = 1)
    (k0 : P.underlying f0.type = some (.int .i64)) (k1 : P.underlying f1.type = some (.int .i64))
    (hv : Value.okWide P W r b0 t v) (h : DataW.Trod enc P W base (fun _ => true) true t v d p) : ∃ (x y s u : Value) (g : Gt), v = gv x y s u ∧ Gx W x y s u g := by
  obtain ⟨cs, rfl, hsz⟩ := okWide_struct ht hv
  obtain ⟨l⟩ := cs
  match l, hsz.trans hC with
  | [a0, a1, a2, a3], _ =>
    obtain ⟨fuel, hf⟩ := h
    obtain ⟨xs, n, _, hx, _, hlen, hg⟩ := DataW.trod_struct ht hf
    match xs, hlen with
    | [y0, y1], _ =>
      have h0 := hg 0 ga rfl
      have h1 := hg 1 gg rfl
      rw [q0, ca] at h0
      rw [q1, cg] at h1
      obtain ⟨c, hc⟩ := ctx_in ua o0 o1 cv cc hv1 hc1 he ce p0 p1 c0 c1 k0 k1 (show DataW.trod enc P W base (fun _ => true) true n ga.type [a0, a1] = some y0 by simpa [Value.cells] using h0)
      obtain ⟨c', hc'⟩ := ctx_in ug o0 o1 cv cc hv1 hc1 he ce p0 p1 c0 c1 k0 k1 (show DataW.trod enc P W base (fun _ => true) true n gg.type [a2, a3] = some y1 by simpa [Value.cells] using h1)
      exact ⟨a0, a1, a2, a3, (c, c'), rfl, hc, hc'⟩
end Go.Proofs.YtgopkffgljiblaaGreat.Dg
end
section
namespace Go.Proofs.YtgopkffgljiblaaGreat.Dg
set_option linter.unusedVariables false
open Go.RowKit V D Nd Qs Jn

theorem lit64w {z : Int} (h1 : -9223372036854775808 ≤ z) (h2 : z ≤ 9223372036854775807) : (Lit.int .i64 z).wf = true := by
  simp only [Lit.wf, IntKind.min, IntKind.max, IntKind.signed, IntKind.bits]
  simp
  omega
theorem fit_wfw {d : Dt} (h : wfD d) : fitD d := ⟨lit64w h.1.1 h.1.2, lit64w h.2.1 h.2.2⟩
theorem fit_inw {l : List Nt} (hw : ∀ x ∈ l, wfN x) : ∀ x ∈ l, fitN x := fun x h => ⟨fit_wfw (hw x h).1, fit_wfw (hw x h).2.1⟩
theorem looks_law2 (x y s u : Value) (d : Gt) (x' y' s' u' : Value) (e : Gt) (w : World) (h : Gx w x y s u d) (h2 : Gx w x' y' s' u' e) :
    Calls Tryz.prog 3 #[gv x y s u, gv x' y' s' u'] w fun e w' => e = .returned (.bool true) ∧ Below w.heap.size w w' := looks_law d e x y s u x' y' s' u' w h h2
theorem diffs_law2 (l : List Nt) (a : Option Addr) (c : Nat) (x y s u : Value) (d : Gt) (w : World) (hl : l.length ≤ 9223372036854775807) (hx : Qs.RowN w a l) (hna : a = none → c = 0) (hw : ∀ x ∈ l, wfN x) (hc : l.length ≤ c) (h : Gx w x y s u d) :
    Calls Tryz.prog 4 #[.slice a l.length c, gv x y s u] w fun e w' => e = .returned (.bool true) ∧ Below w.heap.size w w' := diffs_law l a c d x y s u w (fit_inw hw) ⟨rfl, hx, hna, hc⟩ h
theorem states_law2 (l : List Nt) (a : Option Addr) (c : Nat) (m : List Nt) (b : Option Addr) (d : Nat) (w : World) (hl : l.length ≤ 9223372036854775807) (hx : Qs.RowN w a l) (hna : a = none → c = 0) (hw : ∀ x ∈ l, wfN x) (hc : l.length ≤ c)
    (hm : m.length ≤ 9223372036854775807) (hy : Qs.RowN w b m) (hnb : b = none → d = 0) (hv : ∀ x ∈ m, wfN x) (hd : m.length ≤ d) :
    Calls Tryz.prog 5 #[.slice a l.length c, .slice b m.length d] w fun e w' => e = .returned (.bool true) ∧ Below w.heap.size w w' :=
  states_law l m a b c d w (fit_inw hw) (fit_inw hv) ⟨rfl, hx, hna, hc⟩ ⟨rfl, hy, hnb, hd⟩
end Go.Proofs.YtgopkffgljiblaaGreat.Dg
end
