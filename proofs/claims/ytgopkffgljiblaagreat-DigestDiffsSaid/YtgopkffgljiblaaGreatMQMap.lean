/-
  Go's own maps whose keys are dots.
-/
import Derived.Test.YtgopkffgljiblaaGreatNMem
import Derived.Maps.OwnOps
import Derived.Maps.OwnSet
import Derived.Maps.Views
import Derived.DeepKeys4

section
namespace Go.Proofs.YtgopkffgljiblaaGreat.Qs
set_option linter.unusedVariables false
open Go.RowKit V D Nd
open Go.Maps (Keyed)

theorem keyLits_dot {P : Program} {k : TypeId} {g0 g1 : Field} (hk : P.underlying k = some (.struct #[g0, g1])) (k0 : P.underlying g0.type = some (.int .i64)) (k1 : P.underlying g1.type = some (.int .i64)) (o0 : g0.offset = 0) (o1 : g1.offset = 1)
    (c0 : P.cellsOf g0.type = 1) (c1 : P.cellsOf g1.type = 1) (ck : P.cellsOf k = 2) (n0 : (g0.name != "_") = true) (n1 : (g1.name != "_") = true) (d : Nat) {x y : Int} (hx : (Lit.int .i64 x).wf = true) (hy : (Lit.int .i64 y).wf = true) :
    P.keyLits (d + 2) k [.int .i64 x, .int .i64 y] = some [.int .i64 x, .int .i64 y] := by
  have e0 : P.keyLits (d + 1) g0.type [.int .i64 x] = some [.int .i64 x] := by
    unfold Program.keyLits
    simp only [k0, hx, and_self, if_true]
  have e1 : P.keyLits (d + 1) g1.type [.int .i64 y] = some [.int .i64 y] := by
    unfold Program.keyLits
    simp only [k1, hy, and_self, if_true]
  rw [show d + 2 = (d + 1) + 1 from rfl]
  unfold Program.keyLits
  simp only [hk]
  rw [if_pos ⟨by rw [ck]; rfl, by simp [n0, n1]⟩]
  simp only [List.mapM_cons, List.mapM_nil, o0, o1, c0, c1, List.drop_zero, List.take_succ_cons, List.take_zero, List.drop_succ_cons, e0, e1]
  rfl
theorem laidOutD : laidOutB Tryz.prog = true := by kernel_rfl
set_option maxRecDepth 100000 in
theorem wideD : (match Tryz.prog.underlying 48 with | some (.array _ _) | some (.struct _) => true | _ => false) = true := by rw [Tryz.underlying48]
set_option maxRecDepth 100000 in
theorem lawD : Keyed Tryz.prog 48 := Keyed.of_law (deep_law_laid laidOutD (m := 2) (by omega) (of_decide_eq_true (by kernel_rfl)) (by kernel_rfl) wideD)
/-- Numbers that fit. -/
def fitD (d : Dt) : Prop := (Lit.int .i64 d.1).wf = true ∧ (Lit.int .i64 d.2).wf = true
set_option maxRecDepth 100000 in
theorem key_dot {d : Dt} (h : fitD d) : ∃ l, keyOf Tryz.prog 48 (dv d) = some l := by
  obtain ⟨n, hn⟩ : ∃ n, Tryz.prog.types.size + 1 = n + 2 := ⟨Tryz.prog.types.size - 1, by have : 0 < Tryz.prog.types.size := of_decide_eq_true (by kernel_rfl); omega⟩
  have hk : Tryz.prog.keyType 48 = true := by kernel_rfl
  have hf : (dv d).formed Tryz.prog 48 = true := by simp [Value.formed, Tryz.underlying48, show Tryz.prog.cellsOf 48 = 2 by kernel_rfl]
  have hl := keyLits_dot (P := Tryz.prog) (k := 48) Tryz.underlying48 Tryz.underlying3 Tryz.underlying3 rfl rfl (by kernel_rfl) (by kernel_rfl) (by kernel_rfl) (by decide) (by decide) n h.1 h.2
  unfold keyOf
  simp only [Tryz.underlying48]
  rw [hn, hk, hf]
  simp only [Bool.and_self, if_true]
  show ∃ l, (Tryz.prog.keyLits (n + 2) 48 [.int .i64 d.1, .int .i64 d.2]).map (fun ls => Lit.string (keyBytes ls)) = some l
  rw [hl]
  exact ⟨_, rfl⟩
/-- What a dot reads as, as a key. -/
noncomputable def kd (d : Dt) : Lit := (keyOf Tryz.prog 48 (dv d)).getD (.bool false)
theorem kd_of {d : Dt} (h : fitD d) : keyOf Tryz.prog 48 (dv d) = some (kd d) := by
  obtain ⟨l, hl⟩ := key_dot h
  unfold kd
  rw [hl]
  rfl
set_option maxRecDepth 100000 in
theorem kd_inj {a b : Dt} (ha : fitD a) (hb : fitD b) (h : kd a = kd b) : a = b := by
  have e := lawD.inj (kd_of ha) (by rw [h]; exact kd_of hb)
  simp only [Value.agg.injEq, Array.mk.injEq, List.cons.injEq, Value.int.injEq, true_and, and_true] at e
  exact Prod.ext e.1 e.2
set_option maxRecDepth 100000 in
theorem kd_key {d : Dt} (h : fitD d) : WideAt.IsKeyLit (kd d) := lawD.key (kd_of h)
theorem kd_ne {a b : Dt} (ha : fitD a) (hb : fitD b) (h : a ≠ b) : kd a ≠ kd b := fun e => h (kd_inj ha hb e)
end Go.Proofs.YtgopkffgljiblaaGreat.Qs
end

/-
  Go's own maps whose keys are dots, as functions of dots: look-ups, stores, keys that are struck.
-/
section
namespace Go.Proofs.YtgopkffgljiblaaGreat.Qs
set_option linter.unusedVariables false
open Go.RowKit V D Nd
open Go.Maps (Keyed)

/-- How an element reads. -/
structure Elem (α : Type) where
  R : Value → Option (DataW Unit × List MemPlace)
  e : α → Value
  dat : α → DataW Unit
  x0 : α
  hR : ∀ x, R (e x) = some (dat x, [])
  hinv : ∀ v z, R v = some z → ∃ x, v = e x ∧ z = (dat x, [])
  hdat : ∀ x y, dat x = dat y → x = y
/-- Numbers. -/
def elInt : Elem Int where
  R v := match v with | .int .i64 a => some (.lit (.int .i64 a), []) | _ => none
  e := .int .i64
  dat a := .lit (.int .i64 a)
  x0 := 0
  hR _ := rfl
  hinv v z h := by
    split at h
    · cases h; exact ⟨_, rfl, rfl⟩
    · cases h
  hdat x y h := by
    injection h with h
    injection h
/-- Yes or no. -/
def elBool : Elem Bool where
  R v := match v with | .bool a => some (.lit (.bool a), []) | _ => none
  e := .bool
  dat a := .lit (.bool a)
  x0 := false
  hR _ := rfl
  hinv v z h := by
    split at h
    · cases h; exact ⟨_, rfl, rfl⟩
    · cases h
  hdat x y h := by
    injection h with h
    injection h
/-- Nothing. -/
def elUnit : Elem Unit where
  R v := match v with | .agg ⟨[]⟩ => some (.agg [], []) | _ => none
  e _ := .agg #[]
  dat _ := .agg []
  x0 := ()
  hR _ := rfl
  hinv v z h := by
    split at h
    · cases h; exact ⟨(), rfl, rfl⟩
    · cases h
  hdat _ _ _ := rfl
/-- Nodes. -/
def elNode : Elem Nt where
  R v := match v with
    | .agg ⟨[.int .i64 a, .int .i64 b, .int .i64 c, .int .i64 d, .int .i64 t, .int .i32 r]⟩ => some (.agg [.lit (.int .i64 a), .lit (.int .i64 b), .lit (.int .i64 c), .lit (.int .i64 d), .lit (.int .i64 t), .lit (.int .i32 r)], [])
    | _ => none
  e := nv
  dat n := .agg [.lit (.int .i64 n.1.1), .lit (.int .i64 n.1.2), .lit (.int .i64 n.2.1.1), .lit (.int .i64 n.2.1.2), .lit (.int .i64 n.2.2.1), .lit (.int .i32 n.2.2.2)]
  x0 := zeroN
  hR _ := rfl
  hinv v z h := by
    split at h
    · rename_i a b c d t r
      cases h
      exact ⟨((a, b), (c, d), t, r), rfl, rfl⟩
    · cases h
  hdat x y h := by
    obtain ⟨⟨a, b⟩, ⟨c, d⟩, t, r⟩ := x
    obtain ⟨⟨a', b'⟩, ⟨c', d'⟩, t', r'⟩ := y
    simp only [DataW.agg.injEq, List.cons.injEq, DataW.lit.injEq, Lit.int.injEq, true_and, and_true] at h
    obtain ⟨rfl, rfl, rfl, rfl, rfl, rfl⟩ := h
    rfl

section
variable {α : Type} (L : Elem α)
/-- What a datum says of the dots. -/
def Vw (D : DataW Unit) (f : Dt → Option α) : Prop := ∀ d, fitD d → match f d with | none => Maps.has D (kd d) = false | some x => Maps.has D (kd d) = true ∧ ∀ z, D.atKey (kd d) z = L.dat x
/-- Block b is a map of at most n entries that holds f. -/
def Dm (w : World) (b n : Nat) (f : Dt → Option α) : Prop := ∃ D, w.ownsMap Tryz.prog 48 L.R b n D ∧ Vw L D f
variable {L} {w w' : World} {b n : Nat} {f : Dt → Option α}
theorem Dm.made (w : World) : Dm L (w.alloc (.map #[] 0)) w.heap.size 0 (fun _ => none) := ⟨_, World.ownsMap_made _ _ _ _, fun d _ => rfl⟩
theorem Dm.kept {row : Option Nat} (h : Dm L w b n f) (hg : w.grownBy w' row) (hne : some b ≠ row) : Dm L w' b n f := by
  obtain ⟨D, h1, h2⟩ := h
  exact ⟨D, h1.kept hg hne, h2⟩
theorem Dm.keep (h : Dm L w b n f) (hb : Below w.heap.size w w') : Dm L w' b n f := h.kept (gb_below hb none) (by simp)
theorem Dm.mono (h : Dm L w b n f) {m : Nat} (hm : n ≤ m) : Dm L w b m f := by
  obtain ⟨D, h1, h2⟩ := h
  exact ⟨D, h1.mono hm, h2⟩
theorem Dm.lt (h : Dm L w b n f) : b < w.heap.size := by
  obtain ⟨D, h1, -⟩ := h
  exact h1.lt
theorem Dm.nb (h : Dm L w b n f) : ∀ p, w.cell? ⟨b, p, none⟩ = none := fun p => by
  obtain ⟨D, ⟨es, clock, hb, -⟩, -⟩ := h
  simp only [World.cell?, hb]
theorem vw_at {D : DataW Unit} (h : Vw L D f) {d : Dt} (hd : fitD d) : D.atKey (kd d) (L.dat L.x0) = L.dat ((f d).getD L.x0) ∧ Maps.has D (kd d) = (f d).isSome := by
  have := h d hd
  rcases hf : f d with _ | x
  · rw [hf] at this
    exact ⟨Maps.atKey_of_not_has this _, this⟩
  · rw [hf] at this
    exact ⟨this.2 _, this.1⟩
set_option maxRecDepth 100000 in
theorem Dm.look (h : Dm L w b n f) {t E : TypeId} (ht : Tryz.prog.underlying t = some (.map 48 E)) (hz : (zeroValue E).run Tryz.prog w = .ok (L.e L.x0) w) {d : Dt} (hd : fitD d) :
    (Instr.lookup t (.map (some b)) (dv d) false).run Tryz.prog w = .ok (L.e ((f d).getD L.x0)) w := by
  obtain ⟨D, h1, h2⟩ := h
  obtain ⟨v, ps, hrun, hv⟩ := h1.lookup lawD ht hz (L.hR L.x0) (kd_of hd)
  obtain ⟨x, rfl, e⟩ := L.hinv _ _ hv
  simp only [Prod.mk.injEq] at e
  rw [hrun]
  have := e.1.symm.trans (vw_at h2 hd).1
  rw [L.hdat _ _ this]
set_option maxRecDepth 100000 in
theorem Dm.look_ok (h : Dm L w b n f) {t E : TypeId} (ht : Tryz.prog.underlying t = some (.map 48 E)) (hz : (zeroValue E).run Tryz.prog w = .ok (L.e L.x0) w) {d : Dt} (hd : fitD d) :
    (Instr.lookup t (.map (some b)) (dv d) true).run Tryz.prog w = .ok (.tuple #[L.e ((f d).getD L.x0), .bool (f d).isSome]) w := by
  obtain ⟨D, h1, h2⟩ := h
  obtain ⟨v, ps, hrun, hv⟩ := h1.look_ok lawD ht hz (L.hR L.x0) (kd_of hd)
  obtain ⟨x, rfl, e⟩ := L.hinv _ _ hv
  simp only [Prod.mk.injEq] at e
  rw [hrun, (vw_at h2 hd).2]
  have := e.1.symm.trans (vw_at h2 hd).1
  rw [L.hdat _ _ this]
/-- f, with x at d. -/
def putF (f : Dt → Option α) (d : Dt) (x : α) : Dt → Option α := fun d' => if d' = d then some x else f d'
def delF (f : Dt → Option α) (d : Dt) : Dt → Option α := fun d' => if d' = d then none else f d'
set_option maxRecDepth 100000 in
theorem vw_put {D : DataW Unit} (h : Vw L D f) (hD : Maps.IsMap D) {d : Dt} (hd : fitD d) (x : α) : Vw L (D.put (kd d) (L.dat x)) (putF f d x) := fun d' hd' => by
  unfold putF
  by_cases e : d' = d
  · subst e
    rw [if_pos rfl]
    exact ⟨Maps.has_put_same hD (kd_key hd) _, fun z => Maps.atKey_put_same hD (kd_key hd) _ _⟩
  · rw [if_neg e, Maps.has_put_other (kd_ne hd' hd e)]
    have := h d' hd'
    rcases hf : f d' with _ | y
    · rw [hf] at this; exact this
    · rw [hf] at this
      exact ⟨this.1, fun z => (Maps.atKey_put_other (kd_ne hd' hd e) _ _).trans (this.2 z)⟩
set_option maxRecDepth 100000 in
theorem Dm.put (h : Dm L w b n f) {t E : TypeId} (ht : Tryz.prog.underlying t = some (.map 48 E)) (hn : n < maxLen) {d : Dt} (hd : fitD d) (x : α) :
    ∃ w', (Instr.mapUpdate t (.map (some b)) (dv d) (L.e x)).run Tryz.prog w = .ok () w' ∧ Dm L w' b (n + 1) (putF f d x) ∧ w.grownBy w' (some b) := by
  obtain ⟨D, h1, h2⟩ := h
  obtain ⟨w', hrun, k1, k2⟩ := h1.update lawD ht hn (kd_of hd) (L.hR x)
  exact ⟨w', hrun, ⟨_, k1, vw_put h2 h1.isMap hd x⟩, k2⟩
end
set_option maxRecDepth 100000 in
/-- A store into such a map, for the walk. -/
theorem wpList_putD {α : Type} (L : Elem α) {w : World} {ops : Array Oper} {rest : List Oper} {o : Oper} {a : Act} {Q : Exit → Act → World → Prop} (hg : o.guard = none) (m x v : Operand) (t : TypeId) (hop : o.op = Op.mapUpdate t m x v) (E : TypeId)
    (ht : Tryz.prog.underlying t = some (.map 48 E)) (b n : Nat) (f : Dt → Option α) (hm : a.eval m = .map (some b)) (h : Dm L w b n f) (hn : n < maxLen) (d : Dt) (y : α) (hx : a.eval x = dv d) (hv : a.eval v = L.e y) (hd : fitD d)
    (hK : ∀ w', Dm L w' b (n + 1) (putF f d y) → w.grownBy w' (some b) → wpList Tryz.prog ops Q rest (a.put o.dst undef) w') : wpList Tryz.prog ops Q (o :: rest) a w := by
  refine wpList_plain hg fun K' hK' => ?_
  obtain ⟨w', hrun, r1, r2⟩ := h.put ht hn hd y
  unfold Oper.wp
  simp [execOp, hop, hm, hx, hv, hrun, Result.andThen]
  exact hK' _ _ (hK w' r1 r2)
end Go.Proofs.YtgopkffgljiblaaGreat.Qs
end
