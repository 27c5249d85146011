/-
  A range over one of Go's own maps whose keys are dots.
-/
import Derived.Test.YtfpfihmihlmobaaGreatMQMap
import Derived.Maps.RangeWalk
import Derived.ChangeKeysEq
namespace Go.Proofs.YtfpfihmihlmobaaGreat.Qs
set_option linter.unusedVariables false
open Go.RowKit V D Nd
open Go.Maps (Keyed)

theorem lits_int {P : Program} {t : TypeId} {d : Nat} {v : Value} {l : List Lit} (ht : P.underlying t = some (.int .i64)) (h : P.keyLits (d + 1) t [v] = some l) : ∃ z, v = .int .i64 z ∧ (Lit.int .i64 z).wf = true := by
  unfold Program.keyLits at h
  simp only [ht] at h
  split at h <;> simp_all
set_option maxRecDepth 100000 in
theorem key_inv {v : Value} {l : Lit} (h : keyOf Tryz.prog 33 v = some l) : ∃ d, v = dv d ∧ fitD d := by
  obtain ⟨n, hn⟩ : ∃ n, Tryz.prog.types.size + 1 = n + 2 := ⟨Tryz.prog.types.size - 1, by have : 0 < Tryz.prog.types.size := of_decide_eq_true (by kernel_rfl); omega⟩
  have hc2 : Tryz.prog.cellsOf 33 = 2 := by kernel_rfl
  have hci : Tryz.prog.cellsOf 3 = 1 := by kernel_rfl
  unfold keyOf at h
  simp only [Tryz.underlying33] at h
  split at h
  · rename_i hc
    rw [Bool.and_eq_true] at hc
    have hf := hc.2
    unfold Value.formed at hf
    cases v <;> simp [Tryz.underlying33, hc2] at hf
    rename_i cs
    obtain ⟨cs⟩ := cs
    match cs, hf with
    | [a, b], _ =>
      obtain ⟨ls, hls, -⟩ := Option.map_eq_some_iff.1 h
      rw [hn] at hls
      have hls2 : Tryz.prog.keyLits (n + 1 + 1) 33 [a, b] = some ls := hls
      unfold Program.keyLits at hls2
      simp only [Tryz.underlying33] at hls2
      split at hls2
      · rcases h0 : Tryz.prog.keyLits (n + 1) 3 [a] with _ | l0
        · simp [hci, h0] at hls2
        · rcases h1 : Tryz.prog.keyLits (n + 1) 3 [b] with _ | l1
          · simp [hci, h0, h1] at hls2
          · obtain ⟨x, rfl, hx⟩ := lits_int Tryz.underlying3 h0
            obtain ⟨y, rfl, hy⟩ := lits_int Tryz.underlying3 h1
            exact ⟨(x, y), rfl, hx, hy⟩
      · cases hls2
  · cases h
section
variable {α : Type} (L : Elem α)
/-- A range under way: which dots are still to come. -/
def Dr (w : World) (b r n : Nat) (f : Dt → Option α) (todo : Dt → Bool) (cnt : Nat) : Prop :=
  ∃ D left, w.ranges Tryz.prog 33 L.R b r n D left cnt ∧ Vw L D f ∧ ∀ d, fitD d → left (kd d) = todo d
variable {L} {w w' : World} {b r n cnt : Nat} {f : Dt → Option α} {todo : Dt → Bool}
theorem Dr.map (h : Dr L w b r n f todo cnt) : Dm L w b n f := by
  obtain ⟨D, left, h1, h2, -⟩ := h
  exact ⟨D, h1.owns, h2⟩
theorem Dr.left_eq (h : Dr L w b r n f todo cnt) : w.rangeLeft b r = cnt := by
  obtain ⟨D, left, h1, -⟩ := h
  exact h1.left_eq
theorem Dr.kept {row : Option Nat} (h : Dr L w b r n f todo cnt) (hg : w.grownBy w' row) (hb : some b ≠ row) (hr : some r ≠ row) : Dr L w' b r n f todo cnt := by
  obtain ⟨D, left, h1, h2, h3⟩ := h
  exact ⟨D, left, h1.kept hg hb hr, h2, h3⟩
theorem Dr.keep (h : Dr L w b r n f todo cnt) (hb : Below w.heap.size w w') : Dr L w' b r n f todo cnt := h.kept (gb_below hb none) (by simp) (by simp)
theorem Dr.lt (h : Dr L w b r n f todo cnt) : r < w.heap.size := by
  obtain ⟨D, left, h1, -⟩ := h
  exact h1.lt
end
set_option maxRecDepth 100000 in
/-- range, for the walk. -/
theorem wpList_rangeD {α : Type} (L : Elem α) {w : World} {ops : Array Oper} {rest : List Oper} {o : Oper} {a : Act} {Q : Exit → Act → World → Prop} (hg : o.guard = none) (m : Operand) (t : TypeId) (hop : o.op = Op.range t m) (E : TypeId)
    (ht : Tryz.prog.underlying t = some (.map 33 E)) (b n : Nat) (f : Dt → Option α) (hm : a.eval m = .map (some b)) (h : Dm L w b n f)
    (hK : ∀ w' cnt, Dr L w' b w.heap.size n f (fun d => (f d).isSome) cnt → Below w.heap.size w w' → wpList Tryz.prog ops Q rest (a.put o.dst (.pointer (some ⟨w.heap.size, 0, none⟩))) w') : wpList Tryz.prog ops Q (o :: rest) a w := by
  obtain ⟨D, h1, h2⟩ := h
  refine wpList_range_own w hg m t hop 33 E lawD ht L.R b n D hm h1 fun w' k1 k2 k3 => ?_
  exact hK w' _ ⟨D, _, k1, h2, fun d hd => (vw_at h2 hd).2⟩ ⟨k2.os, k2.tape, k2.output, k2.size, fun i hi => k2.block i hi (by simp)⟩
set_option maxRecDepth 100000 in
/-- The next entry, for the walk. -/
theorem wpList_nextD {α : Type} (L : Elem α) {w : World} {ops : Array Oper} {rest : List Oper} {o : Oper} {a : Act} {Q : Exit → Act → World → Prop} (hg : o.guard = none) (it : Operand) (hop : o.op = Op.next it false) (b r n cnt : Nat) (f : Dt → Option α) (todo : Dt → Bool)
    (hit : a.eval it = .pointer (some ⟨r, 0, none⟩)) (h : Dr L w b r n f todo cnt)
    (hDone : (∀ d, fitD d → todo d = false) → wpList Tryz.prog ops Q rest (a.put o.dst (.tuple #[.bool false])) w)
    (hMore : ∀ (d : Dt) (x : α) (w' : World) (cnt' : Nat), fitD d → todo d = true → f d = some x → Dr L w' b r n f (fun d' => todo d' && !decide (d' = d)) cnt' → cnt' < cnt → w.grownBy w' (some r) → w'.heap.size = w.heap.size →
      (Instr.entry (.pointer (some ⟨r, 0, none⟩))).run Tryz.prog w' = .ok (.tuple #[dv d, L.e x]) w' → wpList Tryz.prog ops Q rest (a.put o.dst (.tuple #[.bool true, dv d, L.e x])) w') :
    wpList Tryz.prog ops Q (o :: rest) a w := by
  obtain ⟨D, left, h1, h2, h3⟩ := h
  refine wpList_next_ranges w hg it hop 33 lawD L.R (fun d : Dt => dv d) L.e (fun key kl hk => (key_inv hk).imp fun d hd => hd.1) (fun v y hv => (L.hinv v y hv).imp fun x hx => hx.1) b r n D left cnt hit h1 (fun h0 hl => hDone fun d hd => by rw [← h3 d hd]; exact hl _) ?_
  intro d x kl' y w' cnt' hk hlk hv hat hrg hlt hgr hsz hen
  obtain ⟨d', e, hd'⟩ := key_inv hk
  have hdd : d' = d := by
    simp only [Value.agg.injEq, Array.mk.injEq, List.cons.injEq, Value.int.injEq, true_and, and_true] at e
    exact Prod.ext e.1.symm e.2.symm
  subst hdd
  have hkl : kl' = kd d' := by
    rw [kd_of hd'] at hk
    exact (Option.some.inj hk).symm
  subst hkl
  have hR : L.R (L.e x) = some (L.dat x, []) := L.hR x
  rw [hR] at hv
  have hy : y = (L.dat x, []) := (Option.some.inj hv).symm
  have hf : f d' = some x := by
    have hv2 := h2 d' hd'
    have hh : Maps.has D (kd d') = true := Maps.has_true_of_atKey (y := L.dat x) fun z => by rw [hat z, hy]
    rcases hfd : f d' with _ | x'
    · rw [hfd] at hv2
      rw [hv2] at hh
      cases hh
    · rw [hfd] at hv2
      have := (hv2.2 (L.dat L.x0)).symm.trans ((hat _).trans (by rw [hy]))
      rw [L.hdat _ _ this]
  refine hMore d' x w' cnt' hd' (by rw [← h3 d' hd']; exact hlk) hf ⟨D, _, hrg, h2, fun d2 hd2 => ?_⟩ hlt hgr hsz hen
  show (left (kd d2) && !(kd d2).sameKey (kd d')) = _
  rw [h3 d2 hd2]
  by_cases e2 : d2 = d'
  · subst e2
    rw [WideAt.sameKey_self (kd_key hd2)]
    simp
  · rw [Maps.sameKey_ne (kd_ne hd2 hd' e2)]
    simp [e2]
end Go.Proofs.YtfpfihmihlmobaaGreat.Qs
