/-
  append of any row of numbers.
-/
import Derived.Test.YteojbekkbgcmnabMGen
namespace Go.Proofs.Yteojbekkbgcmnab.G
set_option linter.unusedVariables false
open Go.RowKit V

theorem rowI_news2 {k : IntKind} {w : World} {ad : Addr} {m : List Int} (h : RowI k w (some ad) m) : ∀ j u, (m.map (Value.int k))[j]? = some u → w.cell? (ad.add j) = some u := by
  rcases h with rfl | ⟨b, o, e, hc⟩
  · intro j u hj; simp at hj
  · cases e
    exact rowI_news (.inr ⟨b, o, rfl, hc⟩)

/-- append of any row of numbers to a row of the call's own. -/
theorem run_appIo {P : Program} {w : World} {base : Nat} {T E : TypeId} {k : IntKind} {B : Nat} (hT : P.underlying T = some (.slice E)) (hinfo : (P.info? E).map (fun i => (i.zero, i.size, i.bytes)) = some (some (.int k 0), 1, B))
    {v : Value} {l : List Int} (h : OI w base E k v l) (ty : TypeId) (ad : Option Addr) (c : Nat) (m : List Int) (hrow : RowI k w ad m) (hnil : ad = none → c = 0)
    (hlen : l.length + m.length ≤ 8796093022208) (hB : B ≤ 16) (hbase : base ≤ w.heap.size) :
    ∃ v' w', (Builtin.append_ #[T, T] ty #[v, .slice ad m.length c]).run P w = .ok v' w' ∧ OI w' base E k v' (l ++ m) ∧ w.grownBy w' v.ownBlock := by
  obtain ⟨i, hi, hz0, hz1, hz2⟩ := info_of hinfo
  rcases ad with _ | ad
  · have hm : m = [] := by
      rcases hrow with hm | ⟨_, _, e, _⟩
      · exact hm
      · cases e
    subst hm
    obtain rfl := hnil rfl
    exact ⟨v, w, run_append_owned_none w base T ty E i 1 hT hi v _ _ h, by simpa using h, gb_refl _ _⟩
  · have hb : (l.length + m.length) * B ≤ 140737488355328 := by
      have := Nat.mul_le_mul hlen hB
      omega
    obtain ⟨v', w', hr, ho, hg, _, hgr⟩ := run_append_own_at (P := P) w base T ty E i (.int k 0) 1 B hT hi hz0 hz1 hz2 rfl (by omega) v _ _ h ad m.length c (m.map (.int k)) (by simp) (rowI_news2 hrow)
      (by intro u hu; simp only [List.mem_map] at hu; obtain ⟨x, _, rfl⟩ := hu; rfl) (by unfold maxLen; omega) hb hbase
    refine ⟨v', w', hr, ?_, hg⟩
    unfold OI
    rw [List.length_append, List.map_append]
    exact ho
theorem wp_appIo {P : Program} {w : World} {x : Oper} {a : Act} {K : Act → World → Prop} {Q : Exit → Act → World → Prop} (s y : Operand) (T : TypeId)
    (ho : x.op = .call { callee := .builtin .append, args := #[s, y], argTypes := #[T, T] })
    {base : Nat} {E : TypeId} {k : IntKind} {B : Nat} (hT : P.underlying T = some (.slice E)) (hinfo : (P.info? E).map (fun i => (i.zero, i.size, i.bytes)) = some (some (.int k 0), 1, B))
    (v : Value) (l : List Int) (hs : a.eval s = v) (h : OI w base E k v l) (ad : Option Addr) (m : List Int) (c n : Nat) (hn : n = m.length) (hx : a.eval y = .slice ad n c) (hrow : RowI k w ad m) (hnil : ad = none → c = 0)
    (hlen : l.length + m.length ≤ 8796093022208) (hB : B ≤ 16) (hbase : base ≤ w.heap.size)
    (hk : ∀ v' w', OI w' base E k v' (l ++ m) → w.grownBy w' v.ownBlock → K (a.put x.dst v') w') : x.wp P a w K Q := by
  subst hn
  obtain ⟨v', w', hr, h2, h3⟩ := run_appIo hT hinfo h x.type ad c m hrow hnil hlen hB hbase
  unfold Oper.wp execOp
  simp only [ho, resolve, invoke, builtin, Sem.run_bind, Sem.run_pure, Result.andThen_ok, List.map_toArray, List.map_cons, List.map_nil, hs, hx, hr]
  exact hk _ _ h2 h3
end Go.Proofs.Yteojbekkbgcmnab.G
