/-
  append of a list of numbers that came from anywhere; the start; the pieces of OmapStrings.
-/
import Derived.Test.YtmmcnpcijeahcaaTCons
import Derived.Laws.AppendOwnNone
namespace Go.Proofs.Ytmmcnpcijeahcaa.Jt
set_option linter.unusedVariables false
open Go.RowKit V Go.Shelf G

theorem rowI_news2 {k : IntKind} {w : World} {ad : Addr} {m : List Int} (h : RowI k w (some ad) m) : ∀ j u, (m.map (Value.int k))[j]? = some u → w.cell? (ad.add j) = some u := by
  rcases h with rfl | ⟨b, o, e, hc⟩
  · intro j u hj; simp at hj
  · cases e
    exact rowI_news (.inr ⟨b, o, rfl, hc⟩)

/-- append of any row of numbers to a row of the call's own. -/
theorem run_appIo {P : Program} {w : World} {base : Nat} {T E : TypeId} {k : IntKind} {B : Nat} (hT : P.underlying T = some (.slice E)) (hinfo : (P.info? E).map (fun i => (i.zero, i.size, i.bytes)) = some (some (.int k 0), 1, B))
    {v : Value} {l : List Int} (h : OI w base E k v l) (ty : TypeId) (ad : Option Addr) (c : Nat) (m : List Int) (hrow : RowI k w ad m) (hnil : ad = none → c = 0)
    (hlen : l.length + m.length ≤ 8796093022208) (hB : B ≤ 16) (hbase : base ≤ w.heap.size) :
    ∃ v' w', (Builtin.append_ #[T, T] ty #[v, .slice ad m.length c]).run P w = .ok v' w' ∧ OI w' base E k v' (l ++ m) ∧ w.grownBy w' v.ownBlock := by
  obtain ⟨i, hi, hz0, hz1, hz2⟩ := info_of hinfo
  rcases ad with _ | ad
  · have hm : m = [] := by
      rcases hrow with hm | ⟨_, _, e, _⟩
      · exact hm
      · cases e
    subst hm
    obtain rfl := hnil rfl
    exact ⟨v, w, run_append_owned_none w base T ty E i 1 hT hi v _ _ h, by simpa using h, gb_refl _ _⟩
  · have hb : (l.length + m.length) * B ≤ 140737488355328 := by
      have := Nat.mul_le_mul hlen hB
      omega
    obtain ⟨v', w', hr, ho, hg, _, hgr⟩ := run_append_own_at (P := P) w base T ty E i (.int k 0) 1 B hT hi hz0 hz1 hz2 rfl (by omega) v _ _ h ad m.length c (m.map (.int k)) (by simp) (rowI_news2 hrow)
      (by intro u hu; simp only [List.mem_map] at hu; obtain ⟨x, _, rfl⟩ := hu; rfl) (by unfold maxLen; omega) hb hbase
    refine ⟨v', w', hr, ?_, hg⟩
    unfold OI
    rw [List.length_append, List.map_append]
    exact ho
theorem wpList_appIo {P : Program} {w : World} {ops : Array Oper} {rest : List Oper} {x : Oper} {a : Act} {Q : Exit → Act → World → Prop} (hgd : x.guard = none) (s y : Operand) (T : TypeId)
    (ho : x.op = .call { callee := .builtin .append, args := #[s, y], argTypes := #[T, T] })
    {base : Nat} {E : TypeId} {k : IntKind} {B : Nat} (hT : P.underlying T = some (.slice E)) (hinfo : (P.info? E).map (fun i => (i.zero, i.size, i.bytes)) = some (some (.int k 0), 1, B))
    (v : Value) (l : List Int) (hs : a.eval s = v) (h : OI w base E k v l) (ad : Option Addr) (c n : Nat) (m : List Int) (hn : n = m.length) (hx : a.eval y = .slice ad n c) (hrow : RowI k w ad m) (hnil : ad = none → c = 0)
    (hlen : l.length + m.length ≤ 8796093022208) (hB : B ≤ 16) (hbase : base ≤ w.heap.size)
    (hk : ∀ v' w', OI w' base E k v' (l ++ m) → w.grownBy w' v.ownBlock → wpList P ops Q rest (a.put x.dst v') w') : wpList P ops Q (x :: rest) a w := by
  subst hn
  obtain ⟨v', w', hr, h2, h3⟩ := run_appIo hT hinfo h x.type ad c m hrow hnil hlen hB hbase
  refine wpList_plain hgd fun K hK => ?_
  unfold Oper.wp execOp
  simp only [ho, resolve, invoke, builtin, Sem.run_bind, Sem.run_pure, Result.andThen_ok, List.map_toArray, List.map_cons, List.map_nil, hs, hx, hr]
  exact hK _ _ (hk v' w' h2 h3)
theorem infoI : (Try.prog.info? 3).map (fun i => (i.zero, i.size, i.bytes)) = some (some (.int .i64 0), 1, 8) := by kernel_rfl
theorem lenM {w : World} {b n : Nat} {D : DataW Unit} (h : Cm w b n D) (ty : TypeId) : (Builtin.len_ #[58] ty #[.map (some b)]).run Try.prog w = .ok (.int .i64 (Maps.size D)) w := World.ownsMap.len h Try.underlying58 ty
/-- The start: all is there. -/
theorem Gs.start {w w1 : World} {g : Nat} (hR : J.Bx w1 w.heap.size (.bool false) 4) (hB : Below w.heap.size w w1) (hM : Mp w1 g true []) (hG : w.heap.size ≤ g) :
    Gs ⟨w, w.heap.size, g, w1.heap.size, w1.heap.size + 1, w1.heap.size + 1 + 1, w1.heap.size + 1 + 1 + 1, true⟩ 0 [] (.map []) (.map [])
      ((((w1.alloc (.map #[] 0)).alloc (.cells #[.map (some w1.heap.size)] 57)).alloc (.map #[] 0)).alloc (.cells #[.map (some (w1.heap.size + 1 + 1))] 58)) := by
  have s1 : (w1.alloc (.map #[] 0)).heap.size = w1.heap.size + 1 := by simp
  have s2 : ((w1.alloc (.map #[] 0)).alloc (.cells #[.map (some w1.heap.size)] 57)).heap.size = w1.heap.size + 1 + 1 := by simp
  have s3 : (((w1.alloc (.map #[] 0)).alloc (.cells #[.map (some w1.heap.size)] 57)).alloc (.map #[] 0)).heap.size = w1.heap.size + 1 + 1 + 1 := by simp
  have b1 := J.bel_box w1 (.map #[] 0)
  have b2 := J.bel_box (w1.alloc (.map #[] 0)) (.cells #[.map (some w1.heap.size)] 57)
  have b3 := J.bel_box ((w1.alloc (.map #[] 0)).alloc (.cells #[.map (some w1.heap.size)] 57)) (.map #[] 0)
  have b4 := J.bel_box (((w1.alloc (.map #[] 0)).alloc (.cells #[.map (some w1.heap.size)] 57)).alloc (.map #[] 0)) (.cells #[.map (some (w1.heap.size + 1 + 1))] 58)
  have f1 := World.ownsMap_made (H := Unit) w1 Try.prog 3 (plainElem Try.prog 9)
  have x2 := J.bx_new (w1.alloc (.map #[] 0)) (.map (some w1.heap.size)) 57
  have f3 := World.ownsMap_made (H := Unit) ((w1.alloc (.map #[] 0)).alloc (.cells #[.map (some w1.heap.size)] 57)) Try.prog 3 (plainElem Try.prog 3)
  have x4 := J.bx_new (((w1.alloc (.map #[] 0)).alloc (.cells #[.map (some w1.heap.size)] 57)).alloc (.map #[] 0)) (.map (some (w1.heap.size + 1 + 1))) 58
  rw [s1] at x2
  rw [s2] at f3
  rw [s3] at x4
  have b12 := J.bel_tr b1 b2
  have b34 := J.bel_tr b3 b4
  have b14 := J.bel_tr b12 b34
  have hs := hB.size
  refine ⟨hM.keep b14, (by simp [Vs]), World.ownsMap.kept f1 (gb_below (J.bel_tr b2 b34) none) (by simp), World.ownsMap.kept f3 (gb_below b4 none) (by simp), hR.keep b14, x2.keep b34, x4, J.bel_tr hB b14, ⟨hG, hs, by show w.heap.size ≤ w1.heap.size + 1 + 1; omega, Nat.le_refl _⟩, by show w1.heap.size ≠ w1.heap.size + 1 + 1; omega⟩
end Go.Proofs.Ytmmcnpcijeahcaa.Jt
