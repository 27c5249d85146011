/-
  A gathering takes in one more node.
-/
import Derived.Test.YtgopkffgljiblaaQPlc
import Derived.Test.YtgopkffgljiblaaMJnC

section
namespace Go.Proofs.Ytgopkffgljiblaa.Qs
set_option linter.unusedVariables false
open Go.RowKit V Go.Sort D Nd
attribute [local irreducible] Sch.heldN Sch.stepV Sch.stepE

section
variable {w w' : World} {G b : Nat} {v : Value}
end
theorem Dm.far {α : Type} {L : Elem α} {w : World} {b n base : Nat} {f : Dt → Option α} {u : Value} {l : List Nt} (h : Dm L w b n f) (ho : ON w base E u l) : u.ownBlock ≠ some b := fun e => by
  obtain ⟨vs, h1⟩ := ho.obj b e
  obtain ⟨D, ⟨es, clock, hb, -⟩, -⟩ := h
  rw [hb] at h1
  cases h1
theorem load_s {w : World} {g i : Nat} {z : Value} (h : w.cell? ⟨g, i, none⟩ = some z) : (Instr.loadAt 22 (.pointer (some ⟨g, i, none⟩))).run Try.prog w = .ok z w := by
  go_simp
/-- .. without its list. -/
def Gb (g G b : Nat) (n : Nt) (w : World) : Prop := Nb w g n ∧ w.cell? ⟨G, 1, none⟩ = some (.map (some b))
section
variable {g G b : Nat} {n : Nt} {v : Value}
theorem Gb.ln : ∀ w, Gb g G b n w → (Instr.loadAt 51 (.pointer (some ⟨g, 0, none⟩))).run Try.prog w = .ok (nv n) w := fun w h => h.1.load
end
theorem wp_putD {α : Type} (L : Elem α) {w : World} {o : Oper} {a : Act} {K : Act → World → Prop} {Q : Exit → Act → World → Prop} (m x v : Operand) (t : TypeId) (hop : o.op = Op.mapUpdate t m x v) (E : TypeId)
    (ht : Try.prog.underlying t = some (.map 48 E)) (b n : Nat) (f : Dt → Option α) (hm : a.eval m = .map (some b)) (h : Dm L w b n f) (hn : n < maxLen) (d : Dt) (y : α) (hx : a.eval x = dv d) (hv : a.eval v = L.e y) (hd : fitD d)
    (hK : ∀ w', Dm L w' b (n + 1) (putF f d y) → w.grownBy w' (some b) → K (a.put o.dst undef) w') : o.wp Try.prog a w K Q := by
  obtain ⟨w', hrun, r1, r2⟩ := h.put ht hn hd y
  unfold Oper.wp
  simp [execOp, hop, hm, hx, hv, hrun, Result.andThen]
  exact hK w' r1 r2
theorem wp_appN {P : Program} {w : World} {x : Oper} {a : Act} {K : Act → World → Prop} {Q : Exit → Act → World → Prop} (s y : Operand) (T : TypeId)
    (ho : x.op = .call { callee := .builtin .append, args := #[s, y], argTypes := #[T, T] })
    {base : Nat} {E : TypeId} (hT : P.underlying T = some (.slice E)) (hinfo : (P.info? E).map (fun i => (i.zero, i.size, i.bytes)) = some (some zeroNv, 6, 48))
    (v : Value) (l : List Nt) (hs : a.eval s = v) (h : ON w base E v l) (ad : Option Addr) (m : List Nt) (c n : Nat) (hn : n = m.length) (hx : a.eval y = .slice ad n c) (hrow : RowN w ad m) (hnil : ad = none → c = 0)
    (hlen : l.length + m.length ≤ 1000000000000) (hbase : base ≤ w.heap.size)
    (hk : ∀ v' w', ON w' base E v' (l ++ m) → w.grownBy w' v.ownBlock → G.Grew w v v' → K (a.put x.dst v') w') : x.wp P a w K Q := by
  subst hn
  obtain ⟨v', w', hr, h2, h3, h4⟩ := run_appN hT hinfo h x.type ad m c hrow hnil hlen hbase
  unfold Oper.wp execOp
  simp only [ho, resolve, invoke, builtin, Sem.run_bind, Sem.run_pure, Result.andThen_ok, List.map_toArray, List.map_cons, List.map_nil, hs, hx, hr]
  exact hk _ _ h2 h3 h4

theorem nb_gb {w w' : World} {g r : Nat} {n : Nt} (h : Nb w g n) (hg : w.grownBy w' (some r)) (hne : g ≠ r) : Nb w' g n := by
  have e : w'.heap[g]? = w.heap[g]? := hg.block g h.lt (by simpa using hne)
  obtain ⟨h0, h1, h2, h3, h4, h5⟩ := h
  exact ⟨(World.cell?_of_block (a := ⟨g, 0, none⟩) e).trans h0, (World.cell?_of_block (a := ⟨g, 1, none⟩) e).trans h1, (World.cell?_of_block (a := ⟨g, 2, none⟩) e).trans h2, (World.cell?_of_block (a := ⟨g, 3, none⟩) e).trans h3, (World.cell?_of_block (a := ⟨g, 4, none⟩) e).trans h4, (World.cell?_of_block (a := ⟨g, 5, none⟩) e).trans h5⟩
section
variable {w w' : World} {base G b N : Nat} {v : Value} {ns : List Nt}
end
section
variable {g G b h o : Nat} {n r : Nt} {v : Value}
end
theorem gb_putN (w : World) (g : Nat) (n : Nt) : w.grownBy (Nd.putN w g n) (some g) :=
  gb_trans (gb_trans (gb_trans (gb_trans (gb_trans (gb_setCell _ _ _ _) (gb_setCell _ _ _ _)) (gb_setCell _ _ _ _)) (gb_setCell _ _ _ _)) (gb_setCell _ _ _ _)) (gb_setCell _ _ _ _)
theorem put_nb {w : World} {g : Nat} (h : Zb w g) (n : Nt) : Nb (Nd.putN w g n) g n := by
  obtain ⟨⟨h0, h1, h2, h3, h4, h5⟩, -⟩ := h
  unfold Nd.putN
  refine ⟨?_, ?_, ?_, ?_, ?_, ?_⟩ <;> go_simp
section
variable {G b q : Nat} {m : Nt} {v : Value}
end
section
variable {w w' w2 : World}
end
end Go.Proofs.Ytgopkffgljiblaa.Qs
end

/-
  Layer 14's reference: a state with one more node.
-/
section
namespace Go.Proofs.Ytgopkffgljiblaa.Jn
set_option linter.unusedVariables false
open Go.RowKit V Go.Sort D Nd Qs
attribute [local irreducible] Sch.heldN Sch.stepV Sch.stepE

/-! ### Parts of rows of nodes -/
theorem cut_loN (a : Option Addr) (len cap n : Nat) (hn : n ≤ cap) : ∀ wx : World,
    (Instr.slice 23 (.slice a len cap) none (some (.int .i64 (n : Int))) none).run Try.prog wx = .ok (.slice a n cap) wx := by
  obtain ⟨i, hi, hz0, hz1, hz2⟩ := G.info_of infoN
  intro wx
  have h1 : (Instr.sliceBound (.int .i64 (n : Int)) cap .sliceAcap).run Try.prog wx = .ok n wx := by
    rw [run_sliceBound _ _ _ _ _ (by omega) (by omega)]; rfl
  have h0 : (⟨0, 0, none⟩ : Addr).add 0 = ⟨0, 0, none⟩ := rfl
  by_cases hc : cap = 0
  · rw [hc] at h1
    simp [Instr.slice, run_underlying Try.underlying23, Instr.sliceBounds, h1, Result.andThen, sizeOf, typeInfo, hi, hc]
  · have : a.map (fun x => x.add 0) = a := by
      rcases a with _ | ⟨b, o, s⟩
      · rfl
      · simp [Addr.add]
    simp [Instr.slice, run_underlying Try.underlying23, Instr.sliceBounds, h1, Result.andThen, sizeOf, typeInfo, hi, hc, this]
def offN (a : Option Addr) (cap m : Nat) : Option Addr := if cap = m then a else a.map (·.add (m * 6))
theorem cut_hiN (a : Option Addr) (len cap m k : Nat) (hk : len = m + k) (hlc : len ≤ cap) : ∀ wx : World,
    (Instr.slice 23 (.slice a len cap) (some (.int .i64 (m : Int))) none none).run Try.prog wx = .ok (.slice (offN a cap m) k (cap - m)) wx := by
  obtain ⟨i, hi, hz0, hz1, hz2⟩ := G.info_of infoN
  intro wx
  have h2 : (Instr.sliceBound (.int .i64 (m : Int)) len .sliceB).run Try.prog wx = .ok m wx := by
    rw [run_sliceBound _ _ _ _ _ (by omega) (by omega)]; rfl
  have e : len - m = k := by omega
  simp [Instr.slice, run_underlying Try.underlying23, Instr.sliceBounds, h2, Result.andThen, sizeOf, typeInfo, hi, hz1, e, offN]
theorem offN_row {w : World} {a : Option Addr} {l : List Nt} (h : RowN w a l) (cap m : Nat) (hlc : l.length ≤ cap) (hm : m ≤ l.length) : RowN w (offN a cap m) (l.drop m) := by
  unfold offN
  split
  · left
    rw [List.drop_eq_nil_iff]; omega
  · rcases h with rfl | ⟨b, o, rfl, hc⟩
    · exact .inl (by simp)
    · have e : (⟨b, o, none⟩ : Addr).add (m * 6) = ⟨b, o + m * 6, none⟩ := by unfold Addr.add; split <;> simp_all
      rw [Option.map_some, e]
      exact RowN.drop (w := w) (b := b) (o := o) (l := l) (.inr ⟨b, o, rfl, hc⟩) m hm
theorem offN_none {a : Option Addr} {cap m : Nat} (h : offN a cap m = none) : a = none := by
  unfold offN at h
  split at h
  · exact h
  · simpa using h
theorem offN_some (b o cap m : Nat) (h : m < cap) : offN (some ⟨b, o, none⟩) cap m = some ⟨b, o + m * 6, none⟩ := by
  unfold offN
  rw [if_neg (by omega), Option.map_some]
  unfold Addr.add
  split <;> simp_all
theorem ixN0 (b o n c : Nat) (hk : 0 < n) : ∀ w, (Instr.indexAt 23 (.slice (some ⟨b, o, none⟩) n c) (.int .i64 0)).run Try.prog w = .ok (.pointer (some ⟨b, o, none⟩)) w := fun w => by
  have := ixS b o n c 0 0 rfl hk w
  rwa [Nat.zero_mul, Nat.add_zero] at this
/-- The box with the node. -/
def Kb6 (g : Nat) (n : Nt) (w : World) : Prop := Nb w g n
theorem Kb6.l {g : Nat} {n : Nt} : ∀ w, Kb6 g n w → (Instr.loadAt 51 (.pointer (some ⟨g, 0, none⟩))).run Try.prog w = .ok (nv n) w := fun w k => k.load
/-- The box and the node at the place. -/
def Pq (g b o : Nat) (n q : Nt) (w : World) : Prop := Nb w g n ∧ Na w b o q
section
variable {g b o : Nat} {n q : Nt}
theorem Pq.keep {w w' : World} (h : Pq g b o n q w) (hb : Below w.heap.size w w') : Pq g b o n q w' := ⟨h.1.keep hb, h.2.keep hb⟩
theorem Pq.nd : ∀ w, Pq g b o n q w → (Instr.loadAt 48 (.pointer (some ⟨g, 0, none⟩))).run Try.prog w = .ok (dv n.1) w := fun w k => k.1.loadD
theorem Pq.qd : ∀ w, Pq g b o n q w → (Instr.loadAt 48 (.pointer (some ⟨b, o, none⟩))).run Try.prog w = .ok (dv q.1) w := fun w k => k.2.loadD
theorem Pq.nn : ∀ w, Pq g b o n q w → (Instr.loadAt 51 (.pointer (some ⟨g, 0, none⟩))).run Try.prog w = .ok (nv n) w := fun w k => k.1.load
theorem Pq.qn : ∀ w, Pq g b o n q w → (Instr.loadAt 51 (.pointer (some ⟨b, o, none⟩))).run Try.prog w = .ok (nv q) w := fun w k => k.2.load
end
theorem lt_of_row {w : World} {b o : Nat} {l : List Nt} (h : RowN w (some ⟨b, o, none⟩) l) (hl : 0 < l.length) : b < w.heap.size := by
  rcases h with rfl | ⟨b2, o2, e, hc⟩
  · simp at hl
  · cases e
    exact lt_of_cell (hc 0 hl 0 (by omega))

theorem on_one (w : World) (base : Nat) (n : Nt) (hb : base ≤ w.heap.size) : ON (w.alloc (.cells (nc n) 51)) base 51 (.slice (some ⟨w.heap.size, 0, none⟩) 1 1) [n] := by
  have hh : (w.alloc (.cells (nc n) 51)).heap[w.heap.size]? = some (.cells (nc n) 51 (0, 0)) := by show (w.heap.push _)[w.heap.size]? = _; simp
  refine on_of (l := [n]) hb hh (Nat.le_refl _) (by decide) rfl (fun i hi j hj => ?_)
  have : i = 0 := by simpa using hi
  subst this
  simp
/-- A node put where it belongs. -/
def putR (l : List Nt) (n : Nt) : List Nt := l.take (posS l n.1) ++ n :: l.drop (posS l n.1)
end Go.Proofs.Ytgopkffgljiblaa.Jn
end

/-
  Layer 14's reference: the join.
-/
section
namespace Go.Proofs.Ytgopkffgljiblaa.Jn
set_option linter.unusedVariables false
open Go.RowKit V Go.Sort D Nd Qs
attribute [local irreducible] Sch.heldN Sch.stepV Sch.stepE

theorem step_none {l : List Nt} {n : Nt} (h : atS l n.1 = none) : stepR l n = putR l n := by
  unfold stepR
  rw [hit_at, h]
  rfl
theorem step_some {l : List Nt} {n : Nt} {k : Nat} (hk : k < l.length) (hi : idxS l n.1 = (k : Int)) (h : atS l n.1 = some l[k]) : stepR l n = l.set k (mrgR l[k] n) := by
  have e : hitS l n.1 = k := by
    unfold idxS at hi
    rw [h] at hi
    simp only [Option.isSome_some, if_true] at hi
    exact Int.ofNat_inj.1 hi
  unfold stepR
  rw [hit_at, h, e]
theorem putR_len (l : List Nt) (n : Nt) : (putR l n).length = l.length + 1 := by
  unfold putR
  rw [List.length_append, List.length_cons, List.length_take, List.length_drop]
  have := posS_le l n.1
  omega
theorem step_len (l : List Nt) (n : Nt) : (stepR l n).length ≤ l.length + 1 := by
  unfold stepR
  split
  · rw [List.length_set]; omega
  · exact Nat.le_of_eq (putR_len l n)
theorem joinR_len (b : List Nt) : ∀ a : List Nt, (joinR a b).length ≤ a.length + b.length := by
  induction b with
  | nil => exact fun a => Nat.le_refl _
  | cons n t ih =>
    intro a
    have h1 := ih (stepR a n)
    have h2 := step_len a n
    show (joinR (stepR a n) t).length ≤ a.length + (t.length + 1)
    omega
theorem joinR_take {a b : List Nt} {k : Nat} (hk : k < b.length) : joinR a (b.take (k + 1)) = stepR (joinR a (b.take k)) b[k] := by
  unfold joinR
  rw [foldl_take _ _ _ _ hk]
theorem ON.some {w : World} {base : Nat} {E : TypeId} {a : Option Addr} {n c : Nat} {l : List Nt} (h : ON w base E (.slice a n c) l) {b o : Nat} (e : a = some ⟨b, o, none⟩) : o = 0 ∧ base ≤ b := by
  obtain ⟨a', c', e', -, -, -, hx⟩ := Qs.ON.row h
  simp only [Value.slice.injEq] at e'
  obtain ⟨rfl, -, -⟩ := e'
  have := hx _ e
  simp only [Addr.mk.injEq, and_true, true_and] at this
  exact ⟨this.1, this.2.2.1⟩
/-- A node of a row. -/
def Kq (b o : Nat) (n : Nt) (w : World) : Prop := Na w b o n
theorem Kq.keep {b o : Nat} {n : Nt} {w w' : World} (h : Kq b o n w) (hb : Below w.heap.size w w') : Kq b o n w' := Na.keep h hb
theorem Kq.l {b o : Nat} {n : Nt} : ∀ w, Kq b o n w → (Instr.loadAt 51 (.pointer (some ⟨b, o, none⟩))).run Try.prog w = .ok (nv n) w := fun w k => Na.load k
end Go.Proofs.Ytgopkffgljiblaa.Jn
end

/-
  Layer 14's reference: a spoilt copy.
-/
section
namespace Go.Proofs.Ytgopkffgljiblaa.Jn
set_option linter.unusedVariables false
open Go.RowKit V Go.Sort D Nd Qs
attribute [local irreducible] Sch.heldN Sch.stepV Sch.stepE

theorem on_putRune {w : World} {base g c m : Nat} {l : List Nt} (h : ON w base Qs.E (.slice (some ⟨g, 0, none⟩) m c) l) {k : Nat} (hk : k < l.length) (z : Int) : ON (w.setCell ⟨g, k * 6 + 5, none⟩ (.int .i32 z)) base Qs.E (.slice (some ⟨g, 0, none⟩) m c) (l.set k (l[k].1, l[k].2.1, l[k].2.2.1, z)) := by
  rcases h.cur with ⟨e, -⟩ | ⟨g', cap, cur, e, hb, hg, hn, hc, hs, hr⟩
  · cases e
  · simp only [Value.slice.injEq, Option.some.injEq, Addr.mk.injEq, and_true] at e
    obtain ⟨rfl, rfl, rfl⟩ := e
    have := on_of (l := l.set k (l[k].1, l[k].2.1, l[k].2.2.1, z)) hb (heap_set hg (k * 6 + 5) (.int .i32 z)) (by simpa using hn) hc (by simpa using hs) (fun i hi j hj => ?_)
    · rw [List.length_set] at this; exact this
    · rw [List.length_set] at hi
      simp only [Array.getElem?_setIfInBounds]
      rw [List.getElem_set]
      by_cases e : k = i
      · subst e
        rw [if_pos rfl]
        by_cases e4 : j = 5
        · subst e4
          simp; omega
        · rw [if_neg (by omega), hr k hi j hj]
          match j, hj, e4 with
          | 0, _, _ => rfl
          | 1, _, _ => rfl
          | 2, _, _ => rfl
          | 3, _, _ => rfl
          | 4, _, _ => rfl
          | 5, _, h => exact absurd rfl h
      · rw [if_neg e, if_neg (by omega)]
        exact hr i hi j hj

end Go.Proofs.Ytgopkffgljiblaa.Jn
end

/-
  Package join: Valid, Equal, Copy.
-/
section
namespace Go.Proofs.Ytgopkffgljiblaa.Jn
set_option linter.unusedVariables false
open Go.RowKit V Go.Sort D Nd Qs
attribute [local irreducible] Sch.heldN Sch.stepV Sch.stepE

theorem nilS : ∀ (w : World) (a : Option Addr) (n c n' c' : Nat), (binOp .eql 23 (.slice a n c) (.slice none n' c')).run Try.prog w = .ok (.bool a.isNone) w := fun w a n c n' c' => Lib.run_eql_slice_nil w _ _ a n c n' c' Try.underlying23
set_option maxRecDepth 100000 in
theorem jvalid_any (l : List Nt) (a : Option Addr) (c : Nat) (w : World) (hx : RowN w a l) (hlx : l.length ≤ 1000000) :
    Calls Try.prog 29 #[.slice a l.length c] w fun e w' => e = .returned (.bool (validS l)) ∧ Below w.heap.size w w' := by
  have H := Lib.hid (validS_any l a c w hx hlx)
  clear hx hlx
  go_enter Try.func29, Try.ntmps29
  go_wp2_with fail
  refine H.out.mono ?_
  rintro e w2 ⟨rfl, hb⟩
  have HB := Lib.hid hb
  clear hb H
  go_wp2_with fail
  go_ret
  exact ⟨rfl, HB.out⟩
set_option maxRecDepth 100000 in
theorem jequal_any (xs ys : List Nt) (a b : Option Addr) (c d : Nat) (w : World) (hx : RowN w a xs) (hy : RowN w b ys) (hlx : xs.length ≤ 1000000) (hly : ys.length ≤ 1000000) :
    Calls Try.prog 33 #[.slice a xs.length c, .slice b ys.length d] w fun e w' => e = .returned (.bool (decide (xs = ys))) ∧ Below w.heap.size w w' := by
  have H := Lib.hid (equal_any xs ys a b c d w hx hy hlx hly)
  clear hx hlx hy hly
  generalize decide (xs = ys) = r at *
  go_enter Try.func33, Try.ntmps33
  go_wp2_with fail
  refine H.out.mono ?_
  rintro e w2 ⟨rfl, hb⟩
  have HB := Lib.hid hb
  clear hb H
  go_wp2_with fail
  go_ret
  exact ⟨rfl, HB.out⟩
end Go.Proofs.Ytgopkffgljiblaa.Jn
end

/-
  Package join: Join.
-/
section
namespace Go.Proofs.Ytgopkffgljiblaa.Jn
set_option linter.unusedVariables false
open Go.RowKit V Go.Sort D Nd Qs
attribute [local irreducible] Sch.heldN Sch.stepV Sch.stepE

/-- The join of two states, and its error. -/
def joinP (a b : List Nt) : List Nt × Int := if (validS a && validS b) = true then (if agS a b = true then (joinL a b, 0) else ([], 15)) else ([], 2)
theorem run_mkS (w : World) (c : Nat) (hc : c ≤ 1000000) :
    ∃ w', (Instr.makeSlice 23 (.int .i64 0) (.int .i64 (c : Int))).run Try.prog w = .ok (.slice (some ⟨w.heap.size, 0, none⟩) 0 c) w' ∧ ON w' w.heap.size 51 (.slice (some ⟨w.heap.size, 0, none⟩) 0 c) [] ∧ Below w.heap.size w w' := by
  obtain ⟨i, hi, hz0, hz1, hz2⟩ := G.info_of infoN
  obtain ⟨w', hr, ho, hg⟩ := run_make_own (P := Try.prog) w w.heap.size 23 51 i _ 6 Try.underlying23 hi hz0 hz1 .i64 .i64 c (by rw [hz2]; omega) (by unfold maxLen; omega) (Nat.le_refl _)
  exact ⟨w', hr, ho, (Below.refl _ _).grown hg (Nat.le_refl _) (fun k hk => by cases hk)⟩
/-- How long a slice is. -/
def lenV : Value → Nat
  | .slice _ n _ => n
  | _ => 0
/-- A slice with a list of nodes. -/
structure Sl (w : World) (a : Option Addr) (n c : Nat) (l : List Nt) : Prop where
  n : n = l.length
  r : RowN w a l
  z : a = none → c = 0
  c : l.length ≤ c
theorem Sl.keep {w w' : World} {a : Option Addr} {n c : Nat} {l : List Nt} (h : Sl w a n c l) (hb : Below w.heap.size w w') : Sl w' a n c l := ⟨h.n, h.r.keep hb, h.z, h.c⟩
theorem Sl.tail {w : World} {a : Option Addr} {n c : Nat} {x : Nt} {l : List Nt} (h : Sl w a n c (x :: l)) : Sl w (offN a c 1) (n - 1) (c - 1) l := by
  have h1 := offN_row h.r c 1 h.c (by simp)
  refine ⟨?_, ?_, fun e => ?_, ?_⟩
  · have := h.n; simp at this; omega
  · simpa using h1
  · have := h.z (offN_none e); omega
  · have := h.c; simp at this; omega
theorem Sl.head {w : World} {a : Option Addr} {n c : Nat} {x : Nt} {l : List Nt} (h : Sl w a n c (x :: l)) : ∃ b o, a = some ⟨b, o, none⟩ ∧ Na w b o x := by
  obtain ⟨b, o, e, hn⟩ := na_of h.r 0 (by simp)
  rw [Nat.zero_mul, Nat.add_zero] at hn
  exact ⟨b, o, e, hn⟩
/-- What remains to be zipped. -/
structure Zi (xs ys Z A B : List Nt) : Prop where
  j : Z ++ zipJ A B = zipJ xs ys
  g : zagB A B = zagB xs ys
  a : ∀ x ∈ A, validN x = true
  b : ∀ x ∈ B, validN x = true
  l : Z.length + (A.length + B.length) ≤ 400000
theorem Zi.end1 {xs ys Z A B : List Nt} (h : Zi xs ys Z A B) (e : A = [] ∨ B = []) : Z ++ A ++ B = zipJ xs ys ∧ zagB xs ys = true := by
  rw [← h.j, ← h.g]
  rcases e with rfl | rfl
  · rw [zipJ, zagB]; simp
  · rw [zip_nil, zag_nil]; simp
theorem Zi.left {xs ys Z A B : List Nt} {x y : Nt} (h : Zi xs ys Z (x :: A) (y :: B)) (e : less x.1 y.1 = true) : Zi xs ys (Z ++ [x]) A (y :: B) := by
  have h1 : zipJ (x :: A) (y :: B) = x :: zipJ A (y :: B) := by rw [zipJ, if_neg (less_ne e), if_pos e]
  have h2 : zagB (x :: A) (y :: B) = zagB A (y :: B) := by rw [zagB, if_neg (less_ne e), if_pos e]
  refine ⟨?_, by rw [← h2]; exact h.g, fun z hz => h.a z (by simp [hz]), h.b, ?_⟩
  · rw [← h.j, h1]; simp
  · have := h.l; simp at this ⊢; omega
theorem not_both {a b : Dt} (e : less b a = true) : ¬ less a b = true := fun h => by
  have := less_trans h e
  rw [less_irr] at this
  cases this
theorem Zi.right {xs ys Z A B : List Nt} {x y : Nt} (h : Zi xs ys Z (x :: A) (y :: B)) (e : less y.1 x.1 = true) : Zi xs ys (Z ++ [y]) (x :: A) B := by
  have h1 : zipJ (x :: A) (y :: B) = y :: zipJ (x :: A) B := by rw [zipJ, if_neg (less_ne e).symm, if_neg (not_both e)]
  have h2 : zagB (x :: A) (y :: B) = zagB (x :: A) B := by rw [zagB, if_neg (less_ne e).symm, if_neg (not_both e)]
  refine ⟨?_, by rw [← h2]; exact h.g, h.a, fun z hz => h.b z (by simp [hz]), ?_⟩
  · rw [← h.j, h1]; simp
  · have := h.l; simp at this ⊢; omega
theorem Zi.both {xs ys Z A B : List Nt} {x y : Nt} (h : Zi xs ys Z (x :: A) (y :: B)) (e : x.1 = y.1) : (agreeN x y = false → (mergeN x y).2 = 15 ∧ zagB xs ys = false) ∧ (agreeN x y = true → (mergeN x y).2 = 0 ∧ Zi xs ys (Z ++ [(mergeN x y).1]) A B) := by
  have hv : (validN x && validN y) = true := by rw [h.a x (by simp), h.b y (by simp)]; rfl
  have h2 : zagB (x :: A) (y :: B) = (agreeN x y && zagB A B) := by rw [zagB, if_pos e]
  constructor
  · intro hg
    refine ⟨?_, by rw [← h.g, h2, hg]; rfl⟩
    rw [merge_def, if_pos hv, if_neg (by rw [hg]; simp)]
  · intro hg
    have hm : mergeN x y = (if deadN y = true then y else x, 0) := by rw [merge_def, if_pos hv, if_pos hg]
    have h1 : zipJ (x :: A) (y :: B) = (mergeN x y).1 :: zipJ A B := by
      rw [zipJ, if_pos e, hm]
      simp only [deadN, decide_eq_true_eq]
    refine ⟨by rw [hm], ?_, ?_, fun z hz => h.a z (by simp [hz]), fun z hz => h.b z (by simp [hz]), ?_⟩
    · rw [← h.j, h1]; simp
    · rw [← h.g, h2, hg]; rfl
    · have := h.l; simp at this ⊢; omega
section
variable {b1 o1 b2 o2 : Nat} {n m : Nt}
theorem Vab.ld : ∀ w, Vab b1 o1 b2 o2 n m w → (Instr.loadAt 48 (.pointer (some ⟨b1, o1, none⟩))).run Try.prog w = .ok (dv n.1) w := fun w k => k.1.loadD
theorem Vab.lmd : ∀ w, Vab b1 o1 b2 o2 n m w → (Instr.loadAt 48 (.pointer (some ⟨b2, o2, none⟩))).run Try.prog w = .ok (dv m.1) w := fun w k => k.2.loadD
end
theorem nb_own {w w' : World} {v : Value} {g : Nat} {n : Nt} (h : Nb w g n) (hg : w.grownBy w' v.ownBlock) (hne : ∀ k, v.ownBlock = some k → k ≠ g) : Nb w' g n := by
  have e : w'.heap[g]? = w.heap[g]? := hg.block g h.lt (fun e => hne g e.symm rfl)
  obtain ⟨h0, h1, h2, h3, h4, h5⟩ := h
  exact ⟨(World.cell?_of_block (a := ⟨g, 0, none⟩) e).trans h0, (World.cell?_of_block (a := ⟨g, 1, none⟩) e).trans h1, (World.cell?_of_block (a := ⟨g, 2, none⟩) e).trans h2, (World.cell?_of_block (a := ⟨g, 3, none⟩) e).trans h3, (World.cell?_of_block (a := ⟨g, 4, none⟩) e).trans h4, (World.cell?_of_block (a := ⟨g, 5, none⟩) e).trans h5⟩
set_option maxRecDepth 100000 in
set_option maxHeartbeats 8000000 in
theorem join_any (xs ys : List Nt) (a b : Option Addr) (c d : Nat) (w : World) (hx : RowN w a xs) (hna : a = none → c = 0) (hlc : xs.length ≤ c) (hy : RowN w b ys) (hnb : b = none → d = 0) (hld : ys.length ≤ d) (hlx : xs.length ≤ 200000) (hly : ys.length ≤ 200000) :
    Calls Try.prog 14 #[.slice a xs.length c, .slice b ys.length d] w fun e w' => ∃ v, e = .returned (.tuple #[v, .int .i64 (joinP xs ys).2]) ∧ ON w' w.heap.size 51 v (joinP xs ys).1 ∧ Below w.heap.size w w' := by
  have HX := Lib.hid (show Sl w a xs.length c xs from ⟨rfl, hx, hna, hlc⟩)
  have HY := Lib.hid (show Sl w b ys.length d ys from ⟨rfl, hy, hnb, hld⟩)
  have HV := Lib.hid (fun w h => jvalid_any xs a c w h (by omega))
  have HU := Lib.hid (fun w h => jvalid_any ys b d w h (by omega))
  have HE : Hid ((validS xs = false → joinP xs ys = ([], 2)) ∧ (validS ys = false → joinP xs ys = ([], 2)) ∧ (validS xs = true → validS ys = true → (zagB xs ys = false → joinP xs ys = ([], 15)) ∧ (zagB xs ys = true → joinP xs ys = (zipJ xs ys, 0)) ∧ Zi xs ys [] xs ys)) := by
    unfold joinP
    refine ⟨fun h => by rw [h]; rfl, fun h => by rw [h, Bool.and_false]; rfl, fun h1 h2 => ?_⟩
    have hs1 := (validS_iff.1 h1).2
    have hs2 := (validS_iff.1 h2).2
    rw [h1, h2, zag_ag xs ys hs1 hs2]
    refine ⟨fun h => by rw [h]; rfl, fun h => ?_, ⟨rfl, rfl, (validS_iff.1 h1).1, (validS_iff.1 h2).1, by simp; omega⟩⟩
    rw [if_pos (show (true && true) = true from rfl), if_pos h, zip_join h1 h2 h]
  have hli : (xs.length : Int) ≤ 200000 := by omega
  have hli2 : (ys.length : Int) ≤ 200000 := by omega
  have HLx := Lib.hid hlx
  have HLy := Lib.hid hly
  clear hx hna hlc hy hnb hld hlx hly
  generalize joinP xs ys = R0 at *
  obtain ⟨vx, hvx⟩ : ∃ t, t = validS xs := ⟨_, rfl⟩
  obtain ⟨vy, hvy⟩ : ∃ t, t = validS ys := ⟨_, rfl⟩
  rw [← hvx] at HV HE
  rw [← hvy] at HU HE
  clear hvx hvy
  go_enter Try.func14, Try.ntmps14
  go_wp2_with fail
  refine (HV.out _ HX.out.r).mono ?_
  rintro e w2 ⟨rfl, hb⟩
  have HB := Lib.hid hb
  clear hb HV
  rcases vx with _ | _
  · have HN := Lib.hid (HE.out.1 rfl)
    clear HE
    go_wp2_with fail
    go_ret2
    exact ⟨.slice none 0 0, by rw [HN.out]; rfl, by rw [HN.out]; exact ON.nil _ _ _, HB.out⟩
  go_wp2_with fail
  refine (HU.out _ (HY.out.keep HB.out).r).mono ?_
  rintro e w3 ⟨rfl, hb⟩
  replace HB := bel_tr HB hb
  clear hb HU
  rcases vy with _ | _
  · have HN := Lib.hid (HE.out.2.1 rfl)
    clear HE
    go_wp2_with fail
    go_ret2
    exact ⟨.slice none 0 0, by rw [HN.out]; rfl, by rw [HN.out]; exact ON.nil _ _ _, HB.out⟩
  have HC := Lib.hid (HE.out.2.2 (by first | exact rfl | trivial) (by first | exact rfl | trivial)).1
  have HD := Lib.hid (HE.out.2.2 (by first | exact rfl | trivial) (by first | exact rfl | trivial)).2.1
  have HZ := Lib.hid (HE.out.2.2 (by first | exact rfl | trivial) (by first | exact rfl | trivial)).2.2
  clear HE
  obtain ⟨w4, hmk, hO, hB4⟩ := run_mkS w3 (xs.length + ys.length) (by have := HLx.out; have := HLy.out; omega)
  rw [Int.natCast_add] at hmk
  have HO : Hid (ON w4 w.heap.size 51 (.slice (some ⟨w3.heap.size, 0, none⟩) 0 (xs.length + ys.length)) []) := hO.mono fun x hx => Nat.le_trans HB.out.size (hO.lt x hx).1
  replace HB := bel_tr HB hB4
  clear hO hB4
  generalize w3.heap.size = g3 at *
  have hw2 := wrap_nat (show ((xs.length + ys.length : Nat) : Int) ≤ 140737488355328 by omega)
  rw [Int.natCast_add] at hw2
  obtain ⟨nx, hnx⟩ : ∃ nx, nx = xs.length := ⟨_, rfl⟩
  obtain ⟨ny, hny⟩ : ∃ ny, ny = ys.length := ⟨_, rfl⟩
  rw [← hnx] at HX hmk hw2 HO hli HLx ⊢
  rw [← hny] at HY hmk hw2 HO hli2 HLy ⊢
  clear hnx hny
  go_wp2_with fail
  go_loopw [0, 1, 6, 7, 8, 9, 62, 73] (fun av bv v _ _ _ _ _ wr => ∃ (A B Z : List Nt) (aa bb : Option Addr) (n m ca cb : Nat), av = .slice aa n ca ∧ bv = .slice bb m cb ∧ Hid (Sl w aa n ca A) ∧ Hid (Sl w bb m cb B) ∧ Hid (Below w.heap.size w wr) ∧ Hid (ON wr w.heap.size 51 v Z) ∧ Hid (Zi xs ys Z A B)) (fun av bv _ _ _ _ _ _ _ => lenV av + lenV bv)
  case atStart => exact ⟨xs, ys, [], a, b, nx, ny, c, d, rfl, rfl, HX, HY, HB, HO, HZ⟩
  case round =>
    clear HX HY HB HO HZ hmk hw2
    obtain ⟨A, B, Z, aa, bb, n, m, ca, cb, rfl, rfl, HX, HY, HB, HO, HZ⟩ := hrel
    have HNx := Lib.hid HX.out.n
    have HNy := Lib.hid HY.out.n
    by_cases hEnd : A = [] ∨ B = []
    · have HEn := Lib.hid (HZ.out.end1 hEnd)
      have HLn := Lib.hid HZ.out.l
      have HIs := Lib.hid (HD.out HEn.out.2)
      have HXr := Lib.hid (HX.out.keep HB.out)
      have HYr := Lib.hid HY.out
      rcases Nat.eq_zero_or_pos n with h0 | hn
      · subst h0
        clear hEnd HZ HC HD HX HY HNx HNy
        go_wp2_with (at_builtin; refine wpList_appN rfl _ _ _ rfl Try.underlying23 infoN _ Z rfl HO.out aa A ca _ HXr.out.n rfl HXr.out.r HXr.out.z (by have := HLn.out; omega) HB.out.size ?_)
        intro v8 w8 ho hg _
        have HB8 := Lib.hid (HB.out.grown hg HB.out.size (fun k hk => (HO.out.lt k hk).1))
        have HO8 := Lib.hid ho
        have HY8 := Lib.hid (HYr.out.keep HB8.out)
        clear ho hg HO HB HXr HYr
        go_wp2_with (at_builtin; refine wpList_appN rfl _ _ _ rfl Try.underlying23 infoN v8 (Z ++ A) rfl HO8.out bb B cb _ HY8.out.n rfl HY8.out.r HY8.out.z (by have := HLn.out; rw [List.length_append]; omega) HB8.out.size ?_)
        intro v9 w9 ho hg _
        have HB9 := Lib.hid (HB8.out.grown hg HB8.out.size (fun k hk => (HO8.out.lt k hk).1))
        have HO9 := Lib.hid ho
        clear ho hg HO8 HB8 HY8
        go_wp2_with fail
        go_ret2
        rw [HIs.out, ← HEn.out.1]
        exact ⟨v9, rfl, by rw [List.append_assoc]; exact HO9.out, HB9.out⟩
      · have hn0 : (0 : Int) < (n : Int) := by omega
        have hm0 : m = 0 := by
          rcases hEnd with h | h
          · have := HNx.out; rw [h] at this; simp at this; omega
          · have := HNy.out; rw [h] at this; simpa using this
        subst hm0
        clear hEnd HZ HC HD HX HY HNx HNy hn
        go_wp2_with (at_builtin; refine wpList_appN rfl _ _ _ rfl Try.underlying23 infoN _ Z rfl HO.out aa A ca _ HXr.out.n rfl HXr.out.r HXr.out.z (by have := HLn.out; omega) HB.out.size ?_)
        intro v8 w8 ho hg _
        have HB8 := Lib.hid (HB.out.grown hg HB.out.size (fun k hk => (HO.out.lt k hk).1))
        have HO8 := Lib.hid ho
        have HY8 := Lib.hid (HYr.out.keep HB8.out)
        clear ho hg HO HB HXr HYr
        go_wp2_with (at_builtin; refine wpList_appN rfl _ _ _ rfl Try.underlying23 infoN v8 (Z ++ A) rfl HO8.out bb B cb _ HY8.out.n rfl HY8.out.r HY8.out.z (by have := HLn.out; rw [List.length_append]; omega) HB8.out.size ?_)
        intro v9 w9 ho hg _
        have HB9 := Lib.hid (HB8.out.grown hg HB8.out.size (fun k hk => (HO8.out.lt k hk).1))
        have HO9 := Lib.hid ho
        clear ho hg HO8 HB8 HY8
        go_wp2_with fail
        go_ret2
        rw [HIs.out, ← HEn.out.1]
        exact ⟨v9, rfl, by rw [List.append_assoc]; exact HO9.out, HB9.out⟩
    have hEx : ∃ x A', A = x :: A' := by
      rcases A with _ | ⟨x, A'⟩
      · exact absurd (.inl rfl) hEnd
      · exact ⟨x, A', rfl⟩
    have hEy : ∃ y B', B = y :: B' := by
      rcases B with _ | ⟨y, B'⟩
      · exact absurd (.inr rfl) hEnd
      · exact ⟨y, B', rfl⟩
    obtain ⟨x, A, rfl⟩ := hEx
    obtain ⟨y, B, rfl⟩ := hEy
    clear hEnd
    have hn0 : (0 : Int) < (n : Int) := by have := HNx.out; simp at this; omega
    have hm0 : (0 : Int) < (m : Int) := by have := HNy.out; simp at this; omega
    obtain ⟨b1, o1, rfl, hnx⟩ := HX.out.head
    obtain ⟨b2, o2, rfl, hny⟩ := HY.out.head
    have hd := (Below.refl wr.heap.size wr).drew
    have HN1 := Lib.hid hnx
    have HN2 := Lib.hid hny
    have HLn := Lib.hid HZ.out.l
    have HK : Hid (Vab b1 o1 b2 o2 x y wr.drew) := ⟨(hnx.keep HB.out).keep hd, (hny.keep HB.out).keep hd⟩
    have HBd := bel_tr HB hd
    have HOd := Lib.hid (HO.out.below hd)
    have hix := ixN0 b1 o1 n ca (by omega)
    have hix2 := ixN0 b2 o2 m cb (by omega)
    have hs1 : ∀ wx : World, (Instr.slice 23 (.slice (some ⟨b1, o1, none⟩) n ca) (some (.int .i64 1)) none none).run Try.prog wx = .ok (.slice (offN (some ⟨b1, o1, none⟩) ca 1) (n - 1) (ca - 1)) wx := cut_hiN _ n ca 1 (n - 1) (by omega) (by have := HX.out.n; have := HX.out.c; omega)
    have hs2 : ∀ wx : World, (Instr.slice 23 (.slice (some ⟨b2, o2, none⟩) m cb) (some (.int .i64 1)) none none).run Try.prog wx = .ok (.slice (offN (some ⟨b2, o2, none⟩) cb 1) (m - 1) (cb - 1)) wx := cut_hiN _ m cb 1 (m - 1) (by omega) (by have := HY.out.n; have := HY.out.c; omega)
    have HCp := Lib.hid (fun w => compare_any x.1 y.1 w)
    have HLx1 : Hid (n - 1 < n) := by show _ < _; omega
    have HLy1 : Hid (m - 1 < m) := by show _ < _; omega
    have HX1 := Lib.hid HX.out.tail
    have HY1 := Lib.hid HY.out.tail
    clear hnx hny hd HB HO HNx HNy
    obtain ⟨r, hr⟩ : ∃ r, r = cmpR x.1 y.1 := ⟨_, rfl⟩
    rw [← hr] at HCp
    have HR := Lib.hid hr
    clear hr
    go_wp2_with fail
    refine Sch.wp_region_tn (Vab b1 o1 b2 o2 x y) (.val 0 (.val 1 (.val 2 (.val 3 (.val 4 (.val 5 (.val 6 (.val 7 (.one 8 (.val 9 .done)))))))))) (by kernel_rfl) (by kernel_rfl) HK.out ?_
    repeat (first
      | (refine Sch.tn_q rfl rfl rfl (fun K hK => ?_); go_big_quiet_op; (first | refine hK _ ?_ | refine ⟨_, fun _ _ => rfl, hK _ ?_⟩); clear hK K)
      | (refine Sch.tn_chk _ _ _ rfl rfl rfl rfl rfl ?_; simp only [Act.put, List.setIfInBounds_toArray, List.set_cons_zero, List.set_cons_succ])
      | (refine Sch.tn_load _ _ _ _ _ rfl rfl rfl rfl (by first | exact Vab.ld | exact Vab.lmd) rfl ?_; simp only [Act.put, List.setIfInBounds_toArray, List.set_cons_zero, List.set_cons_succ]))
    generalize wr.drew = w5 at *
    refine Sch.tn_e rfl rfl (fun K hK => ?_)
    go_wp2_with fail
    refine (HCp.out _).mono ?_
    rintro e w6 ⟨rfl, hl⟩
    have hb := hl.bel
    replace HK := Lib.hid (HK.out.keep hb)
    have HB := bel_tr HBd hb
    have HO := Lib.hid (HOd.out.below hb)
    clear hl hb HBd HOd HCp
    refine hK _ _ HK.out ?_
    clear hK K
    repeat (first
      | (refine Sch.tn_q rfl rfl rfl (fun K hK => ?_); go_big_quiet_op; (first | refine hK _ ?_ | refine ⟨_, fun _ _ => rfl, hK _ ?_⟩); clear hK K)
      | (refine Sch.tn_chk _ _ _ rfl rfl rfl rfl rfl ?_; simp only [Act.put, List.setIfInBounds_toArray, List.set_cons_zero, List.set_cons_succ])
      | (refine Sch.tn_load _ _ _ _ _ rfl rfl rfl rfl (by first | exact Vab.ld | exact Vab.lmd) rfl ?_; simp only [Act.put, List.setIfInBounds_toArray, List.set_cons_zero, List.set_cons_succ]))
    refine Sch.tn_n ?_
    rcases hc : less x.1 y.1 with _ | _
    · rcases hc2 : less y.1 x.1 with _ | _
      · have he : x.1 = y.1 := less_tri hc hc2
        have hr0 : r = 0 := by rw [HR.out]; exact cmp_zero.2 he
        subst hr0
        have HEb := Lib.hid (HZ.out.both he)
        clear hc hc2 he HR HZ
        have HMg := Lib.hid (fun w => merge_any x y w)
        obtain ⟨M, hM⟩ : ∃ M, M = mergeN x y := ⟨_, rfl⟩
        rw [← hM] at HMg HEb
        clear hM
        obtain ⟨M1, M2⟩ := M
        obtain ⟨ag, hag⟩ : ∃ ag, ag = agreeN x y := ⟨_, rfl⟩
        rw [← hag] at HEb
        clear hag
        rcases ag with _ | _
        · have h15 : M2 = 15 := (HEb.out.1 rfl).1
          have HN := Lib.hid (HC.out (HEb.out.1 rfl).2)
          subst h15
          clear HEb
          have hd := (Below.refl w6.heap.size w6).drew
          have HK7 := Lib.hid (HK.out.keep hd)
          have HB7 := bel_tr HB hd
          have HO7 := Lib.hid (HO.out.below hd)
          clear hd HK HB HO
          go_wp2_with fail
          refine Sch.wp_region_tn (Vab b1 o1 b2 o2 x y) (.val 0 (.val 1 (.val 2 (.val 3 (.val 4 (.val 5 (.two 6 (.val 7 (.val 8 (.val 9 (.one 10 (.one 11 (.val 12 .done)))))) 10 (.one 6 (.val 7 (.val 8 (.val 9 (.one 11 (.val 12 .done))))))))))))) (by kernel_rfl) (by kernel_rfl) HK7.out ?_
          repeat (first
            | (refine Sch.tn_q rfl rfl rfl (fun K hK => ?_); go_big_quiet_op; (first | refine hK _ ?_ | refine ⟨_, fun _ _ => rfl, hK _ ?_⟩); clear hK K)
            | (refine Sch.tn_chk _ _ _ rfl rfl rfl rfl rfl ?_; simp only [Act.put, List.setIfInBounds_toArray, List.set_cons_zero, List.set_cons_succ])
            | (refine Sch.tn_load _ _ _ _ _ rfl rfl rfl rfl (by first | exact Vab.ln | exact Vab.lm) rfl ?_; simp only [Act.put, List.setIfInBounds_toArray, List.set_cons_zero, List.set_cons_succ]))
          generalize w6.drew = w7 at *
          refine Sch.tn_two ?_ ?_
          · skip
            refine Sch.tn_e rfl rfl (fun K hK => ?_)
            go_wp2_with fail
            refine (HMg.out _).mono ?_
            rintro e w8 ⟨rfl, hb⟩
            have HB8 := bel_tr HB7 hb
            have HO8 := Lib.hid (HO7.out.below hb)
            have HK8 := Lib.hid (HK7.out.keep hb)
            clear hb
            refine hK _ _ HK8.out ?_
            clear hK K
            repeat (first
              | (refine Sch.tn_q rfl rfl rfl (fun K hK => ?_); go_big_quiet_op; (first | refine hK _ ?_ | refine ⟨_, fun _ _ => rfl, hK _ ?_⟩); clear hK K)
              | (refine Sch.tn_chk _ _ _ rfl rfl rfl rfl rfl ?_; simp only [Act.put, List.setIfInBounds_toArray, List.set_cons_zero, List.set_cons_succ])
              | (refine Sch.tn_load _ _ _ _ _ rfl rfl rfl rfl (by first | exact Vab.ln | exact Vab.lm) rfl ?_; simp only [Act.put, List.setIfInBounds_toArray, List.set_cons_zero, List.set_cons_succ]))
            have hz := Zb.new w8
            have hb := bel_box w8 (.cells #[.int .i64 0, .int .i64 0, .int .i64 0, .int .i64 0, .int .i64 0, .int .i32 0] 51)
            have HB9 := bel_tr HB8 hb
            have HO9 := Lib.hid (HO8.out.below hb)
            have HK9 := Lib.hid (HK8.out.keep hb)
            have HLt : Hid (b1 < w8.heap.size ∧ b2 < w8.heap.size) := HK8.out.lt
            have HGe : Hid (w.heap.size ≤ w8.heap.size) := HB8.out.size
            have HOl : Hid (∀ k, Value.ownBlock u6 = some k → k ≠ w8.heap.size) := fun k hk e => by have := (HO8.out.lt k hk).2; omega
            refine Sch.tn_e rfl rfl (fun K hK => ?_)
            go_wp2_with fail
            refine hK _ (w8.alloc (.cells #[.int .i64 0, .int .i64 0, .int .i64 0, .int .i64 0, .int .i64 0, .int .i32 0] 51)) HK9.out ?_
            clear hK K hb
            have HZ9 := Lib.hid hz
            clear hz
            generalize w8.alloc (.cells #[.int .i64 0, .int .i64 0, .int .i64 0, .int .i64 0, .int .i64 0, .int .i32 0] 51) = w9 at *
            generalize w8.heap.size = g at *
            obtain ⟨⟨z0, z1, z2, z3, z4, z5⟩, hf⟩ := HZ9.out
            have f0 := hf 0
            have f1 := hf 1
            have f2 := hf 2
            have f3 := hf 3
            have f4 := hf 4
            have f5 := hf 5
            clear hf
            refine Sch.tn_e rfl rfl (fun K hK => ?_)
            go_wp2_with fail
            refine hK _ (Nd.putN w9 g M1) (HK9.out.put HLt.out.1 HLt.out.2 M1) ?_
            clear hK K z0 z1 z2 z3 z4 z5 f0 f1 f2 f3 f4 f5
            have HB14 := Lib.hid (Nd.putN_below HB9.out HGe.out M1)
            have HO14 := Lib.hid (HO9.out.keep (Jn.gb_putN w9 g M1) (by rcases hob : Value.ownBlock u6 with _ | k; exact .inl rfl; exact .inr (by have := HOl.out k hob; simp; omega)))
            have HX14 := Lib.hid (Qs.put_nb HZ9.out M1)
            generalize Nd.putN w9 g M1 = w14 at *
            repeat (first
              | (refine Sch.tn_q rfl rfl rfl (fun K hK => ?_); go_big_quiet_op; (first | refine hK _ ?_ | refine ⟨_, fun _ _ => rfl, hK _ ?_⟩); clear hK K)
              | (refine Sch.tn_chk _ _ _ rfl rfl rfl rfl rfl ?_; simp only [Act.put, List.setIfInBounds_toArray, List.set_cons_zero, List.set_cons_succ])
              | (refine Sch.tn_load _ _ _ _ _ rfl rfl rfl rfl (by first | exact Vab.ln | exact Vab.lm) rfl ?_; simp only [Act.put, List.setIfInBounds_toArray, List.set_cons_zero, List.set_cons_succ]))
            refine Sch.tn_n ?_
            go_wp2_with fail
            go_ret2
            exact ⟨.slice none 0 0, by rw [HN.out]; rfl, by rw [HN.out]; exact ON.nil _ _ _, HB14.out⟩
          · skip
            have hz := Zb.new w7
            have hb := bel_box w7 (.cells #[.int .i64 0, .int .i64 0, .int .i64 0, .int .i64 0, .int .i64 0, .int .i32 0] 51)
            have HB8 := bel_tr HB7 hb
            have HO8 := Lib.hid (HO7.out.below hb)
            have HK8 := Lib.hid (HK7.out.keep hb)
            have HLt : Hid (b1 < w7.heap.size ∧ b2 < w7.heap.size) := HK7.out.lt
            have HGe : Hid (w.heap.size ≤ w7.heap.size) := HB7.out.size
            have HOl : Hid (∀ k, Value.ownBlock u6 = some k → k ≠ w7.heap.size) := fun k hk e => by have := (HO7.out.lt k hk).2; omega
            refine Sch.tn_e rfl rfl (fun K hK => ?_)
            go_wp2_with fail
            refine hK _ (w7.alloc (.cells #[.int .i64 0, .int .i64 0, .int .i64 0, .int .i64 0, .int .i64 0, .int .i32 0] 51)) HK8.out ?_
            clear hK K hb
            have HZ8 := Lib.hid hz
            clear hz
            generalize w7.alloc (.cells #[.int .i64 0, .int .i64 0, .int .i64 0, .int .i64 0, .int .i64 0, .int .i32 0] 51) = w8 at *
            generalize w7.heap.size = g at *
            refine Sch.tn_e rfl rfl (fun K hK => ?_)
            go_wp2_with fail
            refine (HMg.out _).mono ?_
            rintro e w9 ⟨rfl, hb⟩
            have HB9 := bel_tr HB8 hb
            have HO9 := Lib.hid (HO8.out.below hb)
            have HK9 := Lib.hid (HK8.out.keep hb)
            have HZ9 := Lib.hid (HZ8.out.keep hb)
            clear hb
            refine hK _ _ HK9.out ?_
            clear hK K
            repeat (first
              | (refine Sch.tn_q rfl rfl rfl (fun K hK => ?_); go_big_quiet_op; (first | refine hK _ ?_ | refine ⟨_, fun _ _ => rfl, hK _ ?_⟩); clear hK K)
              | (refine Sch.tn_chk _ _ _ rfl rfl rfl rfl rfl ?_; simp only [Act.put, List.setIfInBounds_toArray, List.set_cons_zero, List.set_cons_succ])
              | (refine Sch.tn_load _ _ _ _ _ rfl rfl rfl rfl (by first | exact Vab.ln | exact Vab.lm) rfl ?_; simp only [Act.put, List.setIfInBounds_toArray, List.set_cons_zero, List.set_cons_succ]))
            obtain ⟨⟨z0, z1, z2, z3, z4, z5⟩, hf⟩ := HZ9.out
            have f0 := hf 0
            have f1 := hf 1
            have f2 := hf 2
            have f3 := hf 3
            have f4 := hf 4
            have f5 := hf 5
            clear hf
            refine Sch.tn_e rfl rfl (fun K hK => ?_)
            go_wp2_with fail
            refine hK _ (Nd.putN w9 g M1) (HK9.out.put HLt.out.1 HLt.out.2 M1) ?_
            clear hK K z0 z1 z2 z3 z4 z5 f0 f1 f2 f3 f4 f5
            have HB14 := Lib.hid (Nd.putN_below HB9.out HGe.out M1)
            have HO14 := Lib.hid (HO9.out.keep (Jn.gb_putN w9 g M1) (by rcases hob : Value.ownBlock u6 with _ | k; exact .inl rfl; exact .inr (by have := HOl.out k hob; simp; omega)))
            have HX14 := Lib.hid (Qs.put_nb HZ9.out M1)
            generalize Nd.putN w9 g M1 = w14 at *
            repeat (first
              | (refine Sch.tn_q rfl rfl rfl (fun K hK => ?_); go_big_quiet_op; (first | refine hK _ ?_ | refine ⟨_, fun _ _ => rfl, hK _ ?_⟩); clear hK K)
              | (refine Sch.tn_chk _ _ _ rfl rfl rfl rfl rfl ?_; simp only [Act.put, List.setIfInBounds_toArray, List.set_cons_zero, List.set_cons_succ])
              | (refine Sch.tn_load _ _ _ _ _ rfl rfl rfl rfl (by first | exact Vab.ln | exact Vab.lm) rfl ?_; simp only [Act.put, List.setIfInBounds_toArray, List.set_cons_zero, List.set_cons_succ]))
            refine Sch.tn_n ?_
            go_wp2_with fail
            go_ret2
            exact ⟨.slice none 0 0, by rw [HN.out]; rfl, by rw [HN.out]; exact ON.nil _ _ _, HB14.out⟩
        · have h15 : M2 = 0 := (HEb.out.2 rfl).1
          have HN := Lib.hid (HEb.out.2 rfl).2
          subst h15
          clear HEb
          have hd := (Below.refl w6.heap.size w6).drew
          have HK7 := Lib.hid (HK.out.keep hd)
          have HB7 := bel_tr HB hd
          have HO7 := Lib.hid (HO.out.below hd)
          clear hd HK HB HO
          go_wp2_with fail
          refine Sch.wp_region_tn (Vab b1 o1 b2 o2 x y) (.val 0 (.val 1 (.val 2 (.val 3 (.val 4 (.val 5 (.two 6 (.val 7 (.val 8 (.val 9 (.one 10 (.one 11 (.val 12 .done)))))) 10 (.one 6 (.val 7 (.val 8 (.val 9 (.one 11 (.val 12 .done))))))))))))) (by kernel_rfl) (by kernel_rfl) HK7.out ?_
          repeat (first
            | (refine Sch.tn_q rfl rfl rfl (fun K hK => ?_); go_big_quiet_op; (first | refine hK _ ?_ | refine ⟨_, fun _ _ => rfl, hK _ ?_⟩); clear hK K)
            | (refine Sch.tn_chk _ _ _ rfl rfl rfl rfl rfl ?_; simp only [Act.put, List.setIfInBounds_toArray, List.set_cons_zero, List.set_cons_succ])
            | (refine Sch.tn_load _ _ _ _ _ rfl rfl rfl rfl (by first | exact Vab.ln | exact Vab.lm) rfl ?_; simp only [Act.put, List.setIfInBounds_toArray, List.set_cons_zero, List.set_cons_succ]))
          generalize w6.drew = w7 at *
          refine Sch.tn_two ?_ ?_
          · skip
            refine Sch.tn_e rfl rfl (fun K hK => ?_)
            go_wp2_with fail
            refine (HMg.out _).mono ?_
            rintro e w8 ⟨rfl, hb⟩
            have HB8 := bel_tr HB7 hb
            have HO8 := Lib.hid (HO7.out.below hb)
            have HK8 := Lib.hid (HK7.out.keep hb)
            clear hb
            refine hK _ _ HK8.out ?_
            clear hK K
            repeat (first
              | (refine Sch.tn_q rfl rfl rfl (fun K hK => ?_); go_big_quiet_op; (first | refine hK _ ?_ | refine ⟨_, fun _ _ => rfl, hK _ ?_⟩); clear hK K)
              | (refine Sch.tn_chk _ _ _ rfl rfl rfl rfl rfl ?_; simp only [Act.put, List.setIfInBounds_toArray, List.set_cons_zero, List.set_cons_succ])
              | (refine Sch.tn_load _ _ _ _ _ rfl rfl rfl rfl (by first | exact Vab.ln | exact Vab.lm) rfl ?_; simp only [Act.put, List.setIfInBounds_toArray, List.set_cons_zero, List.set_cons_succ]))
            have hz := Zb.new w8
            have hb := bel_box w8 (.cells #[.int .i64 0, .int .i64 0, .int .i64 0, .int .i64 0, .int .i64 0, .int .i32 0] 51)
            have HB9 := bel_tr HB8 hb
            have HO9 := Lib.hid (HO8.out.below hb)
            have HK9 := Lib.hid (HK8.out.keep hb)
            have HLt : Hid (b1 < w8.heap.size ∧ b2 < w8.heap.size) := HK8.out.lt
            have HGe : Hid (w.heap.size ≤ w8.heap.size) := HB8.out.size
            have HOl : Hid (∀ k, Value.ownBlock u6 = some k → k ≠ w8.heap.size) := fun k hk e => by have := (HO8.out.lt k hk).2; omega
            refine Sch.tn_e rfl rfl (fun K hK => ?_)
            go_wp2_with fail
            refine hK _ (w8.alloc (.cells #[.int .i64 0, .int .i64 0, .int .i64 0, .int .i64 0, .int .i64 0, .int .i32 0] 51)) HK9.out ?_
            clear hK K hb
            have HZ9 := Lib.hid hz
            clear hz
            generalize w8.alloc (.cells #[.int .i64 0, .int .i64 0, .int .i64 0, .int .i64 0, .int .i64 0, .int .i32 0] 51) = w9 at *
            generalize w8.heap.size = g at *
            obtain ⟨⟨z0, z1, z2, z3, z4, z5⟩, hf⟩ := HZ9.out
            have f0 := hf 0
            have f1 := hf 1
            have f2 := hf 2
            have f3 := hf 3
            have f4 := hf 4
            have f5 := hf 5
            clear hf
            refine Sch.tn_e rfl rfl (fun K hK => ?_)
            go_wp2_with fail
            refine hK _ (Nd.putN w9 g M1) (HK9.out.put HLt.out.1 HLt.out.2 M1) ?_
            clear hK K z0 z1 z2 z3 z4 z5 f0 f1 f2 f3 f4 f5
            have HB14 := Lib.hid (Nd.putN_below HB9.out HGe.out M1)
            have HO14 := Lib.hid (HO9.out.keep (Jn.gb_putN w9 g M1) (by rcases hob : Value.ownBlock u6 with _ | k; exact .inl rfl; exact .inr (by have := HOl.out k hob; simp; omega)))
            have HX14 := Lib.hid (Qs.put_nb HZ9.out M1)
            generalize Nd.putN w9 g M1 = w14 at *
            repeat (first
              | (refine Sch.tn_q rfl rfl rfl (fun K hK => ?_); go_big_quiet_op; (first | refine hK _ ?_ | refine ⟨_, fun _ _ => rfl, hK _ ?_⟩); clear hK K)
              | (refine Sch.tn_chk _ _ _ rfl rfl rfl rfl rfl ?_; simp only [Act.put, List.setIfInBounds_toArray, List.set_cons_zero, List.set_cons_succ])
              | (refine Sch.tn_load _ _ _ _ _ rfl rfl rfl rfl (by first | exact Vab.ln | exact Vab.lm) rfl ?_; simp only [Act.put, List.setIfInBounds_toArray, List.set_cons_zero, List.set_cons_succ]))
            refine Sch.tn_n ?_
            have hd := (Below.refl w14.heap.size w14).drew
            have HKs : Hid (Kb6 g M1 w14.drew) := Nb.keep HX14.out hd
            have HXs := Lib.hid (Nb.keep HX14.out hd)
            have HBs := bel_tr HB14 hd
            have HOs := Lib.hid (HO14.out.below hd)
            clear hd HB14 HO14 HX14
            go_wp2_with fail
            refine Sch.wp_region_tn (Kb6 g M1) (.val 0 (.val 1 (.val 4 (.val 5 (.val 6 (.val 7 (.one 2 (.one 3 (.val 8 (.val 9 (.val 10 .done))))))))))) (by kernel_rfl) (by kernel_rfl) HKs.out ?_
            repeat (first
              | (refine Sch.tn_q rfl rfl rfl (fun K hK => ?_); go_big_quiet_op; (first | refine hK _ ?_ | refine ⟨_, fun _ _ => rfl, hK _ ?_⟩); clear hK K)
              | (refine Sch.tn_chk _ _ _ rfl rfl rfl rfl rfl ?_; simp only [Act.put, List.setIfInBounds_toArray, List.set_cons_zero, List.set_cons_succ])
              | (refine Sch.tn_load _ _ _ _ _ rfl rfl rfl rfl (by first | exact Kb6.l) rfl ?_; simp only [Act.put, List.setIfInBounds_toArray, List.set_cons_zero, List.set_cons_succ]))
            generalize w14.drew = w15 at *
            refine Sch.tn_e rfl rfl (fun K hK => ?_)
            go_wp2_with fail
            have hb := bel_box w15 (.cells (nc M1) 51)
            have HL8 : Hid (RowN (w15.alloc (.cells (nc M1) 51)) (some ⟨w15.heap.size, 0, none⟩) [M1]) := RowN.lit w15 [M1] _ _ _ rfl
            have HK8 : Hid (Kb6 g M1 (w15.alloc (.cells (nc M1) 51))) := Nb.keep HXs.out hb
            have HB8 := bel_tr HBs hb
            have HO8 := Lib.hid (HOs.out.below hb)
            clear hb HKs HBs HOs
            refine hK _ _ HK8.out ?_
            clear hK K
            generalize (w15.alloc (.cells (nc M1) 51)) = w16 at *
            refine Sch.tn_e rfl rfl (fun K hK => ?_)
            refine wp_appN _ _ _ rfl Try.underlying23 infoN _ Z rfl HO8.out (some ⟨w15.heap.size, 0, none⟩) [M1] 1 1 rfl rfl HL8.out (fun h => by cases h) (by have := HLn.out; simp at this ⊢; omega) HB8.out.size ?_
            intro v17 w17 ho hg _
            have HB17 := Lib.hid (HB8.out.grown hg HB8.out.size (fun k hk => (HO8.out.lt k hk).1))
            have HO17 := Lib.hid ho
            have HK17 : Hid (Kb6 g M1 w17) := nb_own HK8.out hg HOl.out
            clear ho hg HB8 HO8 HL8 HK8
            refine hK _ _ HK17.out ?_
            clear hK K
            simp only [Act.put, List.setIfInBounds_toArray, List.set_cons_zero, List.set_cons_succ]
            repeat (first
              | (refine Sch.tn_q rfl rfl rfl (fun K hK => ?_); go_big_quiet_op; (first | refine hK _ ?_ | refine ⟨_, fun _ _ => rfl, hK _ ?_⟩); clear hK K)
              | (refine Sch.tn_chk _ _ _ rfl rfl rfl rfl rfl ?_; simp only [Act.put, List.setIfInBounds_toArray, List.set_cons_zero, List.set_cons_succ])
              | (refine Sch.tn_load _ _ _ _ _ rfl rfl rfl rfl (by first | exact Kb6.l) rfl ?_; simp only [Act.put, List.setIfInBounds_toArray, List.set_cons_zero, List.set_cons_succ]))
            refine Sch.tn_n ?_
            go_wp2_with fail
            go_roundw
            case rel => exact ⟨A, B, Z ++ [M1], _, _, _, _, _, _, rfl, rfl, HX1, HY1, HB17, HO17, HN⟩
            case measure => have := HLx1.out; have := HLy1.out; simp [lenV]; omega
          · skip
            have hz := Zb.new w7
            have hb := bel_box w7 (.cells #[.int .i64 0, .int .i64 0, .int .i64 0, .int .i64 0, .int .i64 0, .int .i32 0] 51)
            have HB8 := bel_tr HB7 hb
            have HO8 := Lib.hid (HO7.out.below hb)
            have HK8 := Lib.hid (HK7.out.keep hb)
            have HLt : Hid (b1 < w7.heap.size ∧ b2 < w7.heap.size) := HK7.out.lt
            have HGe : Hid (w.heap.size ≤ w7.heap.size) := HB7.out.size
            have HOl : Hid (∀ k, Value.ownBlock u6 = some k → k ≠ w7.heap.size) := fun k hk e => by have := (HO7.out.lt k hk).2; omega
            refine Sch.tn_e rfl rfl (fun K hK => ?_)
            go_wp2_with fail
            refine hK _ (w7.alloc (.cells #[.int .i64 0, .int .i64 0, .int .i64 0, .int .i64 0, .int .i64 0, .int .i32 0] 51)) HK8.out ?_
            clear hK K hb
            have HZ8 := Lib.hid hz
            clear hz
            generalize w7.alloc (.cells #[.int .i64 0, .int .i64 0, .int .i64 0, .int .i64 0, .int .i64 0, .int .i32 0] 51) = w8 at *
            generalize w7.heap.size = g at *
            refine Sch.tn_e rfl rfl (fun K hK => ?_)
            go_wp2_with fail
            refine (HMg.out _).mono ?_
            rintro e w9 ⟨rfl, hb⟩
            have HB9 := bel_tr HB8 hb
            have HO9 := Lib.hid (HO8.out.below hb)
            have HK9 := Lib.hid (HK8.out.keep hb)
            have HZ9 := Lib.hid (HZ8.out.keep hb)
            clear hb
            refine hK _ _ HK9.out ?_
            clear hK K
            repeat (first
              | (refine Sch.tn_q rfl rfl rfl (fun K hK => ?_); go_big_quiet_op; (first | refine hK _ ?_ | refine ⟨_, fun _ _ => rfl, hK _ ?_⟩); clear hK K)
              | (refine Sch.tn_chk _ _ _ rfl rfl rfl rfl rfl ?_; simp only [Act.put, List.setIfInBounds_toArray, List.set_cons_zero, List.set_cons_succ])
              | (refine Sch.tn_load _ _ _ _ _ rfl rfl rfl rfl (by first | exact Vab.ln | exact Vab.lm) rfl ?_; simp only [Act.put, List.setIfInBounds_toArray, List.set_cons_zero, List.set_cons_succ]))
            obtain ⟨⟨z0, z1, z2, z3, z4, z5⟩, hf⟩ := HZ9.out
            have f0 := hf 0
            have f1 := hf 1
            have f2 := hf 2
            have f3 := hf 3
            have f4 := hf 4
            have f5 := hf 5
            clear hf
            refine Sch.tn_e rfl rfl (fun K hK => ?_)
            go_wp2_with fail
            refine hK _ (Nd.putN w9 g M1) (HK9.out.put HLt.out.1 HLt.out.2 M1) ?_
            clear hK K z0 z1 z2 z3 z4 z5 f0 f1 f2 f3 f4 f5
            have HB14 := Lib.hid (Nd.putN_below HB9.out HGe.out M1)
            have HO14 := Lib.hid (HO9.out.keep (Jn.gb_putN w9 g M1) (by rcases hob : Value.ownBlock u6 with _ | k; exact .inl rfl; exact .inr (by have := HOl.out k hob; simp; omega)))
            have HX14 := Lib.hid (Qs.put_nb HZ9.out M1)
            generalize Nd.putN w9 g M1 = w14 at *
            repeat (first
              | (refine Sch.tn_q rfl rfl rfl (fun K hK => ?_); go_big_quiet_op; (first | refine hK _ ?_ | refine ⟨_, fun _ _ => rfl, hK _ ?_⟩); clear hK K)
              | (refine Sch.tn_chk _ _ _ rfl rfl rfl rfl rfl ?_; simp only [Act.put, List.setIfInBounds_toArray, List.set_cons_zero, List.set_cons_succ])
              | (refine Sch.tn_load _ _ _ _ _ rfl rfl rfl rfl (by first | exact Vab.ln | exact Vab.lm) rfl ?_; simp only [Act.put, List.setIfInBounds_toArray, List.set_cons_zero, List.set_cons_succ]))
            refine Sch.tn_n ?_
            have hd := (Below.refl w14.heap.size w14).drew
            have HKs : Hid (Kb6 g M1 w14.drew) := Nb.keep HX14.out hd
            have HXs := Lib.hid (Nb.keep HX14.out hd)
            have HBs := bel_tr HB14 hd
            have HOs := Lib.hid (HO14.out.below hd)
            clear hd HB14 HO14 HX14
            go_wp2_with fail
            refine Sch.wp_region_tn (Kb6 g M1) (.val 0 (.val 1 (.val 4 (.val 5 (.val 6 (.val 7 (.one 2 (.one 3 (.val 8 (.val 9 (.val 10 .done))))))))))) (by kernel_rfl) (by kernel_rfl) HKs.out ?_
            repeat (first
              | (refine Sch.tn_q rfl rfl rfl (fun K hK => ?_); go_big_quiet_op; (first | refine hK _ ?_ | refine ⟨_, fun _ _ => rfl, hK _ ?_⟩); clear hK K)
              | (refine Sch.tn_chk _ _ _ rfl rfl rfl rfl rfl ?_; simp only [Act.put, List.setIfInBounds_toArray, List.set_cons_zero, List.set_cons_succ])
              | (refine Sch.tn_load _ _ _ _ _ rfl rfl rfl rfl (by first | exact Kb6.l) rfl ?_; simp only [Act.put, List.setIfInBounds_toArray, List.set_cons_zero, List.set_cons_succ]))
            generalize w14.drew = w15 at *
            refine Sch.tn_e rfl rfl (fun K hK => ?_)
            go_wp2_with fail
            have hb := bel_box w15 (.cells (nc M1) 51)
            have HL8 : Hid (RowN (w15.alloc (.cells (nc M1) 51)) (some ⟨w15.heap.size, 0, none⟩) [M1]) := RowN.lit w15 [M1] _ _ _ rfl
            have HK8 : Hid (Kb6 g M1 (w15.alloc (.cells (nc M1) 51))) := Nb.keep HXs.out hb
            have HB8 := bel_tr HBs hb
            have HO8 := Lib.hid (HOs.out.below hb)
            clear hb HKs HBs HOs
            refine hK _ _ HK8.out ?_
            clear hK K
            generalize (w15.alloc (.cells (nc M1) 51)) = w16 at *
            refine Sch.tn_e rfl rfl (fun K hK => ?_)
            refine wp_appN _ _ _ rfl Try.underlying23 infoN _ Z rfl HO8.out (some ⟨w15.heap.size, 0, none⟩) [M1] 1 1 rfl rfl HL8.out (fun h => by cases h) (by have := HLn.out; simp at this ⊢; omega) HB8.out.size ?_
            intro v17 w17 ho hg _
            have HB17 := Lib.hid (HB8.out.grown hg HB8.out.size (fun k hk => (HO8.out.lt k hk).1))
            have HO17 := Lib.hid ho
            have HK17 : Hid (Kb6 g M1 w17) := nb_own HK8.out hg HOl.out
            clear ho hg HB8 HO8 HL8 HK8
            refine hK _ _ HK17.out ?_
            clear hK K
            simp only [Act.put, List.setIfInBounds_toArray, List.set_cons_zero, List.set_cons_succ]
            repeat (first
              | (refine Sch.tn_q rfl rfl rfl (fun K hK => ?_); go_big_quiet_op; (first | refine hK _ ?_ | refine ⟨_, fun _ _ => rfl, hK _ ?_⟩); clear hK K)
              | (refine Sch.tn_chk _ _ _ rfl rfl rfl rfl rfl ?_; simp only [Act.put, List.setIfInBounds_toArray, List.set_cons_zero, List.set_cons_succ])
              | (refine Sch.tn_load _ _ _ _ _ rfl rfl rfl rfl (by first | exact Kb6.l) rfl ?_; simp only [Act.put, List.setIfInBounds_toArray, List.set_cons_zero, List.set_cons_succ]))
            refine Sch.tn_n ?_
            go_wp2_with fail
            go_roundw
            case rel => exact ⟨A, B, Z ++ [M1], _, _, _, _, _, _, rfl, rfl, HX1, HY1, HB17, HO17, HN⟩
            case measure => have := HLx1.out; have := HLy1.out; simp [lenV]; omega
      · have hr0 : 0 < r := by rw [HR.out]; exact cmp_pos.2 hc2
        have hr1 : ¬ r < 0 := by omega
        have HZ1 := Lib.hid (HZ.out.right hc2)
        clear hc hc2 HR HZ
        have hd := (Below.refl w6.heap.size w6).drew
        have HKs : Hid (Kq b2 o2 y w6.drew) := (HN2.out.keep HB.out).keep hd
        have HBs := bel_tr HB hd
        have HOs := Lib.hid (HO.out.below hd)
        clear hd HK HB HO
        go_wp2_with fail
        refine Sch.wp_region_tn (Kq b2 o2 y) (.val 0 (.val 1 (.val 2 (.val 3 (.val 6 (.val 7 (.one 4 (.one 5 (.val 8 (.val 9 .done)))))))))) (by kernel_rfl) (by kernel_rfl) HKs.out ?_
        repeat (first
          | (refine Sch.tn_q rfl rfl rfl (fun K hK => ?_); go_big_quiet_op; (first | refine hK _ ?_ | refine ⟨_, fun _ _ => rfl, hK _ ?_⟩); clear hK K)
          | (refine Sch.tn_chk _ _ _ rfl rfl rfl rfl rfl ?_; simp only [Act.put, List.setIfInBounds_toArray, List.set_cons_zero, List.set_cons_succ])
          | (refine Sch.tn_load _ _ _ _ _ rfl rfl rfl rfl (by first | exact Kq.l) rfl ?_; simp only [Act.put, List.setIfInBounds_toArray, List.set_cons_zero, List.set_cons_succ]))
        generalize w6.drew = w7 at *
        refine Sch.tn_e rfl rfl (fun K hK => ?_)
        go_wp2_with fail
        have hb := bel_box w7 (.cells (nc y) 51)
        have HL8 : Hid (RowN (w7.alloc (.cells (nc y) 51)) (some ⟨w7.heap.size, 0, none⟩) [y]) := RowN.lit w7 [y] _ _ _ rfl
        have HK8 := Lib.hid (HKs.out.keep hb)
        have HB8 := bel_tr HBs hb
        have HO8 := Lib.hid (HOs.out.below hb)
        clear hb HKs HBs HOs
        refine hK _ _ HK8.out ?_
        clear hK K
        generalize (w7.alloc (.cells (nc y) 51)) = w8 at *
        refine Sch.tn_e rfl rfl (fun K hK => ?_)
        refine wp_appN _ _ _ rfl Try.underlying23 infoN _ Z rfl HO8.out (some ⟨w7.heap.size, 0, none⟩) [y] 1 1 rfl rfl HL8.out (fun h => by cases h) (by have := HLn.out; simp at this ⊢; omega) HB8.out.size ?_
        intro v9 w9 ho hg _
        have HB9 := Lib.hid (HB8.out.grown hg HB8.out.size (fun k hk => (HO8.out.lt k hk).1))
        have HO9 := Lib.hid ho
        have HK9 : Hid (Kq b2 o2 y w9) := HN2.out.keep HB9.out
        clear ho hg HB8 HO8 HL8 HK8
        refine hK _ _ HK9.out ?_
        clear hK K
        simp only [Act.put, List.setIfInBounds_toArray, List.set_cons_zero, List.set_cons_succ]
        repeat (first
          | (refine Sch.tn_q rfl rfl rfl (fun K hK => ?_); go_big_quiet_op; (first | refine hK _ ?_ | refine ⟨_, fun _ _ => rfl, hK _ ?_⟩); clear hK K)
          | (refine Sch.tn_chk _ _ _ rfl rfl rfl rfl rfl ?_; simp only [Act.put, List.setIfInBounds_toArray, List.set_cons_zero, List.set_cons_succ])
          | (refine Sch.tn_load _ _ _ _ _ rfl rfl rfl rfl (by first | exact Kq.l) rfl ?_; simp only [Act.put, List.setIfInBounds_toArray, List.set_cons_zero, List.set_cons_succ]))
        refine Sch.tn_n ?_
        go_wp2_with fail
        go_roundw
        case rel => exact ⟨x :: A, B, Z ++ [y], _, _, _, _, _, _, rfl, rfl, HX, HY1, HB9, HO9, HZ1⟩
        case measure => have := HLx1.out; have := HLy1.out; simp [lenV]; omega
    · have hr0 : r < 0 := by rw [HR.out]; exact cmp_neg.2 hc
      have HZ1 := Lib.hid (HZ.out.left hc)
      clear hc HR HZ
      have hd := (Below.refl w6.heap.size w6).drew
      have HKs : Hid (Kq b1 o1 x w6.drew) := (HN1.out.keep HB.out).keep hd
      have HBs := bel_tr HB hd
      have HOs := Lib.hid (HO.out.below hd)
      clear hd HK HB HO
      go_wp2_with fail
      refine Sch.wp_region_tn (Kq b1 o1 x) (.val 0 (.val 1 (.val 2 (.val 3 (.val 6 (.val 7 (.one 4 (.one 5 (.val 8 (.val 9 .done)))))))))) (by kernel_rfl) (by kernel_rfl) HKs.out ?_
      repeat (first
        | (refine Sch.tn_q rfl rfl rfl (fun K hK => ?_); go_big_quiet_op; (first | refine hK _ ?_ | refine ⟨_, fun _ _ => rfl, hK _ ?_⟩); clear hK K)
        | (refine Sch.tn_chk _ _ _ rfl rfl rfl rfl rfl ?_; simp only [Act.put, List.setIfInBounds_toArray, List.set_cons_zero, List.set_cons_succ])
        | (refine Sch.tn_load _ _ _ _ _ rfl rfl rfl rfl (by first | exact Kq.l) rfl ?_; simp only [Act.put, List.setIfInBounds_toArray, List.set_cons_zero, List.set_cons_succ]))
      generalize w6.drew = w7 at *
      refine Sch.tn_e rfl rfl (fun K hK => ?_)
      go_wp2_with fail
      have hb := bel_box w7 (.cells (nc x) 51)
      have HL8 : Hid (RowN (w7.alloc (.cells (nc x) 51)) (some ⟨w7.heap.size, 0, none⟩) [x]) := RowN.lit w7 [x] _ _ _ rfl
      have HK8 := Lib.hid (HKs.out.keep hb)
      have HB8 := bel_tr HBs hb
      have HO8 := Lib.hid (HOs.out.below hb)
      clear hb HKs HBs HOs
      refine hK _ _ HK8.out ?_
      clear hK K
      generalize (w7.alloc (.cells (nc x) 51)) = w8 at *
      refine Sch.tn_e rfl rfl (fun K hK => ?_)
      refine wp_appN _ _ _ rfl Try.underlying23 infoN _ Z rfl HO8.out (some ⟨w7.heap.size, 0, none⟩) [x] 1 1 rfl rfl HL8.out (fun h => by cases h) (by have := HLn.out; simp at this ⊢; omega) HB8.out.size ?_
      intro v9 w9 ho hg _
      have HB9 := Lib.hid (HB8.out.grown hg HB8.out.size (fun k hk => (HO8.out.lt k hk).1))
      have HO9 := Lib.hid ho
      have HK9 : Hid (Kq b1 o1 x w9) := HN1.out.keep HB9.out
      clear ho hg HB8 HO8 HL8 HK8
      refine hK _ _ HK9.out ?_
      clear hK K
      simp only [Act.put, List.setIfInBounds_toArray, List.set_cons_zero, List.set_cons_succ]
      repeat (first
        | (refine Sch.tn_q rfl rfl rfl (fun K hK => ?_); go_big_quiet_op; (first | refine hK _ ?_ | refine ⟨_, fun _ _ => rfl, hK _ ?_⟩); clear hK K)
        | (refine Sch.tn_chk _ _ _ rfl rfl rfl rfl rfl ?_; simp only [Act.put, List.setIfInBounds_toArray, List.set_cons_zero, List.set_cons_succ])
        | (refine Sch.tn_load _ _ _ _ _ rfl rfl rfl rfl (by first | exact Kq.l) rfl ?_; simp only [Act.put, List.setIfInBounds_toArray, List.set_cons_zero, List.set_cons_succ]))
      refine Sch.tn_n ?_
      go_wp2_with fail
      go_roundw
      case rel => exact ⟨A, y :: B, Z ++ [x], _, _, _, _, _, _, rfl, rfl, HX1, HY, HB9, HO9, HZ1⟩
      case measure => have := HLx1.out; have := HLy1.out; simp [lenV]; omega
end Go.Proofs.Ytgopkffgljiblaa.Jn
end

/-
  Package join: Agree, Within.
-/
section
namespace Go.Proofs.Ytgopkffgljiblaa.Jn
set_option linter.unusedVariables false
open Go.RowKit V Go.Sort D Nd Qs
attribute [local irreducible] Sch.heldN Sch.stepV Sch.stepE

theorem put_len1 (o : List Nt) (n : Nt) : (putN o n).1.length ≤ o.length + 1 := by
  by_cases h : (putN o n).2 = 0
  · obtain ⟨h1, -⟩ := put_yes h
    rw [h1]
    unfold setS
    rw [List.length_append, List.length_cons, List.length_take]
    have h2 := List.length_filter_le (fun x : Nt => !decide (x.1 = (upN o n).1)) (o.drop (posS o (upN o n).1))
    rw [List.length_drop] at h2
    have h3 := posS_le o (upN o n).1
    omega
  · rw [put_no h]
    simp
theorem joinL_len (a b : List Nt) : (joinL a b).length ≤ a.length + b.length := by
  unfold joinL foldN
  induction b generalizing a with
  | nil => exact Nat.le_refl _
  | cons n t ih =>
    have h1 := ih ((putN a n).1)
    have h2 := put_len1 a n
    rw [List.foldl_cons, List.length_cons]
    omega
theorem joinP_len (a b : List Nt) : (joinP a b).1.length ≤ a.length + b.length := by
  unfold joinP
  split
  · split
    · exact joinL_len a b
    · exact Nat.zero_le _
  · exact Nat.zero_le _
/-- Whether two states agree, and the error. -/
def agP (a b : List Nt) : Bool × Int := if (validS a && validS b) = true then (agS a b, 0) else (false, 2)
def inP (a b : List Nt) : Bool × Int := (decide ((joinP a b).2 = 0) && decide ((joinP a b).1 = b), (joinP a b).2)
theorem join_err (a b : List Nt) : (joinP a b).2 = 0 ∨ (joinP a b).2 = 15 ∨ (joinP a b).2 = 2 := by
  unfold joinP
  split
  · split
    · exact .inl rfl
    · exact .inr (.inl rfl)
  · exact .inr (.inr rfl)
theorem ag_err (a b : List Nt) : agP a b = if (joinP a b).2 = 15 then (false, 0) else (decide ((joinP a b).2 = 0), (joinP a b).2) := by
  unfold joinP agP
  by_cases h1 : (validS a && validS b) = true
  · rw [if_pos h1, if_pos h1]
    by_cases h2 : agS a b = true
    · rw [if_pos h2, h2]; rfl
    · rw [if_neg h2, Bool.not_eq_true] at *
      rw [h2]; rfl
  · rw [if_neg h1, if_neg h1]; rfl
set_option maxRecDepth 100000 in
set_option maxHeartbeats 4000000 in
theorem agree_any (xs ys : List Nt) (a b : Option Addr) (c d : Nat) (w : World) (hx : RowN w a xs) (hna : a = none → c = 0) (hlc : xs.length ≤ c) (hy : RowN w b ys) (hnb : b = none → d = 0) (hld : ys.length ≤ d) (hlx : xs.length ≤ 200000) (hly : ys.length ≤ 200000) :
    Calls Try.prog 10 #[.slice a xs.length c, .slice b ys.length d] w fun e w' => e = .returned (.tuple #[.bool (agP xs ys).1, .int .i64 (agP xs ys).2]) ∧ Below w.heap.size w w' := by
  have HJ := Lib.hid (join_any xs ys a b c d w hx hna hlc hy hnb hld hlx hly)
  have HE := Lib.hid (ag_err xs ys)
  have HT := Lib.hid (join_err xs ys)
  clear hx hna hlc hy hnb hld hlx hly
  generalize joinP xs ys = J at *
  generalize agP xs ys = R at *
  obtain ⟨J1, J2⟩ := J
  simp only at HJ HE HT
  go_enter Try.func10, Try.ntmps10
  go_wp2_with fail
  refine HJ.out.mono ?_
  rintro e w2 ⟨v, rfl, ho, hb⟩
  have HB := Lib.hid hb
  clear ho hb HJ
  rcases HT.out with rfl | rfl | rfl
  · go_wp2_with fail
    go_ret2
    rw [HE.out]
    exact ⟨rfl, HB.out⟩
  · go_wp2_with fail
    go_ret2
    rw [HE.out]
    exact ⟨rfl, HB.out⟩
  · go_wp2_with fail
    go_ret2
    rw [HE.out]
    exact ⟨rfl, HB.out⟩
set_option maxRecDepth 100000 in
set_option maxHeartbeats 4000000 in
theorem within_any (xs ys : List Nt) (a b : Option Addr) (c d : Nat) (w : World) (hx : RowN w a xs) (hna : a = none → c = 0) (hlc : xs.length ≤ c) (hy : RowN w b ys) (hnb : b = none → d = 0) (hld : ys.length ≤ d) (hlx : xs.length ≤ 200000) (hly : ys.length ≤ 200000) :
    Calls Try.prog 15 #[.slice a xs.length c, .slice b ys.length d] w fun e w' => e = .returned (.tuple #[.bool (inP xs ys).1, .int .i64 (inP xs ys).2]) ∧ Below w.heap.size w w' := by
  have HJ := Lib.hid (join_any xs ys a b c d w hx hna hlc hy hnb hld hlx hly)
  have HE : Hid (inP xs ys = (decide ((joinP xs ys).2 = 0) && decide ((joinP xs ys).1 = ys), (joinP xs ys).2)) := rfl
  have HT := Lib.hid (join_err xs ys)
  have HL : Hid ((joinP xs ys).1.length ≤ 1000000) := by have := joinP_len xs ys; show _ ≤ _; omega
  have HY := Lib.hid hy
  have HQ := Lib.hid (fun aX cX l w h1 h2 h3 => jequal_any l ys aX b cX d w h1 h2 h3 (by omega))
  clear hx hna hlc hy hnb hld hlx hly
  generalize joinP xs ys = J at *
  generalize inP xs ys = R at *
  obtain ⟨J1, J2⟩ := J
  simp only at HJ HE HT HL
  go_enter Try.func15, Try.ntmps15
  go_wp2_with fail
  refine HJ.out.mono ?_
  rintro e w2 ⟨v, rfl, ho, hb⟩
  have HB := Lib.hid hb
  obtain ⟨a2, c2, rfl, hr, -⟩ := ON.row ho
  have HR := Lib.hid hr
  have HY2 := Lib.hid (HY.out.keep hb)
  clear ho hb HJ hr
  rcases HT.out with rfl | rfl | rfl
  · go_wp2_with fail
    refine (HQ.out a2 c2 J1 _ HR.out HY2.out HL.out).mono ?_
    rintro e w3 ⟨rfl, hb⟩
    replace HB := bel_tr HB hb
    clear hb HQ HR
    obtain ⟨q, hq⟩ : ∃ q, q = decide (J1 = ys) := ⟨_, rfl⟩
    rw [← hq] at HE ⊢
    clear hq
    go_wp2_with fail
    go_ret2
    rw [HE.out]
    exact ⟨rfl, HB.out⟩
  · go_wp2_with fail
    go_ret2
    rw [HE.out]
    exact ⟨rfl, HB.out⟩
  · go_wp2_with fail
    go_ret2
    rw [HE.out]
    exact ⟨rfl, HB.out⟩
end Go.Proofs.Ytgopkffgljiblaa.Jn
end
