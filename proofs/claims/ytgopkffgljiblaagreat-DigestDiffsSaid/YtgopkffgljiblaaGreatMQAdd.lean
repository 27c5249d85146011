/-
  A gathering takes in one more node.
-/
import Derived.Test.YtgopkffgljiblaaGreatQPlc
import Derived.Test.YtgopkffgljiblaaGreatMJnC

section
namespace Go.Proofs.YtgopkffgljiblaaGreat.Qs
set_option linter.unusedVariables false
open Go.RowKit V Go.Sort D Nd
attribute [local irreducible] Sch.heldN Sch.stepV Sch.stepE

section
variable {w w' : World} {G b : Nat} {v : Value}
end
theorem Dm.far {α : Type} {L : Elem α} {w : World} {b n base : Nat} {f : Dt → Option α} {u : Value} {l : List Nt} (h : Dm L w b n f) (ho : ON w base E u l) : u.ownBlock ≠ some b := fun e => by
  obtain ⟨vs, h1⟩ := ho.obj b e
  obtain ⟨D, ⟨es, clock, hb, -⟩, -⟩ := h
  rw [hb] at h1
  cases h1
theorem load_s {w : World} {g i : Nat} {z : Value} (h : w.cell? ⟨g, i, none⟩ = some z) : (Instr.loadAt 35 (.pointer (some ⟨g, i, none⟩))).run Tryz.prog w = .ok z w := by
  go_simp
/-- .. without its list. -/
def Gb (g G b : Nat) (n : Nt) (w : World) : Prop := Nb w g n ∧ w.cell? ⟨G, 1, none⟩ = some (.map (some b))
section
variable {g G b : Nat} {n : Nt} {v : Value}
theorem Gb.ln : ∀ w, Gb g G b n w → (Instr.loadAt 51 (.pointer (some ⟨g, 0, none⟩))).run Tryz.prog w = .ok (nv n) w := fun w h => h.1.load
end
theorem wp_putD {α : Type} (L : Elem α) {w : World} {o : Oper} {a : Act} {K : Act → World → Prop} {Q : Exit → Act → World → Prop} (m x v : Operand) (t : TypeId) (hop : o.op = Op.mapUpdate t m x v) (E : TypeId)
    (ht : Tryz.prog.underlying t = some (.map 48 E)) (b n : Nat) (f : Dt → Option α) (hm : a.eval m = .map (some b)) (h : Dm L w b n f) (hn : n < maxLen) (d : Dt) (y : α) (hx : a.eval x = dv d) (hv : a.eval v = L.e y) (hd : fitD d)
    (hK : ∀ w', Dm L w' b (n + 1) (putF f d y) → w.grownBy w' (some b) → K (a.put o.dst undef) w') : o.wp Tryz.prog a w K Q := by
  obtain ⟨w', hrun, r1, r2⟩ := h.put ht hn hd y
  unfold Oper.wp
  simp [execOp, hop, hm, hx, hv, hrun, Result.andThen]
  exact hK w' r1 r2
theorem wp_appN {P : Program} {w : World} {x : Oper} {a : Act} {K : Act → World → Prop} {Q : Exit → Act → World → Prop} (s y : Operand) (T : TypeId)
    (ho : x.op = .call { callee := .builtin .append, args := #[s, y], argTypes := #[T, T] })
    {base : Nat} {E : TypeId} (hT : P.underlying T = some (.slice E)) (hinfo : (P.info? E).map (fun i => (i.zero, i.size, i.bytes)) = some (some zeroNv, 6, 48))
    (v : Value) (l : List Nt) (hs : a.eval s = v) (h : ON w base E v l) (ad : Option Addr) (m : List Nt) (c n : Nat) (hn : n = m.length) (hx : a.eval y = .slice ad n c) (hrow : RowN w ad m) (hnil : ad = none → c = 0)
    (hlen : l.length + m.length ≤ 1000000000000) (hbase : base ≤ w.heap.size)
    (hk : ∀ v' w', ON w' base E v' (l ++ m) → w.grownBy w' v.ownBlock → G.Grew w v v' → K (a.put x.dst v') w') : x.wp P a w K Q := by
  subst hn
  obtain ⟨v', w', hr, h2, h3, h4⟩ := run_appN hT hinfo h x.type ad m c hrow hnil hlen hbase
  unfold Oper.wp execOp
  simp only [ho, resolve, invoke, builtin, Sem.run_bind, Sem.run_pure, Result.andThen_ok, List.map_toArray, List.map_cons, List.map_nil, hs, hx, hr]
  exact hk _ _ h2 h3 h4

theorem nb_gb {w w' : World} {g r : Nat} {n : Nt} (h : Nb w g n) (hg : w.grownBy w' (some r)) (hne : g ≠ r) : Nb w' g n := by
  have e : w'.heap[g]? = w.heap[g]? := hg.block g h.lt (by simpa using hne)
  obtain ⟨h0, h1, h2, h3, h4, h5⟩ := h
  exact ⟨(World.cell?_of_block (a := ⟨g, 0, none⟩) e).trans h0, (World.cell?_of_block (a := ⟨g, 1, none⟩) e).trans h1, (World.cell?_of_block (a := ⟨g, 2, none⟩) e).trans h2, (World.cell?_of_block (a := ⟨g, 3, none⟩) e).trans h3, (World.cell?_of_block (a := ⟨g, 4, none⟩) e).trans h4, (World.cell?_of_block (a := ⟨g, 5, none⟩) e).trans h5⟩
section
variable {w w' : World} {base G b N : Nat} {v : Value} {ns : List Nt}
end
section
variable {g G b h o : Nat} {n r : Nt} {v : Value}
end
theorem gb_putN (w : World) (g : Nat) (n : Nt) : w.grownBy (Nd.putN w g n) (some g) :=
  gb_trans (gb_trans (gb_trans (gb_trans (gb_trans (gb_setCell _ _ _ _) (gb_setCell _ _ _ _)) (gb_setCell _ _ _ _)) (gb_setCell _ _ _ _)) (gb_setCell _ _ _ _)) (gb_setCell _ _ _ _)
theorem put_nb {w : World} {g : Nat} (h : Zb w g) (n : Nt) : Nb (Nd.putN w g n) g n := by
  obtain ⟨⟨h0, h1, h2, h3, h4, h5⟩, -⟩ := h
  unfold Nd.putN
  refine ⟨?_, ?_, ?_, ?_, ?_, ?_⟩ <;> go_simp
section
variable {G b q : Nat} {m : Nt} {v : Value}
end
section
variable {w w' w2 : World}
end
end Go.Proofs.YtgopkffgljiblaaGreat.Qs
end

/-
  Layer 14's reference: a state with one more node.
-/
section
namespace Go.Proofs.YtgopkffgljiblaaGreat.Jn
set_option linter.unusedVariables false
open Go.RowKit V Go.Sort D Nd Qs
attribute [local irreducible] Sch.heldN Sch.stepV Sch.stepE

/-! ### Parts of rows of nodes -/
theorem cut_loN (a : Option Addr) (len cap n : Nat) (hn : n ≤ cap) : ∀ wx : World,
    (Instr.slice 36 (.slice a len cap) none (some (.int .i64 (n : Int))) none).run Tryz.prog wx = .ok (.slice a n cap) wx := by
  obtain ⟨i, hi, hz0, hz1, hz2⟩ := G.info_of infoN
  intro wx
  have h1 : (Instr.sliceBound (.int .i64 (n : Int)) cap .sliceAcap).run Tryz.prog wx = .ok n wx := by
    rw [run_sliceBound _ _ _ _ _ (by omega) (by omega)]; rfl
  have h0 : (⟨0, 0, none⟩ : Addr).add 0 = ⟨0, 0, none⟩ := rfl
  by_cases hc : cap = 0
  · rw [hc] at h1
    simp [Instr.slice, run_underlying Tryz.underlying36, Instr.sliceBounds, h1, Result.andThen, sizeOf, typeInfo, hi, hc]
  · have : a.map (fun x => x.add 0) = a := by
      rcases a with _ | ⟨b, o, s⟩
      · rfl
      · simp [Addr.add]
    simp [Instr.slice, run_underlying Tryz.underlying36, Instr.sliceBounds, h1, Result.andThen, sizeOf, typeInfo, hi, hc, this]
def offN (a : Option Addr) (cap m : Nat) : Option Addr := if cap = m then a else a.map (·.add (m * 6))
theorem cut_hiN (a : Option Addr) (len cap m k : Nat) (hk : len = m + k) (hlc : len ≤ cap) : ∀ wx : World,
    (Instr.slice 36 (.slice a len cap) (some (.int .i64 (m : Int))) none none).run Tryz.prog wx = .ok (.slice (offN a cap m) k (cap - m)) wx := by
  obtain ⟨i, hi, hz0, hz1, hz2⟩ := G.info_of infoN
  intro wx
  have h2 : (Instr.sliceBound (.int .i64 (m : Int)) len .sliceB).run Tryz.prog wx = .ok m wx := by
    rw [run_sliceBound _ _ _ _ _ (by omega) (by omega)]; rfl
  have e : len - m = k := by omega
  simp [Instr.slice, run_underlying Tryz.underlying36, Instr.sliceBounds, h2, Result.andThen, sizeOf, typeInfo, hi, hz1, e, offN]
theorem offN_row {w : World} {a : Option Addr} {l : List Nt} (h : RowN w a l) (cap m : Nat) (hlc : l.length ≤ cap) (hm : m ≤ l.length) : RowN w (offN a cap m) (l.drop m) := by
  unfold offN
  split
  · left
    rw [List.drop_eq_nil_iff]; omega
  · rcases h with rfl | ⟨b, o, rfl, hc⟩
    · exact .inl (by simp)
    · have e : (⟨b, o, none⟩ : Addr).add (m * 6) = ⟨b, o + m * 6, none⟩ := by unfold Addr.add; split <;> simp_all
      rw [Option.map_some, e]
      exact RowN.drop (w := w) (b := b) (o := o) (l := l) (.inr ⟨b, o, rfl, hc⟩) m hm
theorem offN_none {a : Option Addr} {cap m : Nat} (h : offN a cap m = none) : a = none := by
  unfold offN at h
  split at h
  · exact h
  · simpa using h
theorem offN_some (b o cap m : Nat) (h : m < cap) : offN (some ⟨b, o, none⟩) cap m = some ⟨b, o + m * 6, none⟩ := by
  unfold offN
  rw [if_neg (by omega), Option.map_some]
  unfold Addr.add
  split <;> simp_all
theorem ixN0 (b o n c : Nat) (hk : 0 < n) : ∀ w, (Instr.indexAt 36 (.slice (some ⟨b, o, none⟩) n c) (.int .i64 0)).run Tryz.prog w = .ok (.pointer (some ⟨b, o, none⟩)) w := fun w => by
  have := ixS b o n c 0 0 rfl hk w
  rwa [Nat.zero_mul, Nat.add_zero] at this
/-- The box with the node. -/
def Kb6 (g : Nat) (n : Nt) (w : World) : Prop := Nb w g n
theorem Kb6.l {g : Nat} {n : Nt} : ∀ w, Kb6 g n w → (Instr.loadAt 51 (.pointer (some ⟨g, 0, none⟩))).run Tryz.prog w = .ok (nv n) w := fun w k => k.load
/-- The box and the node at the place. -/
def Pq (g b o : Nat) (n q : Nt) (w : World) : Prop := Nb w g n ∧ Na w b o q
section
variable {g b o : Nat} {n q : Nt}
theorem Pq.keep {w w' : World} (h : Pq g b o n q w) (hb : Below w.heap.size w w') : Pq g b o n q w' := ⟨h.1.keep hb, h.2.keep hb⟩
theorem Pq.nd : ∀ w, Pq g b o n q w → (Instr.loadAt 48 (.pointer (some ⟨g, 0, none⟩))).run Tryz.prog w = .ok (dv n.1) w := fun w k => k.1.loadD
theorem Pq.qd : ∀ w, Pq g b o n q w → (Instr.loadAt 48 (.pointer (some ⟨b, o, none⟩))).run Tryz.prog w = .ok (dv q.1) w := fun w k => k.2.loadD
theorem Pq.nn : ∀ w, Pq g b o n q w → (Instr.loadAt 51 (.pointer (some ⟨g, 0, none⟩))).run Tryz.prog w = .ok (nv n) w := fun w k => k.1.load
theorem Pq.qn : ∀ w, Pq g b o n q w → (Instr.loadAt 51 (.pointer (some ⟨b, o, none⟩))).run Tryz.prog w = .ok (nv q) w := fun w k => k.2.load
end
theorem lt_of_row {w : World} {b o : Nat} {l : List Nt} (h : RowN w (some ⟨b, o, none⟩) l) (hl : 0 < l.length) : b < w.heap.size := by
  rcases h with rfl | ⟨b2, o2, e, hc⟩
  · simp at hl
  · cases e
    exact lt_of_cell (hc 0 hl 0 (by omega))

theorem on_one (w : World) (base : Nat) (n : Nt) (hb : base ≤ w.heap.size) : ON (w.alloc (.cells (nc n) 51)) base 51 (.slice (some ⟨w.heap.size, 0, none⟩) 1 1) [n] := by
  have hh : (w.alloc (.cells (nc n) 51)).heap[w.heap.size]? = some (.cells (nc n) 51 (0, 0)) := by show (w.heap.push _)[w.heap.size]? = _; simp
  refine on_of (l := [n]) hb hh (Nat.le_refl _) (by decide) rfl (fun i hi j hj => ?_)
  have : i = 0 := by simpa using hi
  subst this
  simp
/-- A node put where it belongs. -/
def putR (l : List Nt) (n : Nt) : List Nt := l.take (posS l n.1) ++ n :: l.drop (posS l n.1)
end Go.Proofs.YtgopkffgljiblaaGreat.Jn
end

/-
  Layer 14's reference: the join.
-/
section
namespace Go.Proofs.YtgopkffgljiblaaGreat.Jn
set_option linter.unusedVariables false
open Go.RowKit V Go.Sort D Nd Qs
attribute [local irreducible] Sch.heldN Sch.stepV Sch.stepE

theorem step_none {l : List Nt} {n : Nt} (h : atS l n.1 = none) : stepR l n = putR l n := by
  unfold stepR
  rw [hit_at, h]
  rfl
theorem step_some {l : List Nt} {n : Nt} {k : Nat} (hk : k < l.length) (hi : idxS l n.1 = (k : Int)) (h : atS l n.1 = some l[k]) : stepR l n = l.set k (mrgR l[k] n) := by
  have e : hitS l n.1 = k := by
    unfold idxS at hi
    rw [h] at hi
    simp only [Option.isSome_some, if_true] at hi
    exact Int.ofNat_inj.1 hi
  unfold stepR
  rw [hit_at, h, e]
theorem putR_len (l : List Nt) (n : Nt) : (putR l n).length = l.length + 1 := by
  unfold putR
  rw [List.length_append, List.length_cons, List.length_take, List.length_drop]
  have := posS_le l n.1
  omega
theorem step_len (l : List Nt) (n : Nt) : (stepR l n).length ≤ l.length + 1 := by
  unfold stepR
  split
  · rw [List.length_set]; omega
  · exact Nat.le_of_eq (putR_len l n)
theorem joinR_len (b : List Nt) : ∀ a : List Nt, (joinR a b).length ≤ a.length + b.length := by
  induction b with
  | nil => exact fun a => Nat.le_refl _
  | cons n t ih =>
    intro a
    have h1 := ih (stepR a n)
    have h2 := step_len a n
    show (joinR (stepR a n) t).length ≤ a.length + (t.length + 1)
    omega
theorem joinR_take {a b : List Nt} {k : Nat} (hk : k < b.length) : joinR a (b.take (k + 1)) = stepR (joinR a (b.take k)) b[k] := by
  unfold joinR
  rw [foldl_take _ _ _ _ hk]
theorem ON.some {w : World} {base : Nat} {E : TypeId} {a : Option Addr} {n c : Nat} {l : List Nt} (h : ON w base E (.slice a n c) l) {b o : Nat} (e : a = some ⟨b, o, none⟩) : o = 0 ∧ base ≤ b := by
  obtain ⟨a', c', e', -, -, -, hx⟩ := Qs.ON.row h
  simp only [Value.slice.injEq] at e'
  obtain ⟨rfl, -, -⟩ := e'
  have := hx _ e
  simp only [Addr.mk.injEq, and_true, true_and] at this
  exact ⟨this.1, this.2.2.1⟩
/-- A node of a row. -/
def Kq (b o : Nat) (n : Nt) (w : World) : Prop := Na w b o n
theorem Kq.keep {b o : Nat} {n : Nt} {w w' : World} (h : Kq b o n w) (hb : Below w.heap.size w w') : Kq b o n w' := Na.keep h hb
theorem Kq.l {b o : Nat} {n : Nt} : ∀ w, Kq b o n w → (Instr.loadAt 51 (.pointer (some ⟨b, o, none⟩))).run Tryz.prog w = .ok (nv n) w := fun w k => Na.load k
end Go.Proofs.YtgopkffgljiblaaGreat.Jn
end

/-
  Layer 14's reference: a spoilt copy.
-/
section
namespace Go.Proofs.YtgopkffgljiblaaGreat.Jn
set_option linter.unusedVariables false
open Go.RowKit V Go.Sort D Nd Qs
attribute [local irreducible] Sch.heldN Sch.stepV Sch.stepE

theorem on_putRune {w : World} {base g c m : Nat} {l : List Nt} (h : ON w base Qs.E (.slice (some ⟨g, 0, none⟩) m c) l) {k : Nat} (hk : k < l.length) (z : Int) : ON (w.setCell ⟨g, k * 6 + 5, none⟩ (.int .i32 z)) base Qs.E (.slice (some ⟨g, 0, none⟩) m c) (l.set k (l[k].1, l[k].2.1, l[k].2.2.1, z)) := by
  rcases h.cur with ⟨e, -⟩ | ⟨g', cap, cur, e, hb, hg, hn, hc, hs, hr⟩
  · cases e
  · simp only [Value.slice.injEq, Option.some.injEq, Addr.mk.injEq, and_true] at e
    obtain ⟨rfl, rfl, rfl⟩ := e
    have := on_of (l := l.set k (l[k].1, l[k].2.1, l[k].2.2.1, z)) hb (heap_set hg (k * 6 + 5) (.int .i32 z)) (by simpa using hn) hc (by simpa using hs) (fun i hi j hj => ?_)
    · rw [List.length_set] at this; exact this
    · rw [List.length_set] at hi
      simp only [Array.getElem?_setIfInBounds]
      rw [List.getElem_set]
      by_cases e : k = i
      · subst e
        rw [if_pos rfl]
        by_cases e4 : j = 5
        · subst e4
          simp; omega
        · rw [if_neg (by omega), hr k hi j hj]
          match j, hj, e4 with
          | 0, _, _ => rfl
          | 1, _, _ => rfl
          | 2, _, _ => rfl
          | 3, _, _ => rfl
          | 4, _, _ => rfl
          | 5, _, h => exact absurd rfl h
      · rw [if_neg e, if_neg (by omega)]
        exact hr i hi j hj

set_option maxRecDepth 100000 in
set_option maxHeartbeats 4000000 in
theorem stain_ref (l : List Nt) (v : Value) (base : Nat) (w : World) (ho : ON w base 51 v l) (hlx : l.length ≤ 1000000) :
    Calls Tryz.prog 21 #[v] w fun e w' => e = .returned (.tuple #[]) ∧ Below base w w' := by
  obtain ⟨a, c, rfl, -, -, -, hax⟩ := ON.row ho
  have HX6 : Hid (∀ x, a = some x → x = ⟨x.block, 0, none⟩ ∧ base ≤ x.block) := fun x h => ⟨(hax x h).1, (hax x h).2.2.1⟩
  have HO := Lib.hid ho
  have hli : (l.length : Int) ≤ 1000000 := by omega
  clear ho hlx hax
  go_enter Tryz.func21, Tryz.ntmps21
  go_wp2_with fail
  go_loopw [2] (fun i wr => ∃ (k : Nat) (M : List Nt), k ≤ l.length ∧ i = .int .i64 (k : Int) ∧ M.length = l.length ∧ Hid (Below base w wr) ∧ Hid (ON wr base 51 (.slice a l.length c) M)) (fun i _ => l.length - (intOf i).toNat)
  case atStart => exact ⟨0, l, Nat.zero_le _, rfl, rfl, Below.refl _ _, HO⟩
  case round =>
    clear HO
    obtain ⟨k, M, hk, rfl, hM, HZ, HO⟩ := hrel
    by_cases hlt : k < l.length
    · have hi0 : (k : Int) < (l.length : Int) := by omega
      have hkM : k < M.length := by omega
      obtain ⟨g, rfl⟩ : ∃ g, a = some ⟨g, 0, none⟩ := by
        rcases a with _ | x
        · rcases (ON.r HO.out).1 with h | ⟨b, o, h, -⟩
          · rw [h] at hkM; exact absurd hkM (Nat.not_lt_zero _)
          · cases h
        · obtain ⟨e, -⟩ := HX6.out x rfl
          exact ⟨x.block, by rw [← e]⟩
      have hgb : base ≤ g := (HX6.out _ rfl).2
      have HGb := Lib.hid hgb
      have hix := ixS g 0 l.length c k (k : Int) rfl hlt
      simp only [Nat.zero_add] at hix
      have HM := Lib.hid hM
      have hn := HO.out.na k hkM
      obtain ⟨t, ht⟩ : ∃ t, t = M[k].2.2.1 := ⟨_, rfl⟩
      obtain ⟨r, hr⟩ : ∃ r, r = M[k].2.2.2 := ⟨_, rfl⟩
      have hcl := hn.2.2.2.2.1
      have hcr := hn.2.2.2.2.2
      rw [← ht] at hcl
      rw [← hr] at hcr
      have hO1 := HO.out.putTime hkM (wrap64 (t + 1))
      have hkM1 : k < (M.set k (M[k].1, M[k].2.1, wrap64 (t + 1), M[k].2.2.2)).length := by rw [List.length_set]; exact hkM
      have hO2 := on_putRune hO1 hkM1 88
      have hfr := HO.out.free (k * 6 + 4)
      have hfr2 := HO.out.free (k * 6 + 5)
      have HO2 := Lib.hid hO2
      have HB2 := Lib.hid ((HZ.out.setCell (p := ⟨g, k * 6 + 4, none⟩) HGb.out (.int .i64 (wrap64 (t + 1)))).setCell (p := ⟨g, k * 6 + 5, none⟩) HGb.out (.int .i32 88))
      have HL2 : Hid (((M.set k (M[k].1, M[k].2.1, wrap64 (t + 1), M[k].2.2.2)).set k (((M.set k (M[k].1, M[k].2.1, wrap64 (t + 1), M[k].2.2.2))[k]).1, ((M.set k (M[k].1, M[k].2.1, wrap64 (t + 1), M[k].2.2.2))[k]).2.1, ((M.set k (M[k].1, M[k].2.1, wrap64 (t + 1), M[k].2.2.2))[k]).2.2.1, 88)).length = l.length) := by
        show _ = _
        rw [List.length_set, List.length_set]
        exact HM.out
      clear hgb hn ht hr hO1 hO2 hM HZ HO
      generalize ((M.set k (M[k].1, M[k].2.1, wrap64 (t + 1), M[k].2.2.2)).set k (((M.set k (M[k].1, M[k].2.1, wrap64 (t + 1), M[k].2.2.2))[k]).1, ((M.set k (M[k].1, M[k].2.1, wrap64 (t + 1), M[k].2.2.2))[k]).2.1, ((M.set k (M[k].1, M[k].2.1, wrap64 (t + 1), M[k].2.2.2))[k]).2.2.1, 88)) = M2 at *
      go_wp2_with fail
      refine ⟨⟨k + 1, M2, by omega, by go_num, HL2.out, HB2, HO2⟩, ?_⟩
      simp [intOf]; omega
    · obtain rfl : k = l.length := by omega
      have hend : ¬ (l.length : Int) < (l.length : Int) := by omega
      go_wp2_with fail
      go_end0
      exact ⟨rfl, HZ.out⟩
end Go.Proofs.YtgopkffgljiblaaGreat.Jn
end

/-
  Package join: Valid, Equal, Copy.
-/
section
namespace Go.Proofs.YtgopkffgljiblaaGreat.Jn
set_option linter.unusedVariables false
open Go.RowKit V Go.Sort D Nd Qs
attribute [local irreducible] Sch.heldN Sch.stepV Sch.stepE

theorem nilS : ∀ (w : World) (a : Option Addr) (n c n' c' : Nat), (binOp .eql 36 (.slice a n c) (.slice none n' c')).run Tryz.prog w = .ok (.bool a.isNone) w := fun w a n c n' c' => Lib.run_eql_slice_nil w _ _ a n c n' c' Tryz.underlying36
set_option maxRecDepth 100000 in
theorem jvalid_any (l : List Nt) (a : Option Addr) (c : Nat) (w : World) (hx : RowN w a l) (hlx : l.length ≤ 1000000) :
    Calls Tryz.prog 38 #[.slice a l.length c] w fun e w' => e = .returned (.bool (validS l)) ∧ Below w.heap.size w w' := by
  have H := Lib.hid (validS_any l a c w hx hlx)
  clear hx hlx
  go_enter Tryz.func38, Tryz.ntmps38
  go_wp2_with fail
  refine H.out.mono ?_
  rintro e w2 ⟨rfl, hb⟩
  have HB := Lib.hid hb
  clear hb H
  go_wp2_with fail
  go_ret
  exact ⟨rfl, HB.out⟩
end Go.Proofs.YtgopkffgljiblaaGreat.Jn
end

/-
  Package join: Join.
-/
section
namespace Go.Proofs.YtgopkffgljiblaaGreat.Jn
set_option linter.unusedVariables false
open Go.RowKit V Go.Sort D Nd Qs
attribute [local irreducible] Sch.heldN Sch.stepV Sch.stepE

/-- The join of two states, and its error. -/
def joinP (a b : List Nt) : List Nt × Int := if (validS a && validS b) = true then (if agS a b = true then (joinL a b, 0) else ([], 15)) else ([], 2)
theorem run_mkS (w : World) (c : Nat) (hc : c ≤ 1000000) :
    ∃ w', (Instr.makeSlice 36 (.int .i64 0) (.int .i64 (c : Int))).run Tryz.prog w = .ok (.slice (some ⟨w.heap.size, 0, none⟩) 0 c) w' ∧ ON w' w.heap.size 51 (.slice (some ⟨w.heap.size, 0, none⟩) 0 c) [] ∧ Below w.heap.size w w' := by
  obtain ⟨i, hi, hz0, hz1, hz2⟩ := G.info_of infoN
  obtain ⟨w', hr, ho, hg⟩ := run_make_own (P := Tryz.prog) w w.heap.size 36 51 i _ 6 Tryz.underlying36 hi hz0 hz1 .i64 .i64 c (by rw [hz2]; omega) (by unfold maxLen; omega) (Nat.le_refl _)
  exact ⟨w', hr, ho, (Below.refl _ _).grown hg (Nat.le_refl _) (fun k hk => by cases hk)⟩
/-- How long a slice is. -/
def lenV : Value → Nat
  | .slice _ n _ => n
  | _ => 0
/-- A slice with a list of nodes. -/
structure Sl (w : World) (a : Option Addr) (n c : Nat) (l : List Nt) : Prop where
  n : n = l.length
  r : RowN w a l
  z : a = none → c = 0
  c : l.length ≤ c
theorem Sl.keep {w w' : World} {a : Option Addr} {n c : Nat} {l : List Nt} (h : Sl w a n c l) (hb : Below w.heap.size w w') : Sl w' a n c l := ⟨h.n, h.r.keep hb, h.z, h.c⟩
theorem Sl.tail {w : World} {a : Option Addr} {n c : Nat} {x : Nt} {l : List Nt} (h : Sl w a n c (x :: l)) : Sl w (offN a c 1) (n - 1) (c - 1) l := by
  have h1 := offN_row h.r c 1 h.c (by simp)
  refine ⟨?_, ?_, fun e => ?_, ?_⟩
  · have := h.n; simp at this; omega
  · simpa using h1
  · have := h.z (offN_none e); omega
  · have := h.c; simp at this; omega
theorem Sl.head {w : World} {a : Option Addr} {n c : Nat} {x : Nt} {l : List Nt} (h : Sl w a n c (x :: l)) : ∃ b o, a = some ⟨b, o, none⟩ ∧ Na w b o x := by
  obtain ⟨b, o, e, hn⟩ := na_of h.r 0 (by simp)
  rw [Nat.zero_mul, Nat.add_zero] at hn
  exact ⟨b, o, e, hn⟩
/-- What remains to be zipped. -/
structure Zi (xs ys Z A B : List Nt) : Prop where
  j : Z ++ zipJ A B = zipJ xs ys
  g : zagB A B = zagB xs ys
  a : ∀ x ∈ A, validN x = true
  b : ∀ x ∈ B, validN x = true
  l : Z.length + (A.length + B.length) ≤ 400000
theorem Zi.end1 {xs ys Z A B : List Nt} (h : Zi xs ys Z A B) (e : A = [] ∨ B = []) : Z ++ A ++ B = zipJ xs ys ∧ zagB xs ys = true := by
  rw [← h.j, ← h.g]
  rcases e with rfl | rfl
  · rw [zipJ, zagB]; simp
  · rw [zip_nil, zag_nil]; simp
theorem Zi.left {xs ys Z A B : List Nt} {x y : Nt} (h : Zi xs ys Z (x :: A) (y :: B)) (e : less x.1 y.1 = true) : Zi xs ys (Z ++ [x]) A (y :: B) := by
  have h1 : zipJ (x :: A) (y :: B) = x :: zipJ A (y :: B) := by rw [zipJ, if_neg (less_ne e), if_pos e]
  have h2 : zagB (x :: A) (y :: B) = zagB A (y :: B) := by rw [zagB, if_neg (less_ne e), if_pos e]
  refine ⟨?_, by rw [← h2]; exact h.g, fun z hz => h.a z (by simp [hz]), h.b, ?_⟩
  · rw [← h.j, h1]; simp
  · have := h.l; simp at this ⊢; omega
theorem not_both {a b : Dt} (e : less b a = true) : ¬ less a b = true := fun h => by
  have := less_trans h e
  rw [less_irr] at this
  cases this
theorem Zi.right {xs ys Z A B : List Nt} {x y : Nt} (h : Zi xs ys Z (x :: A) (y :: B)) (e : less y.1 x.1 = true) : Zi xs ys (Z ++ [y]) (x :: A) B := by
  have h1 : zipJ (x :: A) (y :: B) = y :: zipJ (x :: A) B := by rw [zipJ, if_neg (less_ne e).symm, if_neg (not_both e)]
  have h2 : zagB (x :: A) (y :: B) = zagB (x :: A) B := by rw [zagB, if_neg (less_ne e).symm, if_neg (not_both e)]
  refine ⟨?_, by rw [← h2]; exact h.g, h.a, fun z hz => h.b z (by simp [hz]), ?_⟩
  · rw [← h.j, h1]; simp
  · have := h.l; simp at this ⊢; omega
theorem Zi.both {xs ys Z A B : List Nt} {x y : Nt} (h : Zi xs ys Z (x :: A) (y :: B)) (e : x.1 = y.1) : (agreeN x y = false → (mergeN x y).2 = 15 ∧ zagB xs ys = false) ∧ (agreeN x y = true → (mergeN x y).2 = 0 ∧ Zi xs ys (Z ++ [(mergeN x y).1]) A B) := by
  have hv : (validN x && validN y) = true := by rw [h.a x (by simp), h.b y (by simp)]; rfl
  have h2 : zagB (x :: A) (y :: B) = (agreeN x y && zagB A B) := by rw [zagB, if_pos e]
  constructor
  · intro hg
    refine ⟨?_, by rw [← h.g, h2, hg]; rfl⟩
    rw [merge_def, if_pos hv, if_neg (by rw [hg]; simp)]
  · intro hg
    have hm : mergeN x y = (if deadN y = true then y else x, 0) := by rw [merge_def, if_pos hv, if_pos hg]
    have h1 : zipJ (x :: A) (y :: B) = (mergeN x y).1 :: zipJ A B := by
      rw [zipJ, if_pos e, hm]
      simp only [deadN, decide_eq_true_eq]
    refine ⟨by rw [hm], ?_, ?_, fun z hz => h.a z (by simp [hz]), fun z hz => h.b z (by simp [hz]), ?_⟩
    · rw [← h.j, h1]; simp
    · rw [← h.g, h2, hg]; rfl
    · have := h.l; simp at this ⊢; omega
section
variable {b1 o1 b2 o2 : Nat} {n m : Nt}
theorem Vab.ld : ∀ w, Vab b1 o1 b2 o2 n m w → (Instr.loadAt 48 (.pointer (some ⟨b1, o1, none⟩))).run Tryz.prog w = .ok (dv n.1) w := fun w k => k.1.loadD
theorem Vab.lmd : ∀ w, Vab b1 o1 b2 o2 n m w → (Instr.loadAt 48 (.pointer (some ⟨b2, o2, none⟩))).run Tryz.prog w = .ok (dv m.1) w := fun w k => k.2.loadD
end
theorem nb_own {w w' : World} {v : Value} {g : Nat} {n : Nt} (h : Nb w g n) (hg : w.grownBy w' v.ownBlock) (hne : ∀ k, v.ownBlock = some k → k ≠ g) : Nb w' g n := by
  have e : w'.heap[g]? = w.heap[g]? := hg.block g h.lt (fun e => hne g e.symm rfl)
  obtain ⟨h0, h1, h2, h3, h4, h5⟩ := h
  exact ⟨(World.cell?_of_block (a := ⟨g, 0, none⟩) e).trans h0, (World.cell?_of_block (a := ⟨g, 1, none⟩) e).trans h1, (World.cell?_of_block (a := ⟨g, 2, none⟩) e).trans h2, (World.cell?_of_block (a := ⟨g, 3, none⟩) e).trans h3, (World.cell?_of_block (a := ⟨g, 4, none⟩) e).trans h4, (World.cell?_of_block (a := ⟨g, 5, none⟩) e).trans h5⟩
end Go.Proofs.YtgopkffgljiblaaGreat.Jn
end

/-
  Package join: Agree, Within.
-/
section
namespace Go.Proofs.YtgopkffgljiblaaGreat.Jn
set_option linter.unusedVariables false
open Go.RowKit V Go.Sort D Nd Qs
attribute [local irreducible] Sch.heldN Sch.stepV Sch.stepE

theorem put_len1 (o : List Nt) (n : Nt) : (putN o n).1.length ≤ o.length + 1 := by
  by_cases h : (putN o n).2 = 0
  · obtain ⟨h1, -⟩ := put_yes h
    rw [h1]
    unfold setS
    rw [List.length_append, List.length_cons, List.length_take]
    have h2 := List.length_filter_le (fun x : Nt => !decide (x.1 = (upN o n).1)) (o.drop (posS o (upN o n).1))
    rw [List.length_drop] at h2
    have h3 := posS_le o (upN o n).1
    omega
  · rw [put_no h]
    simp
theorem joinL_len (a b : List Nt) : (joinL a b).length ≤ a.length + b.length := by
  unfold joinL foldN
  induction b generalizing a with
  | nil => exact Nat.le_refl _
  | cons n t ih =>
    have h1 := ih ((putN a n).1)
    have h2 := put_len1 a n
    rw [List.foldl_cons, List.length_cons]
    omega
theorem joinP_len (a b : List Nt) : (joinP a b).1.length ≤ a.length + b.length := by
  unfold joinP
  split
  · split
    · exact joinL_len a b
    · exact Nat.zero_le _
  · exact Nat.zero_le _
/-- Whether two states agree, and the error. -/
def agP (a b : List Nt) : Bool × Int := if (validS a && validS b) = true then (agS a b, 0) else (false, 2)
def inP (a b : List Nt) : Bool × Int := (decide ((joinP a b).2 = 0) && decide ((joinP a b).1 = b), (joinP a b).2)
theorem join_err (a b : List Nt) : (joinP a b).2 = 0 ∨ (joinP a b).2 = 15 ∨ (joinP a b).2 = 2 := by
  unfold joinP
  split
  · split
    · exact .inl rfl
    · exact .inr (.inl rfl)
  · exact .inr (.inr rfl)
theorem ag_err (a b : List Nt) : agP a b = if (joinP a b).2 = 15 then (false, 0) else (decide ((joinP a b).2 = 0), (joinP a b).2) := by
  unfold joinP agP
  by_cases h1 : (validS a && validS b) = true
  · rw [if_pos h1, if_pos h1]
    by_cases h2 : agS a b = true
    · rw [if_pos h2, h2]; rfl
    · rw [if_neg h2, Bool.not_eq_true] at *
      rw [h2]; rfl
  · rw [if_neg h1, if_neg h1]; rfl
end Go.Proofs.YtgopkffgljiblaaGreat.Jn
end
