/-
  A gathering takes in one more node.
-/
import Derived.Test.YtmdebedkljpagaaQPlc
import Derived.Test.YtmdebedkljpagaaQOwn

section
namespace Go.Proofs.Ytmdebedkljpagaa.Qs
set_option linter.unusedVariables false
open Go.RowKit V Go.Sort D Nd
attribute [local irreducible] Sch.heldN Sch.stepV Sch.stepE

abbrev TG : TypeId := 73
/-- A gathering in memory. -/
def Gt (w : World) (G : Nat) (v : Value) (b : Nat) : Prop := w.heap[G]? = some (.cells #[v, .map (some b)] TG (0, 0))
section
variable {w w' : World} {G b : Nat} {v : Value}
theorem Gt.lt (h : Gt w G v b) : G < w.heap.size := (Array.getElem?_eq_some_iff.1 h).1
theorem Gt.keep (h : Gt w G v b) (hb : Below w.heap.size w w') : Gt w' G v b := (hb.block G h.lt).trans h
theorem Gt.gb {r : Option Nat} (h : Gt w G v b) (hg : w.grownBy w' r) (hne : some G ≠ r) : Gt w' G v b := (hg.block G h.lt hne).trans h
theorem Gt.c0 (h : Gt w G v b) : w.cell? ⟨G, 0, none⟩ = some v := by unfold Gt at h; simp [World.cell?, h]
theorem Gt.c1 (h : Gt w G v b) : w.cell? ⟨G, 1, none⟩ = some (.map (some b)) := by unfold Gt at h; simp [World.cell?, h]
theorem Gt.fr (h : Gt w G v b) (o : Nat) : w.frozen? ⟨G, o, none⟩ = false := by unfold Gt at h; simp [World.frozen?, h]
theorem Gt.put (h : Gt w G v b) (u : Value) : Gt (w.setCell ⟨G, 0, none⟩ u) G u b := by
  have := heap_set h 0 u
  exact this
theorem Gt.new (w : World) (v : Value) (b : Nat) : Gt (w.alloc (.cells #[v, .map (some b)] TG)) w.heap.size v b := by
  unfold Gt
  show (w.heap.push _)[w.heap.size]? = _
  simp
theorem Gt.far {base : Nat} {u : Value} {l : List Nt} (h : Gt w G v b) (ho : ON w base E u l) : u.ownBlock ≠ some G := fun e => by
  obtain ⟨vs, h1⟩ := ho.obj G e
  unfold Gt at h
  rw [h] at h1
  simp only [Option.some.injEq, Obj.cells.injEq] at h1
  exact absurd h1.2.1 (by decide)
end
theorem Dm.far {α : Type} {L : Elem α} {w : World} {b n base : Nat} {f : Dt → Option α} {u : Value} {l : List Nt} (h : Dm L w b n f) (ho : ON w base E u l) : u.ownBlock ≠ some b := fun e => by
  obtain ⟨vs, h1⟩ := ho.obj b e
  obtain ⟨D, ⟨es, clock, hb, -⟩, -⟩ := h
  rw [hb] at h1
  cases h1
theorem Dm.ne_gt {α : Type} {L : Elem α} {w : World} {b n G : Nat} {f : Dt → Option α} {v : Value} {c : Nat} (h : Dm L w b n f) (hg : Gt w G v c) : b ≠ G := fun e => by
  subst e
  obtain ⟨D, ⟨es, clock, hb, -⟩, -⟩ := h
  unfold Gt at hg
  rw [hb] at hg
  cases hg
theorem load_s {w : World} {g i : Nat} {z : Value} (h : w.cell? ⟨g, i, none⟩ = some z) : (Instr.loadAt 22 (.pointer (some ⟨g, i, none⟩))).run Try.prog w = .ok z w := by
  go_simp
theorem load_m {w : World} {g i : Nat} {z : Value} (h : w.cell? ⟨g, i, none⟩ = some z) : (Instr.loadAt 71 (.pointer (some ⟨g, i, none⟩))).run Try.prog w = .ok z w := by
  go_simp
/-- What the regions read: the node's box, the gathering. -/
def Ga (g G b : Nat) (n : Nt) (v : Value) (w : World) : Prop := Nb w g n ∧ Gt w G v b
/-- .. without its list. -/
def Gb (g G b : Nat) (n : Nt) (w : World) : Prop := Nb w g n ∧ w.cell? ⟨G, 1, none⟩ = some (.map (some b))
section
variable {g G b : Nat} {n : Nt} {v : Value}
theorem Ga.keep {w w' : World} (h : Ga g G b n v w) (hb : Below w.heap.size w w') : Ga g G b n v w' := ⟨h.1.keep hb, h.2.keep hb⟩
theorem Ga.lm : ∀ w, Ga g G b n v w → (Instr.loadAt 71 (.pointer (some ⟨G, 1, none⟩))).run Try.prog w = .ok (.map (some b)) w := fun w h => load_m h.2.c1
theorem Ga.ls : ∀ w, Ga g G b n v w → (Instr.loadAt 22 (.pointer (some ⟨G, 0, none⟩))).run Try.prog w = .ok v w := fun w h => load_s h.2.c0
theorem Ga.ld : ∀ w, Ga g G b n v w → (Instr.loadAt 42 (.pointer (some ⟨g, 0, none⟩))).run Try.prog w = .ok (dv n.1) w := fun w h => h.1.loadD
theorem Ga.ln : ∀ w, Ga g G b n v w → (Instr.loadAt 44 (.pointer (some ⟨g, 0, none⟩))).run Try.prog w = .ok (nv n) w := fun w h => h.1.load
theorem Gb.ln : ∀ w, Gb g G b n w → (Instr.loadAt 44 (.pointer (some ⟨g, 0, none⟩))).run Try.prog w = .ok (nv n) w := fun w h => h.1.load
end
theorem wp_putD {α : Type} (L : Elem α) {w : World} {o : Oper} {a : Act} {K : Act → World → Prop} {Q : Exit → Act → World → Prop} (m x v : Operand) (t : TypeId) (hop : o.op = Op.mapUpdate t m x v) (E : TypeId)
    (ht : Try.prog.underlying t = some (.map 42 E)) (b n : Nat) (f : Dt → Option α) (hm : a.eval m = .map (some b)) (h : Dm L w b n f) (hn : n < maxLen) (d : Dt) (y : α) (hx : a.eval x = dv d) (hv : a.eval v = L.e y) (hd : fitD d)
    (hK : ∀ w', Dm L w' b (n + 1) (putF f d y) → w.grownBy w' (some b) → K (a.put o.dst undef) w') : o.wp Try.prog a w K Q := by
  obtain ⟨w', hrun, r1, r2⟩ := h.put ht hn hd y
  unfold Oper.wp
  simp [execOp, hop, hm, hx, hv, hrun, Result.andThen]
  exact hK w' r1 r2
theorem wp_appN {P : Program} {w : World} {x : Oper} {a : Act} {K : Act → World → Prop} {Q : Exit → Act → World → Prop} (s y : Operand) (T : TypeId)
    (ho : x.op = .call { callee := .builtin .append, args := #[s, y], argTypes := #[T, T] })
    {base : Nat} {E : TypeId} (hT : P.underlying T = some (.slice E)) (hinfo : (P.info? E).map (fun i => (i.zero, i.size, i.bytes)) = some (some zeroNv, 6, 48))
    (v : Value) (l : List Nt) (hs : a.eval s = v) (h : ON w base E v l) (ad : Option Addr) (m : List Nt) (c n : Nat) (hn : n = m.length) (hx : a.eval y = .slice ad n c) (hrow : RowN w ad m) (hnil : ad = none → c = 0)
    (hlen : l.length + m.length ≤ 1000000000000) (hbase : base ≤ w.heap.size)
    (hk : ∀ v' w', ON w' base E v' (l ++ m) → w.grownBy w' v.ownBlock → G.Grew w v v' → K (a.put x.dst v') w') : x.wp P a w K Q := by
  subst hn
  obtain ⟨v', w', hr, h2, h3, h4⟩ := run_appN hT hinfo h x.type ad m c hrow hnil hlen hbase
  unfold Oper.wp execOp
  simp only [ho, resolve, invoke, builtin, Sem.run_bind, Sem.run_pure, Result.andThen_ok, List.map_toArray, List.map_cons, List.map_nil, hs, hx, hr]
  exact hk _ _ h2 h3 h4

theorem nb_gb {w w' : World} {g r : Nat} {n : Nt} (h : Nb w g n) (hg : w.grownBy w' (some r)) (hne : g ≠ r) : Nb w' g n := by
  have e : w'.heap[g]? = w.heap[g]? := hg.block g h.lt (by simpa using hne)
  obtain ⟨h0, h1, h2, h3, h4, h5⟩ := h
  exact ⟨(World.cell?_of_block (a := ⟨g, 0, none⟩) e).trans h0, (World.cell?_of_block (a := ⟨g, 1, none⟩) e).trans h1, (World.cell?_of_block (a := ⟨g, 2, none⟩) e).trans h2, (World.cell?_of_block (a := ⟨g, 3, none⟩) e).trans h3, (World.cell?_of_block (a := ⟨g, 4, none⟩) e).trans h4, (World.cell?_of_block (a := ⟨g, 5, none⟩) e).trans h5⟩
/-- What a gathering is, in memory and plainly: its list is v, its map has at most N entries. -/
structure Gm (w : World) (base G b N : Nat) (v : Value) (ns : List Nt) : Prop where
  g : Gt w G v b
  m : Dm elInt w b N (idxG ns)
  o : ON w base E v ns
  bG : base ≤ G
  bb : base ≤ b
section
variable {w w' : World} {base G b N : Nat} {v : Value} {ns : List Nt}
theorem Gm.grow (h : Gm w base G b N v ns) (hg : w.grownBy w' (some b)) {f : Dt → Option Int} (hm : Dm elInt w' b (N + 1) f) {ns' : List Nt} (e : f = idxG ns') : Gt w' G v b ∧ Dm elInt w' b (N + 1) (idxG ns') ∧ ON w' base E v ns := by
  refine ⟨h.g.gb hg (by simpa using (h.m.ne_gt h.g).symm), e ▸ hm, h.o.keep hg ?_⟩
  right
  have := h.m.far h.o
  intro e2
  exact this e2
theorem Gm.keep (h : Gm w base G b N v ns) (hb : Below w.heap.size w w') : Gm w' base G b N v ns := ⟨h.g.keep hb, h.m.keep hb, h.o.below hb, h.bG, h.bb⟩
end
/-- .. and a node of the list. -/
def Gc (g G b h o : Nat) (n r : Nt) (v : Value) (w : World) : Prop := Ga g G b n v w ∧ Na w h o r
section
variable {g G b h o : Nat} {n r : Nt} {v : Value}
theorem Gc.keep {w w' : World} (k : Gc g G b h o n r v w) (hb : Below w.heap.size w w') : Gc g G b h o n r v w' := ⟨k.1.keep hb, k.2.keep hb⟩
theorem Gc.ls : ∀ w, Gc g G b h o n r v w → (Instr.loadAt 22 (.pointer (some ⟨G, 0, none⟩))).run Try.prog w = .ok v w := fun w k => load_s k.1.2.c0
theorem Gc.lr : ∀ w, Gc g G b h o n r v w → (Instr.loadAt 44 (.pointer (some ⟨h, o, none⟩))).run Try.prog w = .ok (nv r) w := fun w k => k.2.load
theorem Gc.ln : ∀ w, Gc g G b h o n r v w → (Instr.loadAt 44 (.pointer (some ⟨g, 0, none⟩))).run Try.prog w = .ok (nv n) w := fun w k => k.1.1.load
end
theorem gb_putN (w : World) (g : Nat) (n : Nt) : w.grownBy (Nd.putN w g n) (some g) :=
  gb_trans (gb_trans (gb_trans (gb_trans (gb_trans (gb_setCell _ _ _ _) (gb_setCell _ _ _ _)) (gb_setCell _ _ _ _)) (gb_setCell _ _ _ _)) (gb_setCell _ _ _ _)) (gb_setCell _ _ _ _)
theorem put_nb {w : World} {g : Nat} (h : Zb w g) (n : Nt) : Nb (Nd.putN w g n) g n := by
  obtain ⟨⟨h0, h1, h2, h3, h4, h5⟩, -⟩ := h
  unfold Nd.putN
  refine ⟨?_, ?_, ?_, ?_, ?_, ?_⟩ <;> go_simp
/-- The gathering and a box. -/
def Ge (G b : Nat) (v : Value) (q : Nat) (m : Nt) (w : World) : Prop := Gt w G v b ∧ Nb w q m
section
variable {G b q : Nat} {m : Nt} {v : Value}
theorem Ge.ls : ∀ w, Ge G b v q m w → (Instr.loadAt 22 (.pointer (some ⟨G, 0, none⟩))).run Try.prog w = .ok v w := fun w k => load_s k.1.c0
theorem Ge.lm : ∀ w, Ge G b v q m w → (Instr.loadAt 44 (.pointer (some ⟨q, 0, none⟩))).run Try.prog w = .ok (nv m) w := fun w k => k.2.load
end
/-- Blocks of other types stay as they were. -/
def Oth (w w' : World) : Prop := ∀ (x : Nat) (vs : Array Value) (T : TypeId), w.heap[x]? = some (.cells vs T (0, 0)) → T ≠ E → T ≠ TG → w'.heap[x]? = w.heap[x]?
section
variable {w w' w2 : World}
theorem Oth.refl (w : World) : Oth w w := fun _ _ _ _ _ _ => rfl
theorem Oth.tr (h : Oth w w') (k : Oth w' w2) : Oth w w2 := fun x vs T hx h1 h2 => (k x vs T ((h x vs T hx h1 h2).trans hx) h1 h2).trans (h x vs T hx h1 h2)
theorem Oth.bel (h : Oth w w') (hb : Below w'.heap.size w' w2) : Oth w w2 := h.tr fun x vs T hx _ _ => hb.block x (Array.getElem?_eq_some_iff.1 hx).1
theorem Oth.gb (h : Oth w w') {r : Option Nat} (hg : w'.grownBy w2 r) (hr : ∀ x vs T, w'.heap[x]? = some (.cells vs T (0, 0)) → T ≠ E → T ≠ TG → some x ≠ r) : Oth w w2 := h.tr fun x vs T hx h1 h2 => hg.block x (Array.getElem?_eq_some_iff.1 hx).1 (hr x vs T hx h1 h2)
theorem Oth.map (h : Oth w w') {b n : Nat} {f : Dt → Option Int} (hm : Dm elInt w' b n f) (hg : w'.grownBy w2 (some b)) : Oth w w2 := h.gb hg fun x vs T hx _ _ e => by
  cases e
  obtain ⟨D, ⟨es, clock, hb, -⟩, -⟩ := hm
  rw [hb] at hx
  cases hx
theorem Oth.gt (h : Oth w w') {G b : Nat} {v : Value} (hm : Gt w' G v b) (hg : w'.grownBy w2 (some G)) : Oth w w2 := h.gb hg fun x vs T hx _ h2 e => by
  cases e
  unfold Gt at hm
  rw [hm] at hx
  simp only [Option.some.injEq, Obj.cells.injEq] at hx
  exact h2 hx.2.1.symm
theorem Oth.own (h : Oth w w') {base : Nat} {v : Value} {l : List Nt} (ho : ON w' base E v l) (hg : w'.grownBy w2 v.ownBlock) : Oth w w2 := h.gb hg fun x vs T hx h1 _ e => by
  obtain ⟨us, hu⟩ := ho.obj x e.symm
  rw [hu] at hx
  simp only [Option.some.injEq, Obj.cells.injEq] at hx
  exact h1 hx.2.1.symm
theorem Oth.new (h : Oth w w') {q : Nat} (hq : w.heap.size ≤ q) (hg : w'.grownBy w2 (some q)) : Oth w w2 := fun x vs T hx h1 h2 => by
  have hl := (Array.getElem?_eq_some_iff.1 hx).1
  have e := h x vs T hx h1 h2
  have hl2 := (Array.getElem?_eq_some_iff.1 (e.trans hx)).1
  exact (hg.block x hl2 (by simp; omega)).trans e
end
set_option maxRecDepth 100000 in
set_option maxHeartbeats 4000000 in
theorem add_any (w : World) (base G b N : Nat) (v : Value) (ns pre : List Nt) (n : Nt) (hm : Gm w base G b N v ns) (hN : N ≤ 1000000) (hns : ns.length ≤ 1000000) (hbase : base ≤ w.heap.size) (hgd : Gd ns pre) (hn : validN n = true) (hf : fitD n.1) (hlf : Lf pre n) :
    Calls Try.prog 55 #[.pointer (some ⟨G, 0, none⟩), nv n] w fun e w' => ∃ z : Int, e = .returned (.int .i64 z) ∧ w.heap.size ≤ w'.heap.size ∧ Below base w w' ∧ Oth w w' ∧
      ((z = 0 ∧ ∃ v' ns', Gm w' base G b (N + 1) v' ns' ∧ Gd ns' (pre ++ [n])) ∨ (z = 15 ∧ ¬ agAll (pre ++ [n]))) := by
  have HG := Lib.hid (hm.keep (bel_box w (.cells (nc n) 44)))
  have HK : Hid (Ga w.heap.size G b n v (w.alloc (.cells (nc n) 44))) := ⟨Nb.new w n, HG.out.g⟩
  have HB : Hid (Below base w (w.alloc (.cells (nc n) 44))) := (Below.refl base w).alloc hbase _
  have HS : Hid (w.heap.size < (w.alloc (.cells (nc n) 44)).heap.size) := by show _ < _; simp
  have HB1 := Lib.hid hm.m.lt
  have HG1 := Lib.hid hm.g.lt
  have HOt := Lib.hid ((Oth.refl w).bel (bel_box w (.cells (nc n) 44)))
  have HN := Lib.hid hN
  obtain ⟨A, cv, rfl, -⟩ := hm.o.row
  have HNs := Lib.hid hns
  have HGd := Lib.hid hgd
  have HVn := Lib.hid hn
  have HF := Lib.hid hf
  have HL := Lib.hid hlf
  have HBs := Lib.hid hbase
  have HO0 := Lib.hid hm.o.lt
  clear hm hN hns hgd hn hf hlf hbase
  go_enter Try.func55, Try.ntmps55
  go_wp2_with fail
  generalize w.alloc (.cells (nc n) 44) = w1 at *
  replace HK := Lib.hid (HK.out.keep ((Below.refl w1.heap.size w1).drew))
  replace HG := Lib.hid (HG.out.keep ((Below.refl w1.heap.size w1).drew))
  replace HB := Lib.hid HB.out.drew
  replace HOt := Lib.hid (HOt.out.bel (Below.refl w1.heap.size w1).drew)
  replace HS : Hid (w.heap.size < w1.drew.heap.size) := HS.out
  refine Sch.wp_region_tn (Ga w.heap.size G b n (.slice A ns.length cv)) (.val 0 (.val 1 (.val 2 (.val 3 (.val 4 (.val 5 (.one 6 (.val 7 (.val 8 (.val 9 (.val 10 (.val 11 .done)))))))))))) (by kernel_rfl) (by kernel_rfl) HK.out ?_
  repeat (first
    | (refine Sch.tn_q rfl rfl rfl (fun K hK => ?_); go_big_quiet_op; (first | refine hK _ ?_ | refine ⟨_, fun _ _ => rfl, hK _ ?_⟩); clear hK K)
    | (refine Sch.tn_chk _ _ _ rfl rfl rfl rfl rfl ?_; simp only [Act.put, List.setIfInBounds_toArray, List.set_cons_zero, List.set_cons_succ])
    | (refine Sch.tn_load _ _ _ _ _ rfl rfl rfl rfl (by first | exact Ga.lm | exact Ga.ld) rfl ?_; simp only [Act.put, List.setIfInBounds_toArray, List.set_cons_zero, List.set_cons_succ]))
  generalize w1.drew = w2 at *
  have HI : Hid (∀ z, z = idxG ns n.1 → (z = none ∧ atS ns n.1 = none) ∨ ∃ k, ∃ hk : k < ns.length, z = some (k : Int) ∧ ns[k].1 = n.1) := fun z hz => by
    rcases h0 : idxG ns n.1 with _ | i
    · exact .inl ⟨hz.trans h0, idxG_none.1 h0⟩
    · obtain ⟨i, hi, e, h1, -⟩ := idxG_some h0
      exact .inr ⟨i, hi, by rw [hz, h0, e], h1⟩
  have hlk := HG.out.m.look_ok uInt (zInt w2) HF.out
  obtain ⟨z, hz⟩ : ∃ z, z = idxG ns n.1 := ⟨_, rfl⟩
  rw [← hz] at hlk
  obtain ⟨rfl, ha⟩ | ⟨k, hk, rfl, ha⟩ := HI.out z hz
  · have hlk2 : (Instr.lookup 71 (.map (some b)) (dv n.1) true).run Try.prog w2 = .ok (.tuple #[.int .i64 0, .bool false]) w2 := hlk
    have HA := Lib.hid ha
    have HIx : Hid (putF (idxG ns) n.1 (ns.length : Int) = idxG (ns ++ [n])) := by
      show _ = _
      funext d
      rw [idxG_app ha]
      rfl
    have HGn := Lib.hid (gd_new HGd.out HVn.out ha)
    clear hlk hz HI ha
    refine Sch.tn_e rfl rfl (fun K hK => ?_)
    go_wp2_with fail
    refine hK _ _ HK.out ?_
    clear hK K
    repeat (first
      | (refine Sch.tn_q rfl rfl rfl (fun K hK => ?_); go_big_quiet_op; (first | refine hK _ ?_ | refine ⟨_, fun _ _ => rfl, hK _ ?_⟩); clear hK K)
      | (refine Sch.tn_chk _ _ _ rfl rfl rfl rfl rfl ?_; simp only [Act.put, List.setIfInBounds_toArray, List.set_cons_zero, List.set_cons_succ]))
    refine Sch.tn_n ?_
    clear hlk2
    go_wp2_with fail
    replace HK := Lib.hid (HK.out.keep ((Below.refl w2.heap.size w2).drew))
    replace HG := Lib.hid (HG.out.keep ((Below.refl w2.heap.size w2).drew))
    replace HB := Lib.hid HB.out.drew
    replace HOt := Lib.hid (HOt.out.bel (Below.refl w2.heap.size w2).drew)
    replace HS : Hid (w.heap.size < w2.drew.heap.size) := HS.out
    refine Sch.wp_region_tn (Ga w.heap.size G b n (.slice A ns.length cv)) (.val 0 (.val 1 (.val 2 (.val 3 (.val 4 (.val 5 (.val 6 (.val 7 (.val 8 (.val 9 (.val 10 (.one 11 .done)))))))))))) (by kernel_rfl) (by kernel_rfl) HK.out ?_
    repeat (first
      | (refine Sch.tn_q rfl rfl rfl (fun K hK => ?_); go_big_quiet_op; (first | refine hK _ ?_ | refine ⟨_, fun _ _ => rfl, hK _ ?_⟩); clear hK K)
      | (refine Sch.tn_chk _ _ _ rfl rfl rfl rfl rfl ?_; simp only [Act.put, List.setIfInBounds_toArray, List.set_cons_zero, List.set_cons_succ])
      | (refine Sch.tn_load _ _ _ _ _ rfl rfl rfl rfl (by first | exact Ga.lm | exact Ga.ls | exact Ga.ld) rfl ?_; simp only [Act.put, List.setIfInBounds_toArray, List.set_cons_zero, List.set_cons_succ]))
    generalize w2.drew = w3 at *
    refine Sch.tn_e rfl rfl (fun K hK => ?_)
    refine wp_putD elInt _ _ _ _ rfl 3 uInt b N _ rfl HG.out.m (by have := HN.out; unfold maxLen; omega) n.1 (ns.length : Int) rfl rfl HF.out ?_
    intro w4 hm4 hg4
    have HK4 : Hid (Ga w.heap.size G b n (.slice A ns.length cv) w4) := ⟨nb_gb HK.out.1 hg4 (by have := HB1.out; omega), HK.out.2.gb hg4 (by have := HG.out.m.ne_gt HG.out.g; simp; omega)⟩
    have HX4 := Lib.hid (HG.out.grow hg4 hm4 HIx.out)
    have HB4 := Lib.hid (below_gb HB.out hg4 (Nat.le_trans HBs.out (Nat.le_of_lt HS.out)) HG.out.bb)
    have HS4 : Hid (w.heap.size < w4.heap.size) := Nat.lt_of_lt_of_le HS.out hg4.size
    replace HOt := Lib.hid (HOt.out.map HG.out.m hg4)
    have HBG := Lib.hid HG.out.bG
    have HBb := Lib.hid HG.out.bb
    clear hm4 hg4 HG HB HS HK
    refine hK _ _ HK4.out ?_
    clear hK K
    simp only [Act.put]
    refine Sch.tn_n ?_
    go_wp2_with fail
    have hd := (Below.refl w4.heap.size w4).drew
    replace HK4 := Lib.hid (HK4.out.keep hd)
    replace HX4 : Hid (Gt w4.drew G (.slice A ns.length cv) b ∧ Dm elInt w4.drew b (N + 1) (idxG (ns ++ [n])) ∧ ON w4.drew base E (.slice A ns.length cv) ns) := ⟨HX4.out.1.keep hd, HX4.out.2.1.keep hd, HX4.out.2.2.below hd⟩
    replace HB4 := Lib.hid HB4.out.drew
    replace HOt := Lib.hid (HOt.out.bel hd)
    replace HS4 : Hid (w.heap.size < w4.drew.heap.size) := HS4.out
    clear hd
    have HKb : Hid (Gb w.heap.size G b n w4.drew) := ⟨HK4.out.1, HK4.out.2.c1⟩
    refine Sch.wp_region_tn (Gb w.heap.size G b n) (.val 0 (.val 1 (.val 2 (.val 3 (.val 5 (.two 4 (.one 6 (.one 7 (.val 8 (.val 9 (.one 10 .done))))) 6 (.one 4 (.one 7 (.val 8 (.val 9 (.one 10 .done))))))))))) (by kernel_rfl) (by kernel_rfl) HKb.out ?_
    repeat (first
      | (refine Sch.tn_q rfl rfl rfl (fun K hK => ?_); go_big_quiet_op; (first | refine hK _ ?_ | refine ⟨_, fun _ _ => rfl, hK _ ?_⟩); clear hK K)
      | (refine Sch.tn_chk _ _ _ rfl rfl rfl rfl rfl ?_; simp only [Act.put, List.setIfInBounds_toArray, List.set_cons_zero, List.set_cons_succ])
      | (refine Sch.tn_load _ _ _ _ _ rfl rfl rfl rfl (by first | exact Gb.ln) rfl ?_; simp only [Act.put, List.setIfInBounds_toArray, List.set_cons_zero, List.set_cons_succ]))
    generalize w4.drew = w5 at *
    refine Sch.tn_two ?_ ?_
    · have x0 := HX4.out.1.c0
      refine Sch.tn_e rfl rfl (fun K hK => ?_)
      go_wp2_with fail
      refine hK _ _ HKb.out ?_
      clear hK K
      clear x0
      refine Sch.tn_e rfl rfl (fun K hK => ?_)
      go_wp2_with fail
      have hb6 := bel_box w5 (.cells (nc n) 44)
      have HK6 : Hid (Gb w.heap.size G b n (w5.alloc (.cells (nc n) 44))) := ⟨HK4.out.1.keep hb6, (HX4.out.1.keep hb6).c1⟩
      have HX6 : Hid (Gt (w5.alloc (.cells (nc n) 44)) G (.slice A ns.length cv) b ∧ Dm elInt (w5.alloc (.cells (nc n) 44)) b (N + 1) (idxG (ns ++ [n])) ∧ ON (w5.alloc (.cells (nc n) 44)) base E (.slice A ns.length cv) ns) := ⟨HX4.out.1.keep hb6, HX4.out.2.1.keep hb6, HX4.out.2.2.below hb6⟩
      have HB6 : Hid (Below base w (w5.alloc (.cells (nc n) 44))) := HB4.out.alloc (Nat.le_trans HBs.out (Nat.le_of_lt HS4.out)) _
      have HS6 : Hid (w.heap.size < (w5.alloc (.cells (nc n) 44)).heap.size) := Nat.lt_of_lt_of_le HS4.out hb6.size
      have HL6 : Hid (RowN (w5.alloc (.cells (nc n) 44)) (some ⟨w5.heap.size, 0, none⟩) [n]) := RowN.lit w5 [n] _ _ _ rfl
      replace HOt := Lib.hid (HOt.out.bel hb6)
      clear hb6 HK4 HX4 HB4
      refine hK _ _ HK6.out ?_
      clear hK K
      generalize (w5.alloc (.cells (nc n) 44)) = w6 at *
      refine Sch.tn_e rfl rfl (fun K hK => ?_)
      refine wp_appN _ _ _ rfl Try.underlying22 infoN (.slice A ns.length cv) ns rfl HX6.out.2.2 (some ⟨w5.heap.size, 0, none⟩) [n] 1 1 rfl rfl HL6.out (fun h => by cases h) (by have := HNs.out; simp only [List.length_cons, List.length_nil]; omega) (Nat.le_trans HBs.out (Nat.le_of_lt HS6.out)) ?_
      intro v7 w7 ho7 hg7 hgr
      have HF1 := Lib.hid (HX6.out.1.far HX6.out.2.2)
      have HF2 := Lib.hid (HX6.out.2.1.far HX6.out.2.2)
      have HX7 : Hid (Gt w7 G (.slice A ns.length cv) b ∧ Dm elInt w7 b (N + 1) (idxG (ns ++ [n]))) := ⟨HX6.out.1.gb hg7 (fun e => HF1.out e.symm), HX6.out.2.1.kept hg7 (fun e => HF2.out e.symm)⟩
      have HK7 : Hid (Gb w.heap.size G b n w7) := by
        refine ⟨?_, HX7.out.1.c1⟩
        rcases ho : (Value.slice A ns.length cv).ownBlock with _ | x
        · rw [ho] at hg7
          exact HK6.out.1.keep ⟨hg7.os, hg7.tape, hg7.output, hg7.size, fun i hi => hg7.block i hi (by simp)⟩
        · rw [ho] at hg7
          have := (HO0.out x ho).2
          exact nb_gb HK6.out.1 hg7 (by omega)
      have HB7 : Hid (Below base w w7) := HB6.out.grown hg7 (Nat.le_trans HBs.out (Nat.le_of_lt HS6.out)) (fun x hx => (HO0.out x hx).1)
      have HS7 : Hid (w.heap.size ≤ w7.heap.size) := Nat.le_trans (Nat.le_of_lt HS6.out) hg7.size
      replace HOt := Lib.hid (HOt.out.own HX6.out.2.2 hg7)
      have HO7 := Lib.hid ho7
      obtain ⟨A7, c7, rfl, -⟩ := ho7.row
      clear ho7 hg7 hgr HX6 HB6 HL6 HS6 HK6 HF1 HF2
      generalize (ns ++ [n]).length = n5 at *
      refine hK _ _ HK7.out ?_
      clear hK K
      simp only [Act.put, List.setIfInBounds_toArray, List.set_cons_zero, List.set_cons_succ]
      repeat (first
        | (refine Sch.tn_q rfl rfl rfl (fun K hK => ?_); go_big_quiet_op; (first | refine hK _ ?_ | refine ⟨_, fun _ _ => rfl, hK _ ?_⟩); clear hK K)
        | (refine Sch.tn_chk _ _ _ rfl rfl rfl rfl rfl ?_; simp only [Act.put, List.setIfInBounds_toArray, List.set_cons_zero, List.set_cons_succ]))
      have y0 := HX7.out.1.c0
      have g0 := HX7.out.1.fr 0
      refine Sch.tn_e rfl rfl (fun K hK => ?_)
      go_wp2_with fail
      have hp := gb_setCell w7 G 0 (.slice A7 n5 c7)
      have HX8 : Hid (Gt (w7.setCell ⟨G, 0, none⟩ (.slice A7 n5 c7)) G (.slice A7 n5 c7) b) := HX7.out.1.put _
      have HM8 : Hid (Dm elInt (w7.setCell ⟨G, 0, none⟩ (.slice A7 n5 c7)) b (N + 1) (idxG (ns ++ [n]))) := HX7.out.2.kept hp (by have := HX7.out.2.ne_gt HX7.out.1; simpa using this)
      have HO8 : Hid (ON (w7.setCell ⟨G, 0, none⟩ (.slice A7 n5 c7)) base E (.slice A7 n5 c7) (ns ++ [n])) := HO7.out.keep hp (.inr (HX7.out.1.far HO7.out))
      have HK8 : Hid (Gb w.heap.size G b n (w7.setCell ⟨G, 0, none⟩ (.slice A7 n5 c7))) := ⟨nb_gb HK7.out.1 hp (by have := HG1.out; omega), HX8.out.c1⟩
      have HB8 : Hid (Below base w (w7.setCell ⟨G, 0, none⟩ (.slice A7 n5 c7))) := HB7.out.setCell (p := ⟨G, 0, none⟩) HBG.out _
      have HS8 : Hid (w.heap.size ≤ (w7.setCell ⟨G, 0, none⟩ (.slice A7 n5 c7)).heap.size) := Nat.le_trans HS7.out hp.size
      replace HOt := Lib.hid (HOt.out.gt HX7.out.1 hp)
      clear hp y0 g0
      refine hK _ _ HK8.out ?_
      clear hK K
      refine Sch.tn_n ?_
      generalize w7.setCell ⟨G, 0, none⟩ (.slice A7 n5 c7) = w8 at *
      go_wp2_with fail
      go_ret
      exact ⟨0, rfl, HS8.out, HB8.out, HOt.out, .inl ⟨rfl, _, _, ⟨HX8.out, HM8.out, HO8.out, HBG.out, HBb.out⟩, HGn.out⟩⟩
    · skip
      refine Sch.tn_e rfl rfl (fun K hK => ?_)
      go_wp2_with fail
      have hb6 := bel_box w5 (.cells (nc n) 44)
      have HK6 : Hid (Gb w.heap.size G b n (w5.alloc (.cells (nc n) 44))) := ⟨HK4.out.1.keep hb6, (HX4.out.1.keep hb6).c1⟩
      have HX6 : Hid (Gt (w5.alloc (.cells (nc n) 44)) G (.slice A ns.length cv) b ∧ Dm elInt (w5.alloc (.cells (nc n) 44)) b (N + 1) (idxG (ns ++ [n])) ∧ ON (w5.alloc (.cells (nc n) 44)) base E (.slice A ns.length cv) ns) := ⟨HX4.out.1.keep hb6, HX4.out.2.1.keep hb6, HX4.out.2.2.below hb6⟩
      have HB6 : Hid (Below base w (w5.alloc (.cells (nc n) 44))) := HB4.out.alloc (Nat.le_trans HBs.out (Nat.le_of_lt HS4.out)) _
      have HS6 : Hid (w.heap.size < (w5.alloc (.cells (nc n) 44)).heap.size) := Nat.lt_of_lt_of_le HS4.out hb6.size
      have HL6 : Hid (RowN (w5.alloc (.cells (nc n) 44)) (some ⟨w5.heap.size, 0, none⟩) [n]) := RowN.lit w5 [n] _ _ _ rfl
      replace HOt := Lib.hid (HOt.out.bel hb6)
      clear hb6 HK4 HX4 HB4
      refine hK _ _ HK6.out ?_
      clear hK K
      generalize (w5.alloc (.cells (nc n) 44)) = w6 at *
      have x0 := HX6.out.1.c0
      refine Sch.tn_e rfl rfl (fun K hK => ?_)
      go_wp2_with fail
      clear x0
      refine hK _ _ HK6.out ?_
      clear hK K
      refine Sch.tn_e rfl rfl (fun K hK => ?_)
      refine wp_appN _ _ _ rfl Try.underlying22 infoN (.slice A ns.length cv) ns rfl HX6.out.2.2 (some ⟨w5.heap.size, 0, none⟩) [n] 1 1 rfl rfl HL6.out (fun h => by cases h) (by have := HNs.out; simp only [List.length_cons, List.length_nil]; omega) (Nat.le_trans HBs.out (Nat.le_of_lt HS6.out)) ?_
      intro v7 w7 ho7 hg7 hgr
      have HF1 := Lib.hid (HX6.out.1.far HX6.out.2.2)
      have HF2 := Lib.hid (HX6.out.2.1.far HX6.out.2.2)
      have HX7 : Hid (Gt w7 G (.slice A ns.length cv) b ∧ Dm elInt w7 b (N + 1) (idxG (ns ++ [n]))) := ⟨HX6.out.1.gb hg7 (fun e => HF1.out e.symm), HX6.out.2.1.kept hg7 (fun e => HF2.out e.symm)⟩
      have HK7 : Hid (Gb w.heap.size G b n w7) := by
        refine ⟨?_, HX7.out.1.c1⟩
        rcases ho : (Value.slice A ns.length cv).ownBlock with _ | x
        · rw [ho] at hg7
          exact HK6.out.1.keep ⟨hg7.os, hg7.tape, hg7.output, hg7.size, fun i hi => hg7.block i hi (by simp)⟩
        · rw [ho] at hg7
          have := (HO0.out x ho).2
          exact nb_gb HK6.out.1 hg7 (by omega)
      have HB7 : Hid (Below base w w7) := HB6.out.grown hg7 (Nat.le_trans HBs.out (Nat.le_of_lt HS6.out)) (fun x hx => (HO0.out x hx).1)
      have HS7 : Hid (w.heap.size ≤ w7.heap.size) := Nat.le_trans (Nat.le_of_lt HS6.out) hg7.size
      replace HOt := Lib.hid (HOt.out.own HX6.out.2.2 hg7)
      have HO7 := Lib.hid ho7
      obtain ⟨A7, c7, rfl, -⟩ := ho7.row
      clear ho7 hg7 hgr HX6 HB6 HL6 HS6 HK6 HF1 HF2
      generalize (ns ++ [n]).length = n5 at *
      refine hK _ _ HK7.out ?_
      clear hK K
      simp only [Act.put, List.setIfInBounds_toArray, List.set_cons_zero, List.set_cons_succ]
      repeat (first
        | (refine Sch.tn_q rfl rfl rfl (fun K hK => ?_); go_big_quiet_op; (first | refine hK _ ?_ | refine ⟨_, fun _ _ => rfl, hK _ ?_⟩); clear hK K)
        | (refine Sch.tn_chk _ _ _ rfl rfl rfl rfl rfl ?_; simp only [Act.put, List.setIfInBounds_toArray, List.set_cons_zero, List.set_cons_succ]))
      have y0 := HX7.out.1.c0
      have g0 := HX7.out.1.fr 0
      refine Sch.tn_e rfl rfl (fun K hK => ?_)
      go_wp2_with fail
      have hp := gb_setCell w7 G 0 (.slice A7 n5 c7)
      have HX8 : Hid (Gt (w7.setCell ⟨G, 0, none⟩ (.slice A7 n5 c7)) G (.slice A7 n5 c7) b) := HX7.out.1.put _
      have HM8 : Hid (Dm elInt (w7.setCell ⟨G, 0, none⟩ (.slice A7 n5 c7)) b (N + 1) (idxG (ns ++ [n]))) := HX7.out.2.kept hp (by have := HX7.out.2.ne_gt HX7.out.1; simpa using this)
      have HO8 : Hid (ON (w7.setCell ⟨G, 0, none⟩ (.slice A7 n5 c7)) base E (.slice A7 n5 c7) (ns ++ [n])) := HO7.out.keep hp (.inr (HX7.out.1.far HO7.out))
      have HK8 : Hid (Gb w.heap.size G b n (w7.setCell ⟨G, 0, none⟩ (.slice A7 n5 c7))) := ⟨nb_gb HK7.out.1 hp (by have := HG1.out; omega), HX8.out.c1⟩
      have HB8 : Hid (Below base w (w7.setCell ⟨G, 0, none⟩ (.slice A7 n5 c7))) := HB7.out.setCell (p := ⟨G, 0, none⟩) HBG.out _
      have HS8 : Hid (w.heap.size ≤ (w7.setCell ⟨G, 0, none⟩ (.slice A7 n5 c7)).heap.size) := Nat.le_trans HS7.out hp.size
      replace HOt := Lib.hid (HOt.out.gt HX7.out.1 hp)
      clear hp y0 g0
      refine hK _ _ HK8.out ?_
      clear hK K
      refine Sch.tn_n ?_
      generalize w7.setCell ⟨G, 0, none⟩ (.slice A7 n5 c7) = w8 at *
      go_wp2_with fail
      go_ret
      exact ⟨0, rfl, HS8.out, HB8.out, HOt.out, .inl ⟨rfl, _, _, ⟨HX8.out, HM8.out, HO8.out, HBG.out, HBb.out⟩, HGn.out⟩⟩
  · have hlk2 : (Instr.lookup 71 (.map (some b)) (dv n.1) true).run Try.prog w2 = .ok (.tuple #[.int .i64 (k : Int), .bool true]) w2 := hlk
    have hi2 : (k : Int) < (ns.length : Int) := by omega
    obtain ⟨r, hr⟩ : ∃ r, r = ns[k] := ⟨_, rfl⟩
    have HOl : Hid ((mergeN r n).2 = 0 → Gd (ns.set k (mergeN r n).1) (pre ++ [n]) ∧ (mergeN r n).1.1 = r.1) := by
      show _ → _
      intro h
      rw [hr] at h ⊢
      exact gd_old HGd.out HVn.out hk ha h HL.out
    have HBd : Hid ((mergeN r n).2 ≠ 0 → (mergeN r n).2 = 15 ∧ ¬ agAll (pre ++ [n])) := by
      show _ → _
      intro h
      rw [hr] at h ⊢
      exact gd_bad HGd.out HVn.out hk ha h
    have HIs : Hid (∀ m : Nt, m.1 = r.1 → idxG (ns.set k m) = idxG ns) := by
      intro m h
      exact idxG_set hk (h.trans (by rw [hr]))
    have HLk := Lib.hid hk
    clear hlk hz HI ha
    refine Sch.tn_e rfl rfl (fun K hK => ?_)
    go_wp2_with fail
    refine hK _ _ HK.out ?_
    clear hK K
    repeat (first
      | (refine Sch.tn_q rfl rfl rfl (fun K hK => ?_); go_big_quiet_op; (first | refine hK _ ?_ | refine ⟨_, fun _ _ => rfl, hK _ ?_⟩); clear hK K)
      | (refine Sch.tn_chk _ _ _ rfl rfl rfl rfl rfl ?_; simp only [Act.put, List.setIfInBounds_toArray, List.set_cons_zero, List.set_cons_succ]))
    refine Sch.tn_n ?_
    clear hlk2
    obtain ⟨g, rfl⟩ : ∃ g, A = some ⟨g, 0, none⟩ := by
      obtain ⟨a', c', e, hr, hn, hc, hx⟩ := HG.out.o.row
      simp only [Value.slice.injEq] at e
      obtain ⟨rfl, -, -⟩ := e
      rcases A with _ | x
      · have := (hn rfl).2
        subst this
        simp at hk
      · exact ⟨x.block, by rw [(hx x rfl).1]⟩
    have hgl := HO0.out g rfl
    have HGl := Lib.hid hgl
    clear hgl
    go_wp2_with fail
    have hd := (Below.refl w2.heap.size w2).drew
    have HK6 : Hid (Gc w.heap.size G b g (k * 6) n ns[k] (.slice (some ⟨g, 0, none⟩) ns.length cv) w2.drew) := ⟨HK.out.keep hd, (HG.out.o.na k hk).keep hd⟩
    replace HG := Lib.hid (HG.out.keep hd)
    replace HB := Lib.hid HB.out.drew
    replace HOt := Lib.hid (HOt.out.bel (Below.refl w2.heap.size w2).drew)
    replace HS : Hid (w.heap.size < w2.drew.heap.size) := HS.out
    clear hd HK
    have HMg := Lib.hid (fun w => Nd.merge_any ns[k] n w)
    have hix := ixN g 0 ns.length cv k (k : Int) rfl hk
    rw [Nat.zero_add] at hix
    have hr2 : ns[k] = r := hr.symm
    rw [hr2] at HK6 HMg
    clear hr2
    generalize mergeN r n = M at *
    have HR := Lib.hid hr
    clear hr
    refine Sch.wp_region_tn (Gc w.heap.size G b g (k * 6) n r (.slice (some ⟨g, 0, none⟩) ns.length cv)) (.val 0 (.val 1 (.val 2 (.val 3 (.val 4 (.val 5 (.val 6 (.val 7 (.two 8 (.val 9 (.val 10 (.val 11 (.one 12 (.one 13 (.val 14 .done)))))) 12 (.one 8 (.val 9 (.val 10 (.val 11 (.one 13 (.val 14 .done))))))))))))))) (by kernel_rfl) (by kernel_rfl) HK6.out ?_
    repeat (first
      | (refine Sch.tn_q rfl rfl rfl (fun K hK => ?_); go_big_quiet_op; (first | refine hK _ ?_ | refine ⟨_, fun _ _ => rfl, hK _ ?_⟩); clear hK K)
      | (refine Sch.tn_chk _ _ _ rfl rfl rfl rfl rfl ?_; simp only [Act.put, List.setIfInBounds_toArray, List.set_cons_zero, List.set_cons_succ])
      | (refine Sch.tn_load _ _ _ _ _ rfl rfl rfl rfl (by first | exact Gc.ls | exact Gc.lr | exact Gc.ln) rfl ?_; simp only [Act.put, List.setIfInBounds_toArray, List.set_cons_zero, List.set_cons_succ]))
    generalize w2.drew = w3 at *
    refine Sch.tn_two ?_ ?_
    · skip
      refine Sch.tn_e rfl rfl (fun K hK => ?_)
      go_wp2_with fail
      refine (HMg.out _).mono ?_
      rintro e w4 ⟨rfl, hb⟩
      replace HK6 := Lib.hid (HK6.out.keep hb)
      replace HG := Lib.hid (HG.out.keep hb)
      have hs4 := hb.size
      replace HOt := Lib.hid (HOt.out.bel hb)
      replace HB : Hid (Below base w w4) := HB.out.trans (hb.mono (Nat.le_trans HBs.out (Nat.le_of_lt HS.out)))
      replace HS : Hid (w.heap.size < w4.heap.size) := Nat.lt_of_lt_of_le HS.out hs4
      clear hb hs4
      refine hK _ _ HK6.out ?_
      clear hK K
      repeat (first
        | (refine Sch.tn_q rfl rfl rfl (fun K hK => ?_); go_big_quiet_op; (first | refine hK _ ?_ | refine ⟨_, fun _ _ => rfl, hK _ ?_⟩); clear hK K)
        | (refine Sch.tn_chk _ _ _ rfl rfl rfl rfl rfl ?_; simp only [Act.put, List.setIfInBounds_toArray, List.set_cons_zero, List.set_cons_succ]))
      have HZ := Lib.hid (Zb.new w4)
      have hbz := bel_box w4 (.cells #[.int .i64 0, .int .i64 0, .int .i64 0, .int .i64 0, .int .i64 0, .int .i32 0] 44)
      replace HK6 := Lib.hid (HK6.out.keep hbz)
      replace HG := Lib.hid (HG.out.keep hbz)
      have HQw : Hid (w.heap.size < w4.heap.size) := HS.out
      replace HB : Hid (Below base w (w4.alloc (.cells #[.int .i64 0, .int .i64 0, .int .i64 0, .int .i64 0, .int .i64 0, .int .i32 0] 44))) := HB.out.alloc (Nat.le_trans HBs.out (Nat.le_of_lt HS.out)) _
      replace HS : Hid (w.heap.size < (w4.alloc (.cells #[.int .i64 0, .int .i64 0, .int .i64 0, .int .i64 0, .int .i64 0, .int .i32 0] 44)).heap.size) := Nat.lt_of_lt_of_le HS.out hbz.size
      replace HOt := Lib.hid (HOt.out.bel hbz)
      clear hbz
      refine Sch.tn_e rfl rfl (fun K hK => ?_)
      go_wp2_with fail
      refine hK _ _ HK6.out ?_
      clear hK K
      generalize (w4.alloc (.cells #[.int .i64 0, .int .i64 0, .int .i64 0, .int .i64 0, .int .i64 0, .int .i32 0] 44)) = w5 at *
      generalize w4.heap.size = q at *
      have HQ9 : Hid (Nb (Nd.putN (w5) q M.1) q M.1) := put_nb HZ.out M.1
      have HGB9 := gb_putN (w5) q M.1
      have HG9 : Hid (Gm (Nd.putN (w5) q M.1) base G b N (.slice (some ⟨g, 0, none⟩) ns.length cv) ns) := ⟨HG.out.g.gb HGB9 (by have := HG1.out; have := HQw.out; simp; omega), HG.out.m.kept HGB9 (by have := HB1.out; have := HQw.out; simp; omega), HG.out.o.keep HGB9 (.inr (by have := HGl.out; have := HQw.out; simp [Value.ownBlock]; omega)), HG.out.bG, HG.out.bb⟩
      have HK9 : Hid (Gc w.heap.size G b g (k * 6) n r (.slice (some ⟨g, 0, none⟩) ns.length cv) (Nd.putN (w5) q M.1)) := ⟨⟨nb_gb HK6.out.1.1 HGB9 (by have := HQw.out; omega), HG9.out.g⟩, by rw [HR.out]; exact HG9.out.o.na k HLk.out⟩
      have HB9 : Hid (Below base w (Nd.putN (w5) q M.1)) := Nd.putN_below HB.out (by have := HBs.out; have := HQw.out; omega) _
      have HS9 : Hid (w.heap.size < (Nd.putN (w5) q M.1).heap.size) := Nat.lt_of_lt_of_le HS.out HGB9.size
      replace HOt := Lib.hid (HOt.out.new (Nat.le_of_lt HQw.out) HGB9)
      obtain ⟨⟨z0, z1, z2, z3, z4, z5⟩, hf⟩ := HZ.out
      have f0 := hf 0
      have f1 := hf 1
      have f2 := hf 2
      have f3 := hf 3
      have f4 := hf 4
      have f5 := hf 5
      clear hf HGB9 HK6 HG HB HS
      refine Sch.tn_e rfl rfl (fun K hK => ?_)
      go_wp2_with fail
      refine hK _ (Nd.putN (w5) q M.1) HK9.out ?_
      clear hK K z0 z1 z2 z3 z4 z5 f0 f1 f2 f3 f4 f5 HZ
      generalize Nd.putN (w5) q M.1 = w9 at *
      repeat (first
        | (refine Sch.tn_q rfl rfl rfl (fun K hK => ?_); go_big_quiet_op; (first | refine hK _ ?_ | refine ⟨_, fun _ _ => rfl, hK _ ?_⟩); clear hK K)
        | (refine Sch.tn_chk _ _ _ rfl rfl rfl rfl rfl ?_; simp only [Act.put, List.setIfInBounds_toArray, List.set_cons_zero, List.set_cons_succ]))
      refine Sch.tn_n ?_
      have HE : Hid ((M.2 = 0 ∧ Gd (ns.set k M.1) (pre ++ [n]) ∧ M.1.1 = r.1) ∨ (M.2 = 15 ∧ ¬ agAll (pre ++ [n]))) := by
        by_cases h : M.2 = 0
        · exact .inl ⟨h, HOl.out h⟩
        · exact .inr (HBd.out h)
      have HIx : Hid (M.1.1 = r.1 → idxG (ns.set k M.1) = idxG ns) := HIs.out _
      clear HOl HBd HIs HMg
      generalize M.2 = z at *
      generalize M.1 = m at *
      obtain ⟨rfl, hgn, hm1⟩ | ⟨rfl, hbad⟩ := HE.out
      · have HGn := Lib.hid hgn
        have HIx2 := Lib.hid (HIx.out hm1)
        clear hgn hm1 HE HIx
        go_wp2_with fail
        have hd := (Below.refl w9.heap.size w9).drew
        have HK10 : Hid (Ge G b (.slice (some ⟨g, 0, none⟩) ns.length cv) (q) m w9.drew) := ⟨HG9.out.g.keep hd, HQ9.out.keep hd⟩
        replace HG9 := Lib.hid (HG9.out.keep hd)
        replace HB9 := Lib.hid HB9.out.drew
        replace HS9 : Hid (w.heap.size < w9.drew.heap.size) := HS9.out
        replace HOt := Lib.hid (HOt.out.bel hd)
        clear hd HK9 HQ9
        refine Sch.wp_region_tn (Ge G b (.slice (some ⟨g, 0, none⟩) ns.length cv) (q) m) (.val 0 (.val 1 (.val 2 (.val 3 (.val 4 (.val 5 (.val 6 (.one 7 .done)))))))) (by kernel_rfl) (by kernel_rfl) HK10.out ?_
        repeat (first
          | (refine Sch.tn_q rfl rfl rfl (fun K hK => ?_); go_big_quiet_op; (first | refine hK _ ?_ | refine ⟨_, fun _ _ => rfl, hK _ ?_⟩); clear hK K)
          | (refine Sch.tn_chk _ _ _ rfl rfl rfl rfl rfl ?_; simp only [Act.put, List.setIfInBounds_toArray, List.set_cons_zero, List.set_cons_succ])
          | (refine Sch.tn_load _ _ _ _ _ rfl rfl rfl rfl (by first | exact Ge.ls | exact Ge.lm) rfl ?_; simp only [Act.put, List.setIfInBounds_toArray, List.set_cons_zero, List.set_cons_succ]))
        generalize w9.drew = w10 at *
        have HGB11 := putAt_gb w10 g (k * 6) m
        have HX11 : Hid (Gm (putAt w10 g (k * 6) m) base G b (N + 1) (.slice (some ⟨g, 0, none⟩) ns.length cv) (ns.set k m)) := ⟨HG9.out.g.gb HGB11 (by have := HG9.out.g.far HG9.out.o; simp [Value.ownBlock] at this; simp; omega), (HIx2.out ▸ (HG9.out.m.kept HGB11 (by have := HG9.out.m.far HG9.out.o; simp [Value.ownBlock] at this; simp; omega)).mono (Nat.le_succ N)), HG9.out.o.put HLk.out m, HG9.out.bG, HG9.out.bb⟩
        have HK11 : Hid (Ge G b (.slice (some ⟨g, 0, none⟩) ns.length cv) (q) m (putAt w10 g (k * 6) m)) := ⟨HX11.out.g, nb_gb HK10.out.2 HGB11 (by have := HGl.out; have := HQw.out; omega)⟩
        have HB11 : Hid (Below base w (putAt w10 g (k * 6) m)) := putAt_below HB9.out HGl.out.1 _ _
        have HS11 : Hid (w.heap.size ≤ (putAt w10 g (k * 6) m).heap.size) := Nat.le_trans (Nat.le_of_lt HS9.out) HGB11.size
        obtain ⟨y0, y1, y2, y3, y4, y5⟩ := HG9.out.o.na k HLk.out
        obtain ⟨s, hs⟩ : ∃ s, s = ns[k]'HLk.out := ⟨_, rfl⟩
        rw [← hs] at y0 y1 y2 y3 y4 y5
        clear hs
        have f0 := HG9.out.o.free (k * 6)
        have f1 := HG9.out.o.free (k * 6 + 1)
        have f2 := HG9.out.o.free (k * 6 + 2)
        have f3 := HG9.out.o.free (k * 6 + 3)
        have f4 := HG9.out.o.free (k * 6 + 4)
        have f5 := HG9.out.o.free (k * 6 + 5)
        replace HOt := Lib.hid (HOt.out.own HG9.out.o HGB11)
        clear HGB11
        refine Sch.tn_e rfl rfl (fun K hK => ?_)
        go_wp2_with fail
        refine hK _ (putAt w10 g (k * 6) m) HK11.out ?_
        clear hK K y0 y1 y2 y3 y4 y5 f0 f1 f2 f3 f4 f5
        generalize putAt w10 g (k * 6) m = w11 at *
        refine Sch.tn_n ?_
        go_wp2_with fail
        go_ret
        exact ⟨0, rfl, HS11.out, HB11.out, HOt.out, .inl ⟨rfl, _, _, HX11.out, HGn.out⟩⟩
      · have HBa := Lib.hid hbad
        clear hbad HE HIx
        go_wp2_with fail
        go_ret
        exact ⟨15, rfl, Nat.le_of_lt HS9.out, HB9.out, HOt.out, .inr ⟨rfl, HBa.out⟩⟩
    · skip
      have HZ := Lib.hid (Zb.new w3)
      have hbz := bel_box w3 (.cells #[.int .i64 0, .int .i64 0, .int .i64 0, .int .i64 0, .int .i64 0, .int .i32 0] 44)
      replace HK6 := Lib.hid (HK6.out.keep hbz)
      replace HG := Lib.hid (HG.out.keep hbz)
      have HQw : Hid (w.heap.size < w3.heap.size) := HS.out
      replace HB : Hid (Below base w (w3.alloc (.cells #[.int .i64 0, .int .i64 0, .int .i64 0, .int .i64 0, .int .i64 0, .int .i32 0] 44))) := HB.out.alloc (Nat.le_trans HBs.out (Nat.le_of_lt HS.out)) _
      replace HS : Hid (w.heap.size < (w3.alloc (.cells #[.int .i64 0, .int .i64 0, .int .i64 0, .int .i64 0, .int .i64 0, .int .i32 0] 44)).heap.size) := Nat.lt_of_lt_of_le HS.out hbz.size
      replace HOt := Lib.hid (HOt.out.bel hbz)
      clear hbz
      refine Sch.tn_e rfl rfl (fun K hK => ?_)
      go_wp2_with fail
      refine hK _ _ HK6.out ?_
      clear hK K
      generalize (w3.alloc (.cells #[.int .i64 0, .int .i64 0, .int .i64 0, .int .i64 0, .int .i64 0, .int .i32 0] 44)) = w5 at *
      generalize w3.heap.size = q at *
      refine Sch.tn_e rfl rfl (fun K hK => ?_)
      go_wp2_with fail
      refine (HMg.out _).mono ?_
      rintro e w4 ⟨rfl, hb⟩
      replace HK6 := Lib.hid (HK6.out.keep hb)
      replace HG := Lib.hid (HG.out.keep hb)
      replace HZ := Lib.hid (HZ.out.keep hb)
      have hs4 := hb.size
      replace HOt := Lib.hid (HOt.out.bel hb)
      replace HB : Hid (Below base w w4) := HB.out.trans (hb.mono (Nat.le_trans HBs.out (Nat.le_of_lt HS.out)))
      replace HS : Hid (w.heap.size < w4.heap.size) := Nat.lt_of_lt_of_le HS.out hs4
      clear hb hs4
      refine hK _ _ HK6.out ?_
      clear hK K
      repeat (first
        | (refine Sch.tn_q rfl rfl rfl (fun K hK => ?_); go_big_quiet_op; (first | refine hK _ ?_ | refine ⟨_, fun _ _ => rfl, hK _ ?_⟩); clear hK K)
        | (refine Sch.tn_chk _ _ _ rfl rfl rfl rfl rfl ?_; simp only [Act.put, List.setIfInBounds_toArray, List.set_cons_zero, List.set_cons_succ]))
      have HQ9 : Hid (Nb (Nd.putN (w4) q M.1) q M.1) := put_nb HZ.out M.1
      have HGB9 := gb_putN (w4) q M.1
      have HG9 : Hid (Gm (Nd.putN (w4) q M.1) base G b N (.slice (some ⟨g, 0, none⟩) ns.length cv) ns) := ⟨HG.out.g.gb HGB9 (by have := HG1.out; have := HQw.out; simp; omega), HG.out.m.kept HGB9 (by have := HB1.out; have := HQw.out; simp; omega), HG.out.o.keep HGB9 (.inr (by have := HGl.out; have := HQw.out; simp [Value.ownBlock]; omega)), HG.out.bG, HG.out.bb⟩
      have HK9 : Hid (Gc w.heap.size G b g (k * 6) n r (.slice (some ⟨g, 0, none⟩) ns.length cv) (Nd.putN (w4) q M.1)) := ⟨⟨nb_gb HK6.out.1.1 HGB9 (by have := HQw.out; omega), HG9.out.g⟩, by rw [HR.out]; exact HG9.out.o.na k HLk.out⟩
      have HB9 : Hid (Below base w (Nd.putN (w4) q M.1)) := Nd.putN_below HB.out (by have := HBs.out; have := HQw.out; omega) _
      have HS9 : Hid (w.heap.size < (Nd.putN (w4) q M.1).heap.size) := Nat.lt_of_lt_of_le HS.out HGB9.size
      replace HOt := Lib.hid (HOt.out.new (Nat.le_of_lt HQw.out) HGB9)
      obtain ⟨⟨z0, z1, z2, z3, z4, z5⟩, hf⟩ := HZ.out
      have f0 := hf 0
      have f1 := hf 1
      have f2 := hf 2
      have f3 := hf 3
      have f4 := hf 4
      have f5 := hf 5
      clear hf HGB9 HK6 HG HB HS
      refine Sch.tn_e rfl rfl (fun K hK => ?_)
      go_wp2_with fail
      refine hK _ (Nd.putN (w4) q M.1) HK9.out ?_
      clear hK K z0 z1 z2 z3 z4 z5 f0 f1 f2 f3 f4 f5 HZ
      generalize Nd.putN (w4) q M.1 = w9 at *
      repeat (first
        | (refine Sch.tn_q rfl rfl rfl (fun K hK => ?_); go_big_quiet_op; (first | refine hK _ ?_ | refine ⟨_, fun _ _ => rfl, hK _ ?_⟩); clear hK K)
        | (refine Sch.tn_chk _ _ _ rfl rfl rfl rfl rfl ?_; simp only [Act.put, List.setIfInBounds_toArray, List.set_cons_zero, List.set_cons_succ]))
      refine Sch.tn_n ?_
      have HE : Hid ((M.2 = 0 ∧ Gd (ns.set k M.1) (pre ++ [n]) ∧ M.1.1 = r.1) ∨ (M.2 = 15 ∧ ¬ agAll (pre ++ [n]))) := by
        by_cases h : M.2 = 0
        · exact .inl ⟨h, HOl.out h⟩
        · exact .inr (HBd.out h)
      have HIx : Hid (M.1.1 = r.1 → idxG (ns.set k M.1) = idxG ns) := HIs.out _
      clear HOl HBd HIs HMg
      generalize M.2 = z at *
      generalize M.1 = m at *
      obtain ⟨rfl, hgn, hm1⟩ | ⟨rfl, hbad⟩ := HE.out
      · have HGn := Lib.hid hgn
        have HIx2 := Lib.hid (HIx.out hm1)
        clear hgn hm1 HE HIx
        go_wp2_with fail
        have hd := (Below.refl w9.heap.size w9).drew
        have HK10 : Hid (Ge G b (.slice (some ⟨g, 0, none⟩) ns.length cv) (q) m w9.drew) := ⟨HG9.out.g.keep hd, HQ9.out.keep hd⟩
        replace HG9 := Lib.hid (HG9.out.keep hd)
        replace HB9 := Lib.hid HB9.out.drew
        replace HS9 : Hid (w.heap.size < w9.drew.heap.size) := HS9.out
        replace HOt := Lib.hid (HOt.out.bel hd)
        clear hd HK9 HQ9
        refine Sch.wp_region_tn (Ge G b (.slice (some ⟨g, 0, none⟩) ns.length cv) (q) m) (.val 0 (.val 1 (.val 2 (.val 3 (.val 4 (.val 5 (.val 6 (.one 7 .done)))))))) (by kernel_rfl) (by kernel_rfl) HK10.out ?_
        repeat (first
          | (refine Sch.tn_q rfl rfl rfl (fun K hK => ?_); go_big_quiet_op; (first | refine hK _ ?_ | refine ⟨_, fun _ _ => rfl, hK _ ?_⟩); clear hK K)
          | (refine Sch.tn_chk _ _ _ rfl rfl rfl rfl rfl ?_; simp only [Act.put, List.setIfInBounds_toArray, List.set_cons_zero, List.set_cons_succ])
          | (refine Sch.tn_load _ _ _ _ _ rfl rfl rfl rfl (by first | exact Ge.ls | exact Ge.lm) rfl ?_; simp only [Act.put, List.setIfInBounds_toArray, List.set_cons_zero, List.set_cons_succ]))
        generalize w9.drew = w10 at *
        have HGB11 := putAt_gb w10 g (k * 6) m
        have HX11 : Hid (Gm (putAt w10 g (k * 6) m) base G b (N + 1) (.slice (some ⟨g, 0, none⟩) ns.length cv) (ns.set k m)) := ⟨HG9.out.g.gb HGB11 (by have := HG9.out.g.far HG9.out.o; simp [Value.ownBlock] at this; simp; omega), (HIx2.out ▸ (HG9.out.m.kept HGB11 (by have := HG9.out.m.far HG9.out.o; simp [Value.ownBlock] at this; simp; omega)).mono (Nat.le_succ N)), HG9.out.o.put HLk.out m, HG9.out.bG, HG9.out.bb⟩
        have HK11 : Hid (Ge G b (.slice (some ⟨g, 0, none⟩) ns.length cv) (q) m (putAt w10 g (k * 6) m)) := ⟨HX11.out.g, nb_gb HK10.out.2 HGB11 (by have := HGl.out; have := HQw.out; omega)⟩
        have HB11 : Hid (Below base w (putAt w10 g (k * 6) m)) := putAt_below HB9.out HGl.out.1 _ _
        have HS11 : Hid (w.heap.size ≤ (putAt w10 g (k * 6) m).heap.size) := Nat.le_trans (Nat.le_of_lt HS9.out) HGB11.size
        obtain ⟨y0, y1, y2, y3, y4, y5⟩ := HG9.out.o.na k HLk.out
        obtain ⟨s, hs⟩ : ∃ s, s = ns[k]'HLk.out := ⟨_, rfl⟩
        rw [← hs] at y0 y1 y2 y3 y4 y5
        clear hs
        have f0 := HG9.out.o.free (k * 6)
        have f1 := HG9.out.o.free (k * 6 + 1)
        have f2 := HG9.out.o.free (k * 6 + 2)
        have f3 := HG9.out.o.free (k * 6 + 3)
        have f4 := HG9.out.o.free (k * 6 + 4)
        have f5 := HG9.out.o.free (k * 6 + 5)
        replace HOt := Lib.hid (HOt.out.own HG9.out.o HGB11)
        clear HGB11
        refine Sch.tn_e rfl rfl (fun K hK => ?_)
        go_wp2_with fail
        refine hK _ (putAt w10 g (k * 6) m) HK11.out ?_
        clear hK K y0 y1 y2 y3 y4 y5 f0 f1 f2 f3 f4 f5
        generalize putAt w10 g (k * 6) m = w11 at *
        refine Sch.tn_n ?_
        go_wp2_with fail
        go_ret
        exact ⟨0, rfl, HS11.out, HB11.out, HOt.out, .inl ⟨rfl, _, _, HX11.out, HGn.out⟩⟩
      · have HBa := Lib.hid hbad
        clear hbad HE HIx
        go_wp2_with fail
        go_ret
        exact ⟨15, rfl, Nat.le_of_lt HS9.out, HB9.out, HOt.out, .inr ⟨rfl, HBa.out⟩⟩
end Go.Proofs.Ytmdebedkljpagaa.Qs
end

/-
  Of of the program.
-/
section
namespace Go.Proofs.Ytmdebedkljpagaa.Qs
set_option linter.unusedVariables false
open Go.RowKit V Go.Sort D Nd

/-- The two sides' names, in memory. -/
def Bs (w : World) (B : Nat) : Prop := w.heap[B]? = some (.cells #[.bool false, .bool true] 4 (0, 0))
/-- Between two rounds: what was gathered from pre. -/
structure Of1 (w0 wr : World) (G b B : Nat) (pre : List Nt) : Prop where
  bl : Below w0.heap.size w0 wr
  st : ∃ v ns, Gm wr w0.heap.size G b pre.length v ns ∧ Gd ns pre
  bs : Bs wr B
theorem Bs.keep {w w' : World} {B : Nat} (h : Bs w B) (hb : Below w.heap.size w w') : Bs w' B := (hb.block B (Array.getElem?_eq_some_iff.1 h).1).trans h
theorem Bs.oth {w w' : World} {B : Nat} (h : Bs w B) (ho : Oth w w') : Bs w' B := (ho B _ _ h (by decide) (by decide)).trans h
theorem Bs.c {w : World} {B : Nat} (h : Bs w B) : w.cell? ⟨B, 0, none⟩ = some (.bool false) ∧ w.cell? ⟨B, 1, none⟩ = some (.bool true) := by
  unfold Bs at h
  constructor <;> simp [World.cell?, h]
theorem Of1.keep {w0 w w' : World} {G b B : Nat} {pre : List Nt} (h : Of1 w0 w G b B pre) (hb : Below w.heap.size w w') : Of1 w0 w' G b B pre := by
  obtain ⟨v, ns, h1, h2⟩ := h.st
  exact ⟨h.bl.trans (hb.mono h.bl.size), ⟨v, ns, h1.keep hb, h2⟩, h.bs.keep hb⟩
def at2 (j : Nat) : Bool := decide (j = 1)
theorem bs_at {w : World} {B j : Nat} (h : Bs w B) (hj : j < 2) : w.cell? ⟨B, j, none⟩ = some (.bool (at2 j)) := by
  match j, hj with
  | 0, _ => exact h.c.1
  | 1, _ => exact h.c.2
/-- What was gathered ahead of side j. -/
def preJ (l : List Nt) (j : Nat) : List Nt := if j = 0 then [] else if j = 1 then preS l true 0 else preS l true l.length
theorem preJ_in {l : List Nt} {j : Nat} (hj : j < 2) : preJ l j = preS l (at2 j) 0 := by
  match j, hj with
  | 0, _ => rfl
  | 1, _ => rfl
theorem preJ_out {l : List Nt} {j : Nat} (hj : j < 2) : preS l (at2 j) l.length = preJ l (j + 1) := by
  match j, hj with
  | 0, _ => exact (pre_1 l).symm
  | 1, _ => rfl

set_option maxRecDepth 100000 in
set_option maxHeartbeats 4000000 in
theorem of_prog (l : List Nt) (a : Option Addr) (c : Nat) (w : World) (hf : ∀ x ∈ l, fitN x) (hx : RowN w a l) (hlx : l.length ≤ 100000) :
    Calls Try.prog 46 #[.slice a l.length c] w fun e w' => ∃ v, e = .returned (.tuple #[v, .int .i64 (ofN l).2]) ∧ ON w' w.heap.size E v (ofN l).1 ∧ Below w.heap.size w w' := by
  have HD := Lib.hid (fun w h => containsF l a c 54 #[] (fun d => !validN d) w enters_noNode (ask_noNode w l) h (by omega))
  rw [any_validN] at HD
  have HA : Hid ((l.all validN = true → ∀ x ∈ l, validN x = true) ∧ (l.all validN = false → ofN l = ([], 2))) := ⟨fun h => List.all_eq_true.1 h, fun h => by unfold ofN; rw [if_neg (by rw [h]; simp)]⟩
  have HX := Lib.hid hx
  have HF := Lib.hid hf
  have HL := Lib.hid hlx
  have hli : (l.length : Int) ≤ 100000 := by omega
  have hmk := run_mk l.length
  clear hf hx hlx
  generalize l.all validN = va at *
  go_enter Try.func46, Try.ntmps46
  go_wp2_with fail
  refine (HD.out _ HX.out).mono ?_
  rintro e w2 ⟨rfl, hb⟩
  have HB := Lib.hid hb
  clear hb
  rcases va with _ | _
  · have HE := Lib.hid (HA.out.2 (by first | trivial | rfl))
    go_wp2_with fail
    go_ret2
    rw [HE.out]
    exact ⟨_, rfl, ON.nil _ _ _, HB.out⟩
  · have HVa := Lib.hid (HA.out.1 (by first | trivial | rfl))
    clear HA
    have hm0 : Dm elInt (w2.alloc (.map #[] 0)) w2.heap.size 0 (idxG []) := Dm.made w2
    have hb1 := bel_box (w2.alloc (.map #[] 0)) (.cells #[.slice none 0 0, .map (some w2.heap.size)] TG)
    have hb2 := bel_box ((w2.alloc (.map #[] 0)).alloc (.cells #[.slice none 0 0, .map (some w2.heap.size)] TG)) (.cells #[.bool false, .bool true] 4)
    have HO1 : Hid (Of1 w (((w2.alloc (.map #[] 0)).alloc (.cells #[.slice none 0 0, .map (some w2.heap.size)] TG)).alloc (.cells #[.bool false, .bool true] 4)) (w2.heap.size + 1) w2.heap.size (w2.heap.size + 2) (preJ l 0)) := by
      have hg := Gt.new (w2.alloc (.map #[] 0)) (.slice none 0 0) w2.heap.size
      rw [show (w2.alloc (.map #[] 0)).heap.size = w2.heap.size + 1 by simp] at hg
      have hs := HB.out.size
      refine ⟨(((HB.out.alloc hs _).alloc (by simp; omega) _).alloc (by simp; omega) _), ⟨.slice none 0 0, [], ⟨hg.keep hb2, (hm0.keep hb1).keep hb2, ON.nil _ _ _, by omega, hs⟩, gd_nil⟩, ?_⟩
      have h3 := heap_alloc_new ((w2.alloc (.map #[] 0)).alloc (.cells #[.slice none 0 0, .map (some w2.heap.size)] TG)) (.cells #[.bool false, .bool true] 4)
      rw [show ((w2.alloc (.map #[] 0)).alloc (.cells #[.slice none 0 0, .map (some w2.heap.size)] TG)).heap.size = w2.heap.size + 2 by simp] at h3
      exact h3
    clear hm0 hb1 hb2
    go_wp2_with fail
    go_loopw [6, 8, 9, 18, 22, 23, 24] (fun _ _ _ i _ _ _ wr => ∃ j : Nat, j ≤ 2 ∧ i = .int .i64 (j : Int) ∧ Hid (Of1 w wr (w2.heap.size + 1) w2.heap.size (w2.heap.size + 2) (preJ l j))) (fun _ _ _ i _ _ _ _ => 2 - (intOf i).toNat)
    case atStart => exact ⟨0, by omega, rfl, HO1⟩
    case round =>
      obtain ⟨j, hj, rfl, HO⟩ := hrel
      by_cases hlt : j < 2
      · have hi0 : (j : Int) < 2 := by omega
        have x0 := bs_at HO.out.bs hlt
        rw [preJ_in hlt] at HO
        have HJ := Lib.hid (preJ_out (l := l) hlt)
        generalize at2 j = bj at *
        go_wp2_with fail
        go_loopw [8, 9, 24] (fun _ _ i wr => ∃ k : Nat, k ≤ l.length ∧ i = .int .i64 (k : Int) ∧ Hid (Of1 w wr (w2.heap.size + 1) w2.heap.size (w2.heap.size + 2) (preS l bj k))) (fun _ _ i _ => l.length - (intOf i).toNat)
        case atStart => exact ⟨0, by omega, rfl, HO⟩
        case round =>
          obtain ⟨k, hk, rfl, HO⟩ := hrel
          by_cases hkl : k < l.length
          · have hi1 : (k : Int) < (l.length : Int) := by omega
            obtain ⟨b1, o1, rfl, hna⟩ := na_of (HX.out.keep HO.out.bl) k hkl
            have HVq := Lib.hid (HVa.out l[k] (List.getElem_mem hkl))
            have HFq := Lib.hid (HF.out l[k] (List.getElem_mem hkl)).1
            have HSt := Lib.hid (pre_step (l := l) (b := bj) hkl)
            obtain ⟨q, hq⟩ : ∃ q, q = l[k] := ⟨_, rfl⟩
            rw [← hq] at hna HVq HFq HSt
            clear hq
            have HOb := Lib.hid (HO.out.keep (bel_box wr (.cells (nc q) 44)))
            have HDd := Lib.hid (fun w => dead_any q w)
            have HLf : Hid (deadN q = bj → Lf (preS l bj k) q) := pre_lf
            have HPl := Lib.hid (pre_len l bj k)
            have hbx := Nb.new wr q
            generalize deadN q = dq at *
            obtain ⟨n0, n1, n2, n3, n4, n5⟩ := hna
            obtain ⟨⟨q1, q2⟩, ⟨q3, q4⟩, q5, q6⟩ := q
            go_wp2_with fail
            refine (HDd.out _).mono ?_
            rintro e w4 ⟨rfl, hl⟩
            have hb := hl.bel
            clear hl n0 n1 n2 n3 n4 n5
            replace HOb := Lib.hid (HOb.out.keep hb)
            obtain ⟨n0, n1, n2, n3, n4, n5⟩ := hbx.keep hb
            clear hb hbx HDd
            by_cases hdq : dq = bj
            · subst hdq
              have HLg := Lib.hid (HLf.out rfl)
              have HSt2 : Hid (preS l dq (k + 1) = preS l dq k ++ [((q1, q2), (q3, q4), q5, q6)]) := by show _ = _; rw [HSt.out, if_pos rfl]
              have hne : (dq != dq) = false := by simp
              obtain ⟨v, ns, hgm, hgd⟩ := HOb.out.st
              have HC := Lib.hid (add_any w4 w.heap.size (w2.heap.size + 1) w2.heap.size _ v ns (preS l dq k) ((q1, q2), (q3, q4), q5, q6) hgm (by have := HPl.out; have := HL.out; omega) (by have := hgd.len; have := HPl.out; have := HL.out; omega) HOb.out.bl.size hgd HVq.out HFq.out HLg.out)
              clear hgm hgd HSt HLf
              go_wp2_with fail
              refine HC.out.mono ?_
              rintro e w5 ⟨z, rfl, -, hbl, hot, hz⟩
              have HB5 := Lib.hid (HOb.out.bl.trans hbl)
              have HBs := Lib.hid (HOb.out.bs.oth hot)
              clear hbl hot HC
              obtain ⟨rfl, v', ns', hgm, hgd⟩ | ⟨rfl, hbad⟩ := hz
              · have HO5 : Hid (Of1 w w5 (w2.heap.size + 1) w2.heap.size (w2.heap.size + 2) (preS l dq (k + 1))) := by
                  rw [HSt2.out]
                  exact ⟨HB5.out, ⟨v', ns', by rw [List.length_append]; exact hgm, hgd⟩, HBs.out⟩
                clear hgm hgd
                go_wp2_with fail
                go_roundw
                case rel => exact ⟨k + 1, by omega, by go_num, HO5⟩
                case measure => simp [intOf]; omega
              · have HE : Hid (ofN l = ([], 15)) := of_clash HVa.out (fun x hx => pre_sub (b := dq) (k := k + 1) (by rw [HSt2.out]; exact hx)) hbad
                clear hbad
                go_wp2_with fail
                go_ret2
                rw [HE.out]
                exact ⟨_, rfl, ON.nil _ _ _, HB5.out⟩
            · have hne : (dq == bj) = false := by revert hdq; cases dq <;> cases bj <;> simp
              have HSt2 : Hid (preS l bj (k + 1) = preS l bj k) := by show _ = _; rw [HSt.out, if_neg hdq]
              rw [← HSt2.out] at HOb
              clear hdq HSt HLf
              go_wp2_with fail
              go_roundw
              case rel => exact ⟨k + 1, by omega, by go_num, HOb⟩
              case measure => simp [intOf]; omega
          · obtain rfl : k = l.length := by omega
            have hend : ¬ (l.length : Int) < (l.length : Int) := by omega
            rw [HJ.out] at HO
            go_wp2_with fail
            go_roundw
            case rel => exact ⟨j + 1, by omega, by go_num, HO⟩
            case measure => simp [intOf]; omega
      · obtain rfl : j = 2 := by omega
        obtain ⟨v, ns, hgm, hgd⟩ := HO.out.st
        have hgd2 : Gd ns (preS l true l.length) := hgd
        have HDn := Lib.hid (fun m h1 h2 => of_done (m := m) hgd2 h1 h2)
        have HNs : Hid (ns.length ≤ 1000000) := by
          have h1 := hgd2.len
          have h2 := pre_len l true l.length
          have h3 := HL.out
          show _ ≤ _
          omega
        obtain ⟨A, cv, rfl, hr, hn, hcv, hA⟩ := hgm.o.row
        have x0 := hgm.g.c0
        have HGt := Lib.hid hgm.g
        have HOn := Lib.hid hgm.o
        have HBl := Lib.hid HO.out.bl
        clear hgd hgd2 hgm
        rcases A with _ | x
        · obtain ⟨rfl, rfl⟩ := hn rfl
          have HE := Lib.hid (HDn.out [] (List.Perm.refl _) List.Pairwise.nil)
          have HSo := Lib.hid (fun fv w => sort_none 0 fv w)
          clear hr hn hcv hA HDn
          go_wp2_with fail
          refine (HSo.out _ _).mono ?_
          rintro e w5 ⟨rfl, rfl⟩
          go_wp2_with fail
          go_ret2
          rw [HE.out]
          exact ⟨_, rfl, HOn.out, HBl.out⟩
        · obtain ⟨g, rfl⟩ : ∃ g, x = ⟨g, 0, none⟩ := ⟨x.block, (hA x rfl).1⟩
          have HSo := Lib.hid (sort_any g ns cv w.heap.size wr HOn.out HBl.out.size HNs.out)
          have HGl := Lib.hid (hA _ rfl).2.2.1
          have HFa := Lib.hid (HGt.out.far HOn.out)
          clear hr hn hcv hA
          go_wp2_with fail
          refine HSo.out.mono ?_
          rintro e w5 ⟨rfl, m, hp, hw, ho, hg⟩
          have HE := Lib.hid (HDn.out m hp hw)
          have HO5 := Lib.hid ho
          have HB5 := Lib.hid (below_gb HBl.out hg HBl.out.size HGl.out)
          have HG5 := Lib.hid (HGt.out.gb hg (fun e => HFa.out e.symm))
          have y0 := HG5.out.c0
          clear hp hw ho hg x0 HDn HSo
          go_wp2_with fail
          go_ret2
          rw [HE.out]
          exact ⟨_, rfl, HO5.out, HB5.out⟩
end Go.Proofs.Ytmdebedkljpagaa.Qs
end
