/-
  The reference's map: Delete.
-/
import Derived.Test.YtmmcnpcijeahcaaJRef3
namespace Go.Proofs.Ytmmcnpcijeahcaa.J
set_option linter.unusedVariables false
open Go.RowKit V Go.Shelf
attribute [local irreducible] Sch.heldN Sch.stepV Sch.stepE

/-- Block b holds a map of the reference, and nothing else. -/
def Mb (w : World) (b : Nat) (d : Bool) (v : Value) : Prop := w.heap[b]? = some (.cells #[.bool d, v] 29 (0, 0))
section
variable {w w' : World} {b : Nat} {d : Bool} {v : Value}
theorem Mb.lt (h : Mb w b d v) : b < w.heap.size := (Array.getElem?_eq_some_iff.1 h).1
theorem Mb.c0 (h : Mb w b d v) : w.cell? ⟨b, 0, none⟩ = some (.bool d) := by unfold Mb at h; simp [World.cell?, h]
theorem Mb.c1 (h : Mb w b d v) : w.cell? ⟨b, 1, none⟩ = some v := by unfold Mb at h; simp [World.cell?, h]
theorem Mb.free (h : Mb w b d v) (o : Nat) : w.frozen? ⟨b, o, none⟩ = false := by unfold Mb at h; simp [World.frozen?, h]
theorem Mb.keep (h : Mb w b d v) (hb : Below w.heap.size w w') : Mb w' b d v := (hb.block b h.lt).trans h
theorem Mb.gb {g : Option Nat} (h : Mb w b d v) (hg : w.grownBy w' g) (hne : some b ≠ g) : Mb w' b d v := (hg.block b h.lt hne).trans h
theorem Mb.set1 (h : Mb w b d v) (u : Value) : Mb (w.setCell ⟨b, 1, none⟩ u) b d u := by
  unfold Mb at *
  simp [World.setCell, Array.getElem?_modify, h]
theorem Mb.put (h : Mb w b d v) (e : Bool) (u : Value) : Mb ((w.setCell ⟨b, 0, none⟩ (.bool e)).setCell ⟨b, 1, none⟩ u) b e u := by
  unfold Mb at *
  simp [World.setCell, Array.getElem?_modify, h]
end
theorem mb_new (w : World) (d : Bool) (v : Value) : Mb (w.alloc (.cells #[.bool d, v] 29)) w.heap.size d v := by
  show (w.heap.push _)[w.heap.size]? = _
  simp
theorem ret_map {fid : Func} {p : Nat} {w : World} {b : Nat} {d : Bool} {a : Option Addr} {n c : Nat} (hf : fid.results = #[.cell p 29]) (h : Mb w b d (.slice a n c)) {tmps : Array Value} (h4 : tmps.getD p undef = .pointer (some ⟨b, 0, none⟩)) :
    (results fid tmps).run Try.prog w = .ok (mv d a n c) w := by
  have k0 := h.c0
  have k1 := h.c1
  rw [results_cell1 hf, h4]
  go_simp
/-- A box of a map, and a pair of its row. -/
def Rd (w : World) (B : Nat) (d : Bool) (a : Option Addr) (n c b o : Nat) (x : Pr) : Prop := Rb w B d a n c ∧ w.cell? ⟨b, o, none⟩ = some (.int .i64 x.1) ∧ w.cell? ⟨b, o + 1, none⟩ = some (.string x.2)
section
variable {w w' : World} {B n c b o : Nat} {d : Bool} {a : Option Addr} {x : Pr}
theorem Rd.keep (h : Rd w B d a n c b o x) (hb : Below w.heap.size w w') : Rd w' B d a n c b o x := ⟨h.1.keep hb, keep_cell h.2.1 hb, keep_cell h.2.2 hb⟩
theorem cell_gb {v : Value} {g : Option Nat} (h : w.cell? ⟨b, o, none⟩ = some v) (hg : w.grownBy w' g) (hne : some b ≠ g) : w'.cell? ⟨b, o, none⟩ = some v := (World.cell?_of_block (w := w) (hg.block b (lt_of_cell h) hne)).trans h
theorem Rb.gbo {g : Option Nat} (h : Rb w B d a n c) (hg : w.grownBy w' g) (hne : some B ≠ g) : Rb w' B d a n c := ⟨cell_gb h.1 hg hne, cell_gb h.2 hg hne⟩
theorem Rd.gbo {g : Option Nat} (h : Rd w B d a n c b o x) (hg : w.grownBy w' g) (h1 : some B ≠ g) (h2 : some b ≠ g) : Rd w' B d a n c b o x := ⟨h.1.gbo hg h1, cell_gb h.2.1 hg h2, cell_gb h.2.2 hg h2⟩
theorem load_at {v : Pr} (h : w.cell? ⟨b, o, none⟩ = some (.int .i64 v.1)) (h' : w.cell? ⟨b, o + 1, none⟩ = some (.string v.2)) : (Instr.loadAt E (.pointer (some ⟨b, o, none⟩))).run Try.prog w = .ok (pv v) w := by
  go_simp
end
theorem wp_appP {P : Program} {w : World} {x : Oper} {a : Act} {K : Act → World → Prop} {Q : Exit → Act → World → Prop} (s y : Operand) (T : TypeId)
    (ho : x.op = .call { callee := .builtin .append, args := #[s, y], argTypes := #[T, T] })
    {base : Nat} {E : TypeId} (hT : P.underlying T = some (.slice E)) (hinfo : (P.info? E).map (fun i => (i.zero, i.size, i.bytes)) = some (some (.agg #[.int .i64 0, .string ⟨#[]⟩]), 2, 24))
    (v : Value) (l : List Pr) (hs : a.eval s = v) (h : OP w base E v l) (ad : Option Addr) (m : List Pr) (c : Nat) (hx : a.eval y = .slice ad m.length c) (hrow : RowP w ad m) (hnil : ad = none → c = 0)
    (hlen : l.length + m.length ≤ 4398046511104) (hbase : base ≤ w.heap.size)
    (hk : ∀ v' w', OP w' base E v' (l ++ m) → w.grownBy w' v.ownBlock → K (a.put x.dst v') w') : x.wp P a w K Q := by
  obtain ⟨v', w', hr, h2, h3, h4⟩ := run_appP hT hinfo h x.type ad m c hrow hnil hlen hbase
  unfold Oper.wp execOp
  simp only [ho, resolve, invoke, builtin, Sem.run_bind, Sem.run_pure, Result.andThen_ok, List.map_toArray, List.map_cons, List.map_nil, hs, hx, hr]
  exact hk _ _ h2 h3
theorem delR_take {L : List Pr} {k : Int} {q : Nat} (hq : q < L.length) : delR (L.take (q + 1)) k = delR (L.take q) k ++ (if L[q].1 = k then [] else [L[q]]) := by
  unfold delR
  rw [List.take_succ_eq_append_getElem hq, List.filter_append]
  congr 1
  by_cases h : L[q].1 = k <;> simp [h]

set_option maxRecDepth 100000 in
set_option maxHeartbeats 2000000 in
theorem delete_ref (d : Bool) (L : List Pr) (a : Option Addr) (c : Nat) (k : Int) (w : World) (hx : RowP w a L) (hl : L.length ≤ 1000000) :
    Calls Try.prog 15 #[mv d a L.length c, .int .i64 k] w fun e w' => ∃ v, e = .returned (.agg #[.bool d, v]) ∧ OP w' w.heap.size E v (delR L k) ∧ Below w.heap.size w w' := by
  have HX := Lib.hid hx
  have hli : (L.length : Int) ≤ 1000000 := by omega
  have hb1 : Below w.heap.size w ((w.alloc (.cells #[.bool d, .slice a L.length c] 29)).alloc (.cells #[.bool false, .slice none 0 0] 29)) := (bel_box _ _).alloc (by simp) _
  have hr1 : Rb ((w.alloc (.cells #[.bool d, .slice a L.length c] 29)).alloc (.cells #[.bool false, .slice none 0 0] 29)) w.heap.size d a L.length c := ⟨by go_simp, by go_simp⟩
  have hm1 := mb_new (w.alloc (.cells #[.bool d, .slice a L.length c] 29)) false (.slice none 0 0)
  have hz1 : ((w.alloc (.cells #[.bool d, .slice a L.length c] 29)).alloc (.cells #[.bool false, .slice none 0 0] 29)).heap.size = w.heap.size + 2 := by simp
  rw [show (w.alloc (.cells #[.bool d, .slice a L.length c] 29)).heap.size = w.heap.size + 1 by simp] at hm1
  have hb2 := bel_box ((w.alloc (.cells #[.bool d, .slice a L.length c] 29)).alloc (.cells #[.bool false, .slice none 0 0] 29)) (.cells #[.bool d, .slice none 0 0] 29)
  have hm2 := mb_new ((w.alloc (.cells #[.bool d, .slice a L.length c] 29)).alloc (.cells #[.bool false, .slice none 0 0] 29)) d (.slice none 0 0)
  rw [hz1] at hm2
  have HB := Lib.hid (bel_tr hb1 hb2)
  have HR := Lib.hid (hr1.keep hb2)
  have HM1 := Lib.hid (hm1.keep hb2)
  have HM2 := Lib.hid hm2
  have hz2 : (((w.alloc (.cells #[.bool d, .slice a L.length c] 29)).alloc (.cells #[.bool false, .slice none 0 0] 29)).alloc (.cells #[.bool d, .slice none 0 0] 29)).heap.size = w.heap.size + 3 := by simp
  have HZ := Lib.hid (Nat.le_of_eq hz2.symm)
  have HO := Lib.hid (OP.nil (((w.alloc (.cells #[.bool d, .slice a L.length c] 29)).alloc (.cells #[.bool false, .slice none 0 0] 29)).alloc (.cells #[.bool d, .slice none 0 0] 29)) (w.heap.size + 3) E)
  clear hx hb1 hr1 hm1 hb2 hm2 hz1 hz2
  go_enter Try.func15, Try.ntmps15
  go_wp2_with fail
  generalize ((w.alloc (.cells #[.bool d, .slice a L.length c] 29)).alloc (.cells #[.bool false, .slice none 0 0] 29)).alloc (.cells #[.bool d, .slice none 0 0] 29) = w1 at *
  go_loopw [6] (fun j wr => ∃ q : Nat, ∃ v, q ≤ L.length ∧ j = .int .i64 q ∧ Hid (OP wr (w.heap.size + 3) E v (delR (L.take q) k)) ∧ Hid (Rb wr w.heap.size d a L.length c) ∧ Hid (Mb wr (w.heap.size + 1) false (.slice none 0 0)) ∧ Hid (Mb wr (w.heap.size + 2) d v) ∧ Hid (Below w.heap.size w wr)) (fun j _ => L.length - (intOf j).toNat)
  case atStart => exact ⟨0, _, by omega, rfl, HO, HR, HM1, HM2, HB⟩
  case round =>
    clear HO HR HM1 HM2 HB HZ
    obtain ⟨q, v, hq, rfl, HO, HR, HM1, HM2, HB⟩ := hrel
    have hq0 : (q : Int) ≤ 1000000 := by omega
    by_cases hlt : q < L.length
    · have hbw : ∀ b o, a = some ⟨b, o, none⟩ → b < w.heap.size := fun b o e => by
        obtain ⟨b', o', e', c0, -⟩ := HX.out.get (Below.refl _ _) q hlt
        rw [e] at e'
        simp only [Option.some.injEq, Addr.mk.injEq, and_true] at e'
        obtain ⟨rfl, rfl⟩ := e'
        exact lt_of_cell c0
      obtain ⟨b, o, rfl, c0, c1⟩ := (HX.out.keepB HB.out (Nat.le_refl _)).get (Below.refl _ _) q hlt
      have HBW := Lib.hid (hbw b o rfl)
      obtain ⟨p, hp⟩ : ∃ p, p = L[q] := ⟨_, rfl⟩
      have HD := Lib.hid (delR_take (k := k) hlt)
      rw [← hp] at c0 c1 HD
      clear hp hbw
      obtain ⟨p0, p1⟩ := p
      have hqi : (q : Int) < (L.length : Int) := by omega
      simp only at c0 c1
      have k0 := HR.out.1
      have k1 := HR.out.2
      by_cases he : p0 = k
      · subst he
        have HO1 : Hid (OP wr (w.heap.size + 3) E v (delR (L.take (q + 1)) p0)) := by
          have h := HD.out
          simp only [if_true, List.append_nil] at h
          show OP _ _ _ _ _
          rw [h]; exact HO.out
        clear HO
        go_wp2_with fail
        go_roundw
        case rel => exact ⟨q + 1, v, by omega, by go_num, HO1, HR, HM1, HM2, HB⟩
        case measure => simp [intOf]; omega
      · have he2 : (p0 != k) = true := by simpa using he
        have HO1 : Hid (∀ w' v', OP w' (w.heap.size + 3) E v' (delR (L.take q) k ++ [(p0, p1)]) → OP w' (w.heap.size + 3) E v' (delR (L.take (q + 1)) k)) := by
          intro w' v' h'
          have h := HD.out
          rw [if_neg he] at h
          rw [h]; exact h'
        have HLen : Hid ((delR (L.take q) k).length ≤ 1000000) := by
          have h1 := delR_len (L.take q) k
          rw [List.length_take] at h1
          show _ ≤ _
          omega
        generalize delR (L.take q) k = M at *
        have HS : Hid (Rd wr w.heap.size d (some ⟨b, o, none⟩) L.length c b (o + q * 2) (p0, p1)) := ⟨HR.out, c0, c1⟩
        go_wp2_with fail
        clear k0 k1 c0 c1 HR HD
        have hb0 : Below wr.heap.size wr wr.drew := (Below.refl _ _).drew
        replace HO := Lib.hid (HO.out.below hb0)
        replace HS := Lib.hid (HS.out.keep hb0)
        replace HM1 := Lib.hid (HM1.out.keep hb0)
        replace HM2 := Lib.hid (HM2.out.keep hb0)
        replace HB := Lib.hid (bel_tr HB.out hb0)
        clear hb0
        have A1 := Lib.hid (fun w' (h : Rd w' w.heap.size d (some ⟨b, o, none⟩) L.length c b (o + q * 2) (p0, p1)) => load_row (w := w') h.1.2)
        have A2 := Lib.hid (fun w' (h : Rd w' w.heap.size d (some ⟨b, o, none⟩) L.length c b (o + q * 2) (p0, p1)) => load_at (w := w') (v := (p0, p1)) h.2.1 h.2.2)
        refine Sch.wp_region_tn (fun w' => Rd w' w.heap.size d (some ⟨b, o, none⟩) L.length c b (o + q * 2) (p0, p1)) (.val 0 (.val 2 (.val 3 (.val 4 (.val 5 (.val 6 (.two 1 (.one 7 (.one 8 (.val 9 (.one 10 .done)))) 7 (.one 1 (.one 8 (.val 9 (.one 10 .done))))))))))) (by kernel_rfl) (by kernel_rfl) HS.out ?_
        repeat (first
          | (refine Sch.tn_q rfl rfl rfl (fun K hK => ?_); go_big_quiet_op; (first | refine hK _ ?_ | refine ⟨_, fun _ _ => rfl, hK _ ?_⟩); clear hK K)
          | (refine Sch.tn_chk _ _ _ rfl rfl rfl rfl rfl ?_; simp only [Act.put, List.setIfInBounds_toArray, List.set_cons_zero, List.set_cons_succ])
          | (refine Sch.tn_load _ _ _ _ _ rfl rfl rfl rfl (by first | exact A1.out | exact A2.out) rfl ?_; simp only [Act.put, List.setIfInBounds_toArray, List.set_cons_zero, List.set_cons_succ]))
        generalize wr.drew = w3 at *
        refine Sch.tn_two ?_ ?_
        · have m1 := HM2.out.c1
          refine Sch.tn_e rfl rfl (fun K hK => ?_)
          go_wp2_with fail
          refine hK _ _ HS.out ?_
          clear hK K
          clear m1
          refine Sch.tn_e rfl rfl (fun K hK => ?_)
          go_wp2_with fail
          have hb := bel_box w3 (.cells #[.int .i64 p0, .string p1] E)
          have HLit := Lib.hid (lit_one w3 (p0, p1) E)
          have HZ : Hid (w.heap.size + 3 ≤ w3.heap.size) := by have := HM2.out.lt; show _ ≤ _; omega
          replace HO := Lib.hid (HO.out.below hb)
          replace HS := Lib.hid (HS.out.keep hb)
          replace HM1 := Lib.hid (HM1.out.keep hb)
          replace HM2 := Lib.hid (HM2.out.keep hb)
          replace HB := Lib.hid (bel_tr HB.out hb)
          clear hb
          refine hK _ _ HS.out ?_
          clear hK K
          refine Sch.tn_e rfl rfl (fun K hK => ?_)
          refine wp_appP _ _ _ rfl Try.underlying27 infoP _ _ rfl HO.out (some ⟨w3.heap.size, 0, none⟩) [(p0, p1)] 1 rfl HLit.out (fun h => by cases h) (by have := HLen.out; simp only [List.length_cons, List.length_nil]; omega) (by have := HZ.out; simp; omega) ?_
          intro v5 w5 ho5 hg5
          have HOw := Lib.hid HO.out.lt
          have hne : ∀ x, x < w.heap.size + 3 → some x ≠ v.ownBlock := fun x hx e => by have := (HOw.out x e.symm).1; omega
          obtain ⟨a5, c5, rfl, -⟩ := ho5.row
          have HO5 := Lib.hid (HO1.out _ _ ho5)
          replace HS := Lib.hid (HS.out.gbo hg5 (hne _ (by omega)) (hne _ (by have := HBW.out; omega)))
          replace HM1 := Lib.hid (HM1.out.gb hg5 (hne _ (by omega)))
          replace HM2 := Lib.hid (HM2.out.gb hg5 (hne _ (by omega)))
          replace HB := Lib.hid (HB.out.grown hg5 HB.out.size fun x hx => by have := (HOw.out x hx).1; omega)
          clear ho5 hg5 hne HO HOw HLit HO1
          generalize (M ++ [(p0, p1)]).length = n5 at *
          refine hK _ _ HS.out ?_
          clear hK K
          simp only [Act.put, List.setIfInBounds_toArray, List.set_cons_zero, List.set_cons_succ]
          repeat (first
            | (refine Sch.tn_q rfl rfl rfl (fun K hK => ?_); go_big_quiet_op; (first | refine hK _ ?_ | refine ⟨_, fun _ _ => rfl, hK _ ?_⟩); clear hK K)
            | (refine Sch.tn_chk _ _ _ rfl rfl rfl rfl rfl ?_; simp only [Act.put, List.setIfInBounds_toArray, List.set_cons_zero, List.set_cons_succ]))
          have m0 := HM2.out.c0
          have m1 := HM2.out.c1
          have f1 := HM2.out.free 1
          refine Sch.tn_e rfl rfl (fun K hK => ?_)
          go_wp2_with fail
          have HG := Lib.hid (gb_setCell w5 (w.heap.size + 2) 1 (.slice a5 n5 c5))
          have HS6 := Lib.hid (HS.out.gbo HG.out (by simp) (by have := HBW.out; simp; omega))
          refine hK _ _ HS6.out ?_
          clear hK K
          refine Sch.tn_n ?_
          have HO6 := Lib.hid (HO5.out.keep HG.out (.inr fun e => by have := (HO5.out.lt _ e).1; omega))
          have HM6 := Lib.hid (HM2.out.set1 (.slice a5 n5 c5))
          have HM7 := Lib.hid (HM1.out.gb HG.out (by simp))
          have HB6 := Lib.hid (below_gb HB.out HG.out HB.out.size (by omega))
          go_wp2_with fail
          go_roundw
          case rel => exact ⟨q + 1, _, by omega, by go_num, HO6, Lib.hid HS6.out.1, HM7, HM6, HB6⟩
          case measure => simp [intOf]; omega
        · refine Sch.tn_e rfl rfl (fun K hK => ?_)
          go_wp2_with fail
          have hb := bel_box w3 (.cells #[.int .i64 p0, .string p1] E)
          have HLit := Lib.hid (lit_one w3 (p0, p1) E)
          have HZ : Hid (w.heap.size + 3 ≤ w3.heap.size) := by have := HM2.out.lt; show _ ≤ _; omega
          replace HO := Lib.hid (HO.out.below hb)
          replace HS := Lib.hid (HS.out.keep hb)
          replace HM1 := Lib.hid (HM1.out.keep hb)
          replace HM2 := Lib.hid (HM2.out.keep hb)
          replace HB := Lib.hid (bel_tr HB.out hb)
          clear hb
          refine hK _ _ HS.out ?_
          clear hK K
          have m1 := HM2.out.c1
          refine Sch.tn_e rfl rfl (fun K hK => ?_)
          go_wp2_with fail
          refine hK _ _ HS.out ?_
          clear hK K
          clear m1
          refine Sch.tn_e rfl rfl (fun K hK => ?_)
          refine wp_appP _ _ _ rfl Try.underlying27 infoP _ _ rfl HO.out (some ⟨w3.heap.size, 0, none⟩) [(p0, p1)] 1 rfl HLit.out (fun h => by cases h) (by have := HLen.out; simp only [List.length_cons, List.length_nil]; omega) (by have := HZ.out; simp; omega) ?_
          intro v5 w5 ho5 hg5
          have HOw := Lib.hid HO.out.lt
          have hne : ∀ x, x < w.heap.size + 3 → some x ≠ v.ownBlock := fun x hx e => by have := (HOw.out x e.symm).1; omega
          obtain ⟨a5, c5, rfl, -⟩ := ho5.row
          have HO5 := Lib.hid (HO1.out _ _ ho5)
          replace HS := Lib.hid (HS.out.gbo hg5 (hne _ (by omega)) (hne _ (by have := HBW.out; omega)))
          replace HM1 := Lib.hid (HM1.out.gb hg5 (hne _ (by omega)))
          replace HM2 := Lib.hid (HM2.out.gb hg5 (hne _ (by omega)))
          replace HB := Lib.hid (HB.out.grown hg5 HB.out.size fun x hx => by have := (HOw.out x hx).1; omega)
          clear ho5 hg5 hne HO HOw HLit HO1
          generalize (M ++ [(p0, p1)]).length = n5 at *
          refine hK _ _ HS.out ?_
          clear hK K
          simp only [Act.put, List.setIfInBounds_toArray, List.set_cons_zero, List.set_cons_succ]
          repeat (first
            | (refine Sch.tn_q rfl rfl rfl (fun K hK => ?_); go_big_quiet_op; (first | refine hK _ ?_ | refine ⟨_, fun _ _ => rfl, hK _ ?_⟩); clear hK K)
            | (refine Sch.tn_chk _ _ _ rfl rfl rfl rfl rfl ?_; simp only [Act.put, List.setIfInBounds_toArray, List.set_cons_zero, List.set_cons_succ]))
          have m0 := HM2.out.c0
          have m1 := HM2.out.c1
          have f1 := HM2.out.free 1
          refine Sch.tn_e rfl rfl (fun K hK => ?_)
          go_wp2_with fail
          have HG := Lib.hid (gb_setCell w5 (w.heap.size + 2) 1 (.slice a5 n5 c5))
          have HS6 := Lib.hid (HS.out.gbo HG.out (by simp) (by have := HBW.out; simp; omega))
          refine hK _ _ HS6.out ?_
          clear hK K
          refine Sch.tn_n ?_
          have HO6 := Lib.hid (HO5.out.keep HG.out (.inr fun e => by have := (HO5.out.lt _ e).1; omega))
          have HM6 := Lib.hid (HM2.out.set1 (.slice a5 n5 c5))
          have HM7 := Lib.hid (HM1.out.gb HG.out (by simp))
          have HB6 := Lib.hid (below_gb HB.out HG.out HB.out.size (by omega))
          go_wp2_with fail
          go_roundw
          case rel => exact ⟨q + 1, _, by omega, by go_num, HO6, Lib.hid HS6.out.1, HM7, HM6, HB6⟩
          case measure => simp [intOf]; omega
    · obtain rfl : q = L.length := by omega
      have hqi : ¬ (L.length : Int) < (L.length : Int) := by omega
      rw [List.take_length] at HO
      have k0 := HR.out.1
      have k1 := HR.out.2
      have m0 := HM2.out.c0
      have m1 := HM2.out.c1
      have n0 := HM1.out.c0
      have n1 := HM1.out.c1
      have f0 := HM1.out.free 0
      have f1 := HM1.out.free 1
      obtain ⟨av, cv, hv, -⟩ := HO.out.row
      subst hv
      go_wp2_with fail
      have HG := Lib.hid (gb_put2 wr (w.heap.size + 1) (.bool d) (.slice av (delR L k).length cv))
      (try simp only [Exit.inBlock, Exit.then])
      refine bodyPost_ret (v := mv d av (delR L k).length cv) (ret_map rfl (HM1.out.put d (.slice av (delR L k).length cv)) rfl) rfl ?_
      refine ⟨_, rfl, ?_, below_gb HB.out HG.out HB.out.size (by omega)⟩
      have h := HO.out.keep HG.out (.inr fun e => by have := (HO.out.lt _ e).1; omega)
      exact h.mono fun x hx => by have := (h.lt x hx).1; omega
end Go.Proofs.Ytmmcnpcijeahcaa.J
