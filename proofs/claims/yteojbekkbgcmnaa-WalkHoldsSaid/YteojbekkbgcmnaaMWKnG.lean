/-
  The examples' store, and lists of dots.
-/
import Derived.Test.YteojbekkbgcmnaaMWCol
import Derived.Test.YteojbekkbgcmnaaMSched

section
namespace Go.Proofs.Yteojbekkbgcmnaa.Un
set_option linter.unusedVariables false
open Go.RowKit V Go.Shelf D Nd Qs Wk
attribute [local irreducible] Sch.heldN Sch.stepV Sch.stepE

/-- The store of the examples. -/
def exL : List Nt := [((1, 1), (0, 0), 1, 97), ((1, 2), (1, 1), 2, 98), ((2, 2), (1, 1), 2, 99), ((2, 3), (1, 2), 3, 100), ((1, 4), (0, 0), 4, 101), ((3, 4), (9, 9), 1, 102), ((3, 5), (3, 6), 1, 103), ((3, 6), (3, 5), 1, 104)]
/-- Its cells. -/
def exC : Array Value := (cellsN exL).toArray
set_option maxRecDepth 100000 in
set_option maxHeartbeats 4000000 in
theorem given_any (w : World) : Calls Try.prog 31 #[] w fun e w' => ∃ g, e = .returned (.slice (some ⟨g, 0, none⟩) 8 8) ∧ RowN w' (some ⟨g, 0, none⟩) exL ∧ Below w.heap.size w w' := by
  have HD := Lib.hid (bd_new w (0, 0))
  have HB := Lib.hid (bel_box w (.cells #[.int .i64 0, .int .i64 0] 24))
  go_enter Try.func31, Try.ntmps31
  go_wp2_with fail
  have HDd := Lib.hid (HD.out.keep ((Below.refl _ _).drew))
  have HBd := Lib.hid HB.out.drew
  have a1 := Lib.hid (fun w' (h : Bd w' w.heap.size (0, 0)) => load_dotB h)
  clear HD HB
  generalize w.alloc (.cells #[.int .i64 0, .int .i64 0] 24) = w1 at *
  refine Sch.wp_region_tn (fun w' => Bd w' w.heap.size (0, 0)) (.val 1 (.val 13 (.one 0 (.val 2 (.one 3 (.one 4 (.val 5 (.one 6 (.one 7 (.val 8 (.one 9 (.one 10 (.val 11 (.one 12 (.val 14 (.one 15 (.one 16 (.val 17 (.one 18 (.one 19 (.val 20 (.one 21 (.one 22 (.val 23 (.one 24 (.val 25 .done)))))))))))))))))))))))))) (by kernel_rfl) (by kernel_rfl) HDd.out ?_
  repeat (first
    | (refine Sch.tn_q rfl rfl rfl (fun K hK => ?_); go_big_quiet_op; (first | refine hK _ ?_ | refine ⟨_, fun _ _ => rfl, hK _ ?_⟩); clear hK K)
    | (refine Sch.tn_chk _ _ _ rfl rfl rfl rfl rfl ?_; simp only [Act.put, List.setIfInBounds_toArray, List.set_cons_zero, List.set_cons_succ])
    | (refine Sch.tn_load _ _ _ _ _ rfl rfl rfl rfl (by first | exact a1.out) rfl ?_; simp only [Act.put, List.setIfInBounds_toArray, List.set_cons_zero, List.set_cons_succ]))
  generalize w1.drew = w2 at *
  refine Sch.tn_e rfl rfl (fun K hK => ?_)
  go_wp2_with fail
  refine (at_any 1 1 _).mono ?_
  rintro e w3 ⟨rfl, hb⟩
  replace HDd := Lib.hid (HDd.out.keep hb)
  replace HBd := Lib.hid (bel_tr HBd.out hb)
  clear hb
  refine hK _ _ HDd.out ?_
  clear hK K
  repeat (first
    | (refine Sch.tn_q rfl rfl rfl (fun K hK => ?_); go_big_quiet_op; (first | refine hK _ ?_ | refine ⟨_, fun _ _ => rfl, hK _ ?_⟩); clear hK K)
    | (refine Sch.tn_chk _ _ _ rfl rfl rfl rfl rfl ?_; simp only [Act.put, List.setIfInBounds_toArray, List.set_cons_zero, List.set_cons_succ])
    | (refine Sch.tn_load _ _ _ _ _ rfl rfl rfl rfl (by first | exact a1.out) rfl ?_; simp only [Act.put, List.setIfInBounds_toArray, List.set_cons_zero, List.set_cons_succ]))
  refine Sch.tn_e rfl rfl (fun K hK => ?_)
  go_wp2_with fail
  refine (at_any 1 2 _).mono ?_
  rintro e w3 ⟨rfl, hb⟩
  replace HDd := Lib.hid (HDd.out.keep hb)
  replace HBd := Lib.hid (bel_tr HBd.out hb)
  clear hb
  refine hK _ _ HDd.out ?_
  clear hK K
  refine Sch.tn_e rfl rfl (fun K hK => ?_)
  go_wp2_with fail
  refine (at_any 1 1 _).mono ?_
  rintro e w3 ⟨rfl, hb⟩
  replace HDd := Lib.hid (HDd.out.keep hb)
  replace HBd := Lib.hid (bel_tr HBd.out hb)
  clear hb
  refine hK _ _ HDd.out ?_
  clear hK K
  repeat (first
    | (refine Sch.tn_q rfl rfl rfl (fun K hK => ?_); go_big_quiet_op; (first | refine hK _ ?_ | refine ⟨_, fun _ _ => rfl, hK _ ?_⟩); clear hK K)
    | (refine Sch.tn_chk _ _ _ rfl rfl rfl rfl rfl ?_; simp only [Act.put, List.setIfInBounds_toArray, List.set_cons_zero, List.set_cons_succ])
    | (refine Sch.tn_load _ _ _ _ _ rfl rfl rfl rfl (by first | exact a1.out) rfl ?_; simp only [Act.put, List.setIfInBounds_toArray, List.set_cons_zero, List.set_cons_succ]))
  refine Sch.tn_e rfl rfl (fun K hK => ?_)
  go_wp2_with fail
  refine (at_any 2 2 _).mono ?_
  rintro e w3 ⟨rfl, hb⟩
  replace HDd := Lib.hid (HDd.out.keep hb)
  replace HBd := Lib.hid (bel_tr HBd.out hb)
  clear hb
  refine hK _ _ HDd.out ?_
  clear hK K
  refine Sch.tn_e rfl rfl (fun K hK => ?_)
  go_wp2_with fail
  refine (at_any 1 1 _).mono ?_
  rintro e w3 ⟨rfl, hb⟩
  replace HDd := Lib.hid (HDd.out.keep hb)
  replace HBd := Lib.hid (bel_tr HBd.out hb)
  clear hb
  refine hK _ _ HDd.out ?_
  clear hK K
  repeat (first
    | (refine Sch.tn_q rfl rfl rfl (fun K hK => ?_); go_big_quiet_op; (first | refine hK _ ?_ | refine ⟨_, fun _ _ => rfl, hK _ ?_⟩); clear hK K)
    | (refine Sch.tn_chk _ _ _ rfl rfl rfl rfl rfl ?_; simp only [Act.put, List.setIfInBounds_toArray, List.set_cons_zero, List.set_cons_succ])
    | (refine Sch.tn_load _ _ _ _ _ rfl rfl rfl rfl (by first | exact a1.out) rfl ?_; simp only [Act.put, List.setIfInBounds_toArray, List.set_cons_zero, List.set_cons_succ]))
  refine Sch.tn_e rfl rfl (fun K hK => ?_)
  go_wp2_with fail
  refine (at_any 2 3 _).mono ?_
  rintro e w3 ⟨rfl, hb⟩
  replace HDd := Lib.hid (HDd.out.keep hb)
  replace HBd := Lib.hid (bel_tr HBd.out hb)
  clear hb
  refine hK _ _ HDd.out ?_
  clear hK K
  refine Sch.tn_e rfl rfl (fun K hK => ?_)
  go_wp2_with fail
  refine (at_any 1 2 _).mono ?_
  rintro e w3 ⟨rfl, hb⟩
  replace HDd := Lib.hid (HDd.out.keep hb)
  replace HBd := Lib.hid (bel_tr HBd.out hb)
  clear hb
  refine hK _ _ HDd.out ?_
  clear hK K
  repeat (first
    | (refine Sch.tn_q rfl rfl rfl (fun K hK => ?_); go_big_quiet_op; (first | refine hK _ ?_ | refine ⟨_, fun _ _ => rfl, hK _ ?_⟩); clear hK K)
    | (refine Sch.tn_chk _ _ _ rfl rfl rfl rfl rfl ?_; simp only [Act.put, List.setIfInBounds_toArray, List.set_cons_zero, List.set_cons_succ])
    | (refine Sch.tn_load _ _ _ _ _ rfl rfl rfl rfl (by first | exact a1.out) rfl ?_; simp only [Act.put, List.setIfInBounds_toArray, List.set_cons_zero, List.set_cons_succ]))
  refine Sch.tn_e rfl rfl (fun K hK => ?_)
  go_wp2_with fail
  refine (at_any 1 4 _).mono ?_
  rintro e w3 ⟨rfl, hb⟩
  replace HDd := Lib.hid (HDd.out.keep hb)
  replace HBd := Lib.hid (bel_tr HBd.out hb)
  clear hb
  refine hK _ _ HDd.out ?_
  clear hK K
  repeat (first
    | (refine Sch.tn_q rfl rfl rfl (fun K hK => ?_); go_big_quiet_op; (first | refine hK _ ?_ | refine ⟨_, fun _ _ => rfl, hK _ ?_⟩); clear hK K)
    | (refine Sch.tn_chk _ _ _ rfl rfl rfl rfl rfl ?_; simp only [Act.put, List.setIfInBounds_toArray, List.set_cons_zero, List.set_cons_succ])
    | (refine Sch.tn_load _ _ _ _ _ rfl rfl rfl rfl (by first | exact a1.out) rfl ?_; simp only [Act.put, List.setIfInBounds_toArray, List.set_cons_zero, List.set_cons_succ]))
  refine Sch.tn_e rfl rfl (fun K hK => ?_)
  go_wp2_with fail
  refine (at_any 3 4 _).mono ?_
  rintro e w3 ⟨rfl, hb⟩
  replace HDd := Lib.hid (HDd.out.keep hb)
  replace HBd := Lib.hid (bel_tr HBd.out hb)
  clear hb
  refine hK _ _ HDd.out ?_
  clear hK K
  refine Sch.tn_e rfl rfl (fun K hK => ?_)
  go_wp2_with fail
  refine (at_any 9 9 _).mono ?_
  rintro e w3 ⟨rfl, hb⟩
  replace HDd := Lib.hid (HDd.out.keep hb)
  replace HBd := Lib.hid (bel_tr HBd.out hb)
  clear hb
  refine hK _ _ HDd.out ?_
  clear hK K
  repeat (first
    | (refine Sch.tn_q rfl rfl rfl (fun K hK => ?_); go_big_quiet_op; (first | refine hK _ ?_ | refine ⟨_, fun _ _ => rfl, hK _ ?_⟩); clear hK K)
    | (refine Sch.tn_chk _ _ _ rfl rfl rfl rfl rfl ?_; simp only [Act.put, List.setIfInBounds_toArray, List.set_cons_zero, List.set_cons_succ])
    | (refine Sch.tn_load _ _ _ _ _ rfl rfl rfl rfl (by first | exact a1.out) rfl ?_; simp only [Act.put, List.setIfInBounds_toArray, List.set_cons_zero, List.set_cons_succ]))
  refine Sch.tn_e rfl rfl (fun K hK => ?_)
  go_wp2_with fail
  refine (at_any 3 5 _).mono ?_
  rintro e w3 ⟨rfl, hb⟩
  replace HDd := Lib.hid (HDd.out.keep hb)
  replace HBd := Lib.hid (bel_tr HBd.out hb)
  clear hb
  refine hK _ _ HDd.out ?_
  clear hK K
  refine Sch.tn_e rfl rfl (fun K hK => ?_)
  go_wp2_with fail
  refine (at_any 3 6 _).mono ?_
  rintro e w3 ⟨rfl, hb⟩
  replace HDd := Lib.hid (HDd.out.keep hb)
  replace HBd := Lib.hid (bel_tr HBd.out hb)
  clear hb
  refine hK _ _ HDd.out ?_
  clear hK K
  repeat (first
    | (refine Sch.tn_q rfl rfl rfl (fun K hK => ?_); go_big_quiet_op; (first | refine hK _ ?_ | refine ⟨_, fun _ _ => rfl, hK _ ?_⟩); clear hK K)
    | (refine Sch.tn_chk _ _ _ rfl rfl rfl rfl rfl ?_; simp only [Act.put, List.setIfInBounds_toArray, List.set_cons_zero, List.set_cons_succ])
    | (refine Sch.tn_load _ _ _ _ _ rfl rfl rfl rfl (by first | exact a1.out) rfl ?_; simp only [Act.put, List.setIfInBounds_toArray, List.set_cons_zero, List.set_cons_succ]))
  refine Sch.tn_e rfl rfl (fun K hK => ?_)
  go_wp2_with fail
  refine (at_any 3 6 _).mono ?_
  rintro e w3 ⟨rfl, hb⟩
  replace HDd := Lib.hid (HDd.out.keep hb)
  replace HBd := Lib.hid (bel_tr HBd.out hb)
  clear hb
  refine hK _ _ HDd.out ?_
  clear hK K
  refine Sch.tn_e rfl rfl (fun K hK => ?_)
  go_wp2_with fail
  refine (at_any 3 5 _).mono ?_
  rintro e w3 ⟨rfl, hb⟩
  replace HDd := Lib.hid (HDd.out.keep hb)
  replace HBd := Lib.hid (bel_tr HBd.out hb)
  clear hb
  refine hK _ _ HDd.out ?_
  clear hK K
  repeat (first
    | (refine Sch.tn_q rfl rfl rfl (fun K hK => ?_); go_big_quiet_op; (first | refine hK _ ?_ | refine ⟨_, fun _ _ => rfl, hK _ ?_⟩); clear hK K)
    | (refine Sch.tn_chk _ _ _ rfl rfl rfl rfl rfl ?_; simp only [Act.put, List.setIfInBounds_toArray, List.set_cons_zero, List.set_cons_succ])
    | (refine Sch.tn_load _ _ _ _ _ rfl rfl rfl rfl (by first | exact a1.out) rfl ?_; simp only [Act.put, List.setIfInBounds_toArray, List.set_cons_zero, List.set_cons_succ]))
  have hbn := bel_box w3 (.cells exC 35)
  have HX : Hid (RowN (w3.alloc (.cells exC 35)) (some ⟨w3.heap.size, 0, none⟩) exL) := RowN.lit w3 exL exC 35 (0, 0) rfl
  replace HDd := Lib.hid (HDd.out.keep hbn)
  replace HBd := Lib.hid (bel_tr HBd.out hbn)
  clear hbn
  refine Sch.tn_e rfl rfl (fun K hK => ?_)
  go_wp2_with fail
  refine hK _ (w3.alloc (.cells exC 35)) HDd.out ?_
  clear hK K
  generalize w3.alloc (.cells exC 35) = w4 at *
  generalize w3.heap.size = g4 at *
  repeat (first
    | (refine Sch.tn_q rfl rfl rfl (fun K hK => ?_); go_big_quiet_op; (first | refine hK _ ?_ | refine ⟨_, fun _ _ => rfl, hK _ ?_⟩); clear hK K)
    | (refine Sch.tn_chk _ _ _ rfl rfl rfl rfl rfl ?_; simp only [Act.put, List.setIfInBounds_toArray, List.set_cons_zero, List.set_cons_succ])
    | (refine Sch.tn_load _ _ _ _ _ rfl rfl rfl rfl (by first | exact a1.out) rfl ?_; simp only [Act.put, List.setIfInBounds_toArray, List.set_cons_zero, List.set_cons_succ]))
  refine Sch.tn_n ?_
  go_wp2_with fail
  go_ret
  exact ⟨g4, rfl, HX.out, HBd.out⟩
end Go.Proofs.Yteojbekkbgcmnaa.Un
end

/-
  Lists of dots of the examples.
-/
section
namespace Go.Proofs.Yteojbekkbgcmnaa.Un
set_option linter.unusedVariables false
open Go.RowKit V Go.Shelf D Nd Qs Wk
attribute [local irreducible] Sch.heldN Sch.stepV Sch.stepE

theorem ixJ (b o n c k : Nat) (z : Int) (hz : z = (k : Int)) (hk : k < n) : ∀ w, (Instr.indexAt 40 (.slice (some ⟨b, o, none⟩) n c) (.int .i64 z)).run Try.prog w = .ok (.pointer (some ⟨b, o + k, none⟩)) w := by
  intro w
  subst hz
  have hk2 : (k : Int) < (n : Int) := by omega
  go_simp
/-- Two numbers that follow on each other. -/
def Cc (b o : Nat) (d : Dt) (w : World) : Prop := w.cell? ⟨b, o, none⟩ = some (.int .i64 d.1) ∧ w.cell? ⟨b, o + 1, none⟩ = some (.int .i64 d.2)
theorem Cc.keep {b o : Nat} {d : Dt} {w w' : World} (h : Cc b o d w) (hb : Below w.heap.size w w') : Cc b o d w' :=
  ⟨(hb.cell (p := ⟨b, o, none⟩) (lt_of_cell h.1)).trans h.1, (hb.cell (p := ⟨b, o + 1, none⟩) (lt_of_cell h.2)).trans h.2⟩
theorem Cc.l0 {b o : Nat} {d : Dt} : ∀ w, Cc b o d w → (Instr.loadAt 3 (.pointer (some ⟨b, o, none⟩))).run Try.prog w = .ok (.int .i64 d.1) w := fun w h => load_int h.1
theorem Cc.l1 {b o : Nat} {d : Dt} : ∀ w, Cc b o d w → (Instr.loadAt 3 (.pointer (some ⟨b, o + 1, none⟩))).run Try.prog w = .ok (.int .i64 d.2) w := fun w h => load_int h.2
theorem wp_appD {P : Program} {w : World} {x : Oper} {a : Act} {K : Act → World → Prop} {Q : Exit → Act → World → Prop} (s y : Operand) (T : TypeId)
    (ho : x.op = .call { callee := .builtin .append, args := #[s, y], argTypes := #[T, T] })
    {base : Nat} {E : TypeId} (hT : P.underlying T = some (.slice E)) (hinfo : (P.info? E).map (fun i => (i.zero, i.size, i.bytes)) = some (some (.agg #[.int .i64 0, .int .i64 0]), 2, 16))
    (v : Value) (l : List Dt) (hs : a.eval s = v) (h : OD w base E v l) (ad : Option Addr) (m : List Dt) (c n : Nat) (hn : n = m.length) (hx : a.eval y = .slice ad n c) (hrow : RowD w ad m) (hnil : ad = none → c = 0)
    (hlen : l.length + m.length ≤ 8796093022208) (hbase : base ≤ w.heap.size)
    (hk : ∀ v' w', OD w' base E v' (l ++ m) → w.grownBy w' v.ownBlock → G.Grew w v v' → K (a.put x.dst v') w') : x.wp P a w K Q := by
  subst hn
  obtain ⟨v', w', hr, h2, h3, h4⟩ := run_appD hT hinfo h x.type ad m c hrow hnil hlen hbase
  unfold Oper.wp execOp
  simp only [ho, resolve, invoke, builtin, Sem.run_bind, Sem.run_pure, Result.andThen_ok, List.map_toArray, List.map_cons, List.map_nil, hs, hx, hr]
  exact hk _ _ h2 h3 h4
theorem Cc.gb {b o : Nat} {d : Dt} {w w' : World} {r : Option Nat} (h : Cc b o d w) (hg : w.grownBy w' r) (hne : ∀ k, r = some k → k ≠ b) : Cc b o d w' := by
  have e : w'.heap[b]? = w.heap[b]? := hg.block b (lt_of_cell h.1) (fun e => hne b e.symm rfl)
  exact ⟨(World.cell?_of_block (a := ⟨b, o, none⟩) e).trans h.1, (World.cell?_of_block (a := ⟨b, o + 1, none⟩) e).trans h.2⟩
theorem take_d {l : List Dt} {k : Nat} (h : k < l.length) : l.take (k + 1) = l.take k ++ [l[k]] := List.take_succ_eq_append_getElem h
set_option maxRecDepth 100000 in
set_option maxHeartbeats 4000000 in
theorem dots_any (l : List Dt) (n : Nat) (a : Option Addr) (c : Nat) (w : World) (hn : n = 2 * l.length) (hx : RowD w a l) (hlx : l.length ≤ 1000) :
    Calls Try.prog 32 #[.slice a n c] w fun e w' => ∃ v, e = .returned v ∧ OD w' w.heap.size ED v l ∧ Below w.heap.size w w' := by
  have HX := Lib.hid hx
  have hni : (n : Int) ≤ 2000 := by omega
  have HN : Hid (n = 2 * l.length) := hn
  clear hx hlx hn
  go_enter Try.func32, Try.ntmps32
  go_wp2_with fail
  go_loopw [3, 4] (fun v i wr => ∃ k j : Nat, Hid (j = 2 * k) ∧ k ≤ l.length ∧ i = .int .i64 (j : Int) ∧ Hid (Below w.heap.size w wr) ∧ Hid (OD wr w.heap.size ED v (l.take k))) (fun _ i _ => n + 2 - (intOf i).toNat)
  case atStart => exact ⟨0, 0, rfl, Nat.zero_le _, rfl, Below.refl _ _, OD.nil _ _ _⟩
  case round =>
    obtain ⟨k, j, HJ, hk, rfl, hh, HO⟩ := hrel
    by_cases hlt : k < l.length
    · have hi0 : (j : Int) + 1 < (n : Int) := by have := HJ.out; have := HN.out; omega
      have hj0 : (j : Int) ≤ 2000 := by omega
      have HSt := Lib.hid (take_d hlt)
      have HBl : Hid (∀ b o, a = some ⟨b, o, none⟩ → b < w.heap.size) := fun b o e => by
        rcases HX.out with h0 | ⟨b2, o2, e2, hc⟩
        · rw [h0] at hlt; exact absurd hlt (by simp)
        · rw [e] at e2
          cases e2
          exact lt_of_cell (hc k hlt).1
      rcases HX.out.keep hh.out with h0 | ⟨b, o, rfl, hc⟩
      · rw [h0] at hlt; exact absurd hlt (by simp)
      · have HC : Hid (Cc b (o + j) l[k] wr.drew) := by
          have h2 := hc k hlt
          have e1 : k * 2 = j := by have := HJ.out; omega
          rw [e1] at h2
          exact h2
        have HHd := Lib.hid hh.out.drew
        have HOd := Lib.hid (HO.out.below ((Below.refl _ wr).drew))
        have HLn : Hid ((l.take k).length ≤ 1000) := by show _ ≤ _; rw [List.length_take]; have := HN.out; omega
        have hx0 := ixJ b o n c j (j : Int) rfl (by omega)
        have hx1 := ixJ b o n c (j + 1) ((j : Int) + 1) (by omega) (by omega)
        rw [← Nat.add_assoc] at hx1
        obtain ⟨q, hq⟩ : ∃ q, q = l[k] := ⟨_, rfl⟩
        rw [← hq] at HC HSt
        clear hq hc hh HO
        go_wp2_with fail
        refine Sch.wp_region_tn (Cc b (o + j) q) (.val 0 (.val 1 (.val 2 (.val 3 (.val 4 (.val 5 (.val 6 (.val 7 (.val 8 (.val 9 (.one 10 (.one 11 (.one 12 (.val 13 .done)))))))))))))) (by kernel_rfl) (by kernel_rfl) HC.out ?_
        repeat (first
          | (refine Sch.tn_q rfl rfl rfl (fun K hK => ?_); go_big_quiet_op; (first | refine hK _ ?_ | refine ⟨_, fun _ _ => rfl, hK _ ?_⟩); clear hK K)
          | (refine Sch.tn_chk _ _ _ rfl rfl rfl rfl rfl ?_; simp only [Act.put, List.setIfInBounds_toArray, List.set_cons_zero, List.set_cons_succ])
          | (refine Sch.tn_load _ _ _ _ _ rfl rfl rfl rfl (by first | exact Cc.l0 | exact Cc.l1) rfl ?_; simp only [Act.put, List.setIfInBounds_toArray, List.set_cons_zero, List.set_cons_succ]))
        generalize wr.drew = w2 at *
        refine Sch.tn_e rfl rfl (fun K hK => ?_)
        go_wp2_with fail
        refine (at_any q.1 q.2 _).mono ?_
        rintro e w3 ⟨rfl, hb⟩
        replace HC := Lib.hid (HC.out.keep hb)
        replace HHd := Lib.hid (bel_tr HHd.out hb)
        replace HOd := Lib.hid (HOd.out.below hb)
        clear hb
        refine hK _ _ HC.out ?_
        clear hK K
        have hbn := bel_box w3 (.cells #[.int .i64 q.1, .int .i64 q.2] 24)
        have HR := Lib.hid (lit_one w3 q 24)
        replace HC := Lib.hid (HC.out.keep hbn)
        replace HHd := Lib.hid (bel_tr HHd.out hbn)
        replace HOd := Lib.hid (HOd.out.below hbn)
        clear hbn
        refine Sch.tn_e rfl rfl (fun K hK => ?_)
        go_wp2_with fail
        refine hK _ _ HC.out ?_
        clear hK K
        generalize w3.alloc (.cells #[.int .i64 q.1, .int .i64 q.2] 24) = w4 at *
        have HSw : Hid (w.heap.size ≤ w4.heap.size) := HHd.out.size
        generalize w3.heap.size = g4 at *
        refine Sch.tn_e rfl rfl (fun K hK => ?_)
        refine wp_appD (.tmp 12) (.tmp 23) 41 rfl Try.underlying41 infoD _ _ rfl HOd.out (some ⟨g4, 0, none⟩) [q] 1 1 rfl rfl HR.out (fun h => by cases h) (by have := HLn.out; simp only [List.length_cons, List.length_nil]; omega) HSw.out ?_
        intro v7 w7 ho hg _
        have HO7 : Hid (OD w7 w.heap.size ED v7 (l.take (k + 1))) := by rw [HSt.out]; exact ho
        have HB7 := Lib.hid (HHd.out.grown hg HHd.out.size (fun x hx => (HOd.out.lt x hx).1))
        have HC7 : Hid (Cc b (o + j) q w7) := HC.out.gb hg (fun x hx e => by
          have h1 := (HOd.out.lt x hx).1
          have h2 := HBl.out b o rfl
          omega)
        clear ho hg HOd HHd HR HC
        refine hK _ _ HC7.out ?_
        clear hK K
        simp only [Act.put, List.setIfInBounds_toArray, List.set_cons_zero, List.set_cons_succ]
        repeat (first
          | (refine Sch.tn_q rfl rfl rfl (fun K hK => ?_); go_big_quiet_op; (first | refine hK _ ?_ | refine ⟨_, fun _ _ => rfl, hK _ ?_⟩); clear hK K)
          | (refine Sch.tn_chk _ _ _ rfl rfl rfl rfl rfl ?_; simp only [Act.put, List.setIfInBounds_toArray, List.set_cons_zero, List.set_cons_succ])
          | (refine Sch.tn_load _ _ _ _ _ rfl rfl rfl rfl (by first | exact Cc.l0 | exact Cc.l1) rfl ?_; simp only [Act.put, List.setIfInBounds_toArray, List.set_cons_zero, List.set_cons_succ]))
        refine Sch.tn_n ?_
        go_wp2_with fail
        go_roundw
        case rel => exact ⟨k + 1, j + 2, by have := HJ.out; show _ = _; omega, by omega, by go_num, HB7, HO7⟩
        case measure => simp [intOf]; omega
    · have hend : ¬ (j : Int) + 1 < (n : Int) := by have := HJ.out; have := HN.out; omega
      have hj0 : (j : Int) ≤ 2000 := by have := HJ.out; have := HN.out; omega
      rw [List.take_of_length_le (by omega)] at HO
      go_wp2_with fail
      go_ret
      exact ⟨_, rfl, HO.out, hh.out⟩
end Go.Proofs.Yteojbekkbgcmnaa.Un
end

/-
  What All yields is what is wanted.
-/
section
namespace Go.Proofs.Yteojbekkbgcmnaa.Un
set_option linter.unusedVariables false
open Go.RowKit V Go.Shelf D Nd Qs Wk
attribute [local irreducible] Sch.heldN Sch.stepV Sch.stepE
attribute [local go_sem] Oper.semAt_some

theorem load_slN {w : World} {B : Nat} {v : Value} (h : Bx w B v 22) : (Instr.loadAt 22 (.pointer (some ⟨B, 0, none⟩))).run Try.prog w = .ok v w := by
  have hc := h.cell
  go_simp
theorem load_slI {w : World} {B : Nat} {v : Value} (h : Bx w B v 40) : (Instr.loadAt 40 (.pointer (some ⟨B, 0, none⟩))).run Try.prog w = .ok v w := by
  have hc := h.cell
  go_simp
theorem load_bI {w : World} {B : Nat} {z : Int} (h : Bx w B (.int .i64 z) 3) : (Instr.loadAt 3 (.pointer (some ⟨B, 0, none⟩))).run Try.prog w = .ok (.int .i64 z) w := load_int h.cell
theorem ixI (b o n c k : Nat) (z : Int) (hz : z = (k : Int)) (hk : k < n) : ∀ w, (Instr.indexAt 40 (.slice (some ⟨b, o, none⟩) n c) (.int .i64 z)).run Try.prog w = .ok (.pointer (some ⟨b, o + k, none⟩)) w := by
  intro w
  subst hz
  have hk2 : (k : Int) < (n : Int) := by omega
  go_simp
/-- What a round of the law reads. -/
def Wg (g5 g6 g10 bx b o b2 o2 : Nat) (v5 v6 : Value) (i : Int) (q : Nt) (z : Int) (w : World) : Prop :=
  Bx w g5 v5 22 ∧ Bx w g6 v6 40 ∧ Bx w g10 (.int .i64 i) 3 ∧ Nb w bx q ∧ Na w b o q ∧ w.cell? ⟨b2, o2, none⟩ = some (.int .i64 z)
section
variable {g5 g6 g10 bx b o b2 o2 : Nat} {v5 v6 : Value} {i : Int} {q : Nt} {z : Int}
theorem Wg.a5 : ∀ w, Wg g5 g6 g10 bx b o b2 o2 v5 v6 i q z w → (Instr.loadAt 22 (.pointer (some ⟨g5, 0, none⟩))).run Try.prog w = .ok v5 w := fun w h => load_slN h.1
theorem Wg.a6 : ∀ w, Wg g5 g6 g10 bx b o b2 o2 v5 v6 i q z w → (Instr.loadAt 40 (.pointer (some ⟨g6, 0, none⟩))).run Try.prog w = .ok v6 w := fun w h => load_slI h.2.1
theorem Wg.a10 : ∀ w, Wg g5 g6 g10 bx b o b2 o2 v5 v6 i q z w → (Instr.loadAt 3 (.pointer (some ⟨g10, 0, none⟩))).run Try.prog w = .ok (.int .i64 i) w := fun w h => load_bI h.2.2.1
theorem Wg.an : ∀ w, Wg g5 g6 g10 bx b o b2 o2 v5 v6 i q z w → (Instr.loadAt 35 (.pointer (some ⟨bx, 0, none⟩))).run Try.prog w = .ok (nv q) w := fun w h => h.2.2.2.1.load
theorem Wg.ar : ∀ w, Wg g5 g6 g10 bx b o b2 o2 v5 v6 i q z w → (Instr.loadAt 35 (.pointer (some ⟨b, o, none⟩))).run Try.prog w = .ok (nv q) w := fun w h => h.2.2.2.2.1.load
theorem Wg.az : ∀ w, Wg g5 g6 g10 bx b o b2 o2 v5 v6 i q z w → (Instr.loadAt 3 (.pointer (some ⟨b2, o2, none⟩))).run Try.prog w = .ok (.int .i64 z) w := fun w h => load_int h.2.2.2.2.2
end
/-- What stays in all rounds. -/
def Ig (w : World) (g5 g6 g7 g8 g10 : Nat) (v5 v6 : Value) (few i : Int) (A : World) : Prop :=
  Below w.heap.size w A ∧ Bx A g5 v5 22 ∧ Bx A g6 v6 40 ∧ Bx A g7 (.int .i64 few) 3 ∧ Bx A g8 (.bool false) 4 ∧ Bx A g10 (.int .i64 i) 3
theorem Ig.keep {w w1 w2 : World} {g5 g6 g7 g8 g10 : Nat} {v5 v6 : Value} {few i : Int} (h : Ig w g5 g6 g7 g8 g10 v5 v6 few i w1) (hb : Below w1.heap.size w1 w2) : Ig w g5 g6 g7 g8 g10 v5 v6 few i w2 :=
  ⟨bel_tr h.1 hb, h.2.1.keep hb, h.2.2.1.keep hb, h.2.2.2.1.keep hb, h.2.2.2.2.1.keep hb, h.2.2.2.2.2.keep hb⟩
theorem Ig.abF {w : World} {g5 g6 g7 g8 g10 B : Nat} {v5 v6 : Value} {few i : Int} (hB : w.heap.size ≤ B) : AbF [EA] B (Ig w g5 g6 g7 g8 g10 v5 v6 few i) := fun A A' row h hg hr =>
  ⟨below_abF hB A A' row h.1 hg hr, Bx.abF (by decide) A A' row h.2.1 hg hr, Bx.abF (by decide) A A' row h.2.2.1 hg hr, Bx.abF (by decide) A A' row h.2.2.2.1 hg hr, Bx.abF (by decide) A A' row h.2.2.2.2.1 hg hr, Bx.abF (by decide) A A' row h.2.2.2.2.2 hg hr⟩

theorem four_new (w : World) (v5 v6 : Value) (few : Int) : Below w.heap.size w ((((w.alloc (.cells #[v5] 22)).alloc (.cells #[v6] 40)).alloc (.cells #[.int .i64 few] 3)).alloc (.cells #[.bool false] 4)) ∧ Bx ((((w.alloc (.cells #[v5] 22)).alloc (.cells #[v6] 40)).alloc (.cells #[.int .i64 few] 3)).alloc (.cells #[.bool false] 4)) w.heap.size v5 22 ∧ Bx ((((w.alloc (.cells #[v5] 22)).alloc (.cells #[v6] 40)).alloc (.cells #[.int .i64 few] 3)).alloc (.cells #[.bool false] 4)) (w.heap.size + 1) v6 40 ∧ Bx ((((w.alloc (.cells #[v5] 22)).alloc (.cells #[v6] 40)).alloc (.cells #[.int .i64 few] 3)).alloc (.cells #[.bool false] 4)) (w.heap.size + 1 + 1) (.int .i64 few) 3 ∧ Bx ((((w.alloc (.cells #[v5] 22)).alloc (.cells #[v6] 40)).alloc (.cells #[.int .i64 few] 3)).alloc (.cells #[.bool false] 4)) (w.heap.size + 1 + 1 + 1) (.bool false) 4 := by
  have h1 := bx_new w v5 22
  have b1 := bel_box w (.cells #[v5] 22)
  have s1 : (w.alloc (.cells #[v5] 22)).heap.size = w.heap.size + 1 := by simp
  generalize w.alloc (.cells #[v5] 22) = w1 at *
  have h2 := bx_new w1 v6 40
  have b2 := bel_box w1 (.cells #[v6] 40)
  have s2 : (w1.alloc (.cells #[v6] 40)).heap.size = w1.heap.size + 1 := by simp
  generalize w1.alloc (.cells #[v6] 40) = w2 at *
  have h3 := bx_new w2 (.int .i64 few) 3
  have b3 := bel_box w2 (.cells #[.int .i64 few] 3)
  have s3 : (w2.alloc (.cells #[.int .i64 few] 3)).heap.size = w2.heap.size + 1 := by simp
  generalize w2.alloc (.cells #[.int .i64 few] 3) = w3 at *
  have h4 := bx_new w3 (.bool false) 4
  have b4 := bel_box w3 (.cells #[.bool false] 4)
  rw [s1] at h2 s2
  rw [s2] at h3 s3
  rw [s3] at h4
  exact ⟨bel_tr (bel_tr (bel_tr b1 b2) b3) b4, ((h1.keep b2).keep b3).keep b4, (h2.keep b3).keep b4, h3.keep b4, h4⟩
theorem Qb.box {A : World} {m b1 b2 g : Nat} {d : Dt} {l : List Nt} {v : Value} {t : TypeId} (u : Value) (h : Qb m b1 b2 d l A) (k : Bx A g v t) (h1 : t ≠ TT) (h2 : t ≠ 24) (h3 : t ≠ 108) (h4 : t ≠ 116) : Qb m b1 b2 d l (A.setCell ⟨g, 0, none⟩ u) := by
  refine h.turn (gb_setCell A g 0 u) fun r e => ?_
  cases e
  refine ⟨fun e => ?_, fun e => ?_, _, _, _, k, h3, h4⟩
  · have h5 := h.2.1
    rw [← e] at h5
    unfold Bx at h5 k
    rw [k] at h5
    cases h5
    exact h1 rfl
  · have h5 := h.2.2
    rw [← e] at h5
    unfold Bd at h5
    unfold Bx at k
    rw [k] at h5
    cases h5
theorem Ig.next {w A : World} {g5 g6 g7 g8 g10 : Nat} {v5 v6 : Value} {few i : Int} (h : Ig w g5 g6 g7 g8 g10 v5 v6 few i A) (j : Int) (hn : g5 < g10 ∧ g6 < g10 ∧ g7 < g10 ∧ g8 < g10) (hw : w.heap.size ≤ g10) : Ig w g5 g6 g7 g8 g10 v5 v6 few j (A.setCell ⟨g10, 0, none⟩ (.int .i64 j)) := by
  have hg := gb_setCell A g10 0 (.int .i64 j)
  refine ⟨bel_low h.1 hg (fun x e => by cases e; exact hw), h.2.1.gb hg ?_, h.2.2.1.gb hg ?_, h.2.2.2.1.gb hg ?_, h.2.2.2.2.1.gb hg ?_, h.2.2.2.2.2.set _⟩ <;> (intro e; cases e; omega)
theorem it_nil (b1 b2 : Nat) : ∀ w, Sem.run Try.prog (binOp .eql 76 (.func (.func 70) #[] #[.pointer (some ⟨b1, 0, none⟩), .pointer (some ⟨b2, 0, none⟩)]) Value.nilFunc) w = .ok (.bool false) w := fun w => by kernel_rfl
set_option maxRecDepth 100000 in
set_option maxHeartbeats 8000000 in
theorem goes_true (l : List Nt) (few : Int) (a b ad : Option Addr) (c d cd ny nd : Nat) (w : World) (hx : RowN w a l) (hlx : l.length ≤ 400000) (y : List Nt) (hy : y = (allD (seenL l)).map (·.2)) (ds : List Int) (hds : ds = (allD (seenL l)).map (fun x => (x.1 : Int))) (hny : ny = y.length) (hnd : nd = ds.length) (hry : RowN w b y) (hrd : G.RowI .i64 w ad ds) :
    Calls Try.prog 15 #[.slice a l.length c, .slice b ny d, .slice ad nd cd, .int .i64 few] w fun e w' => e = .returned (.bool true) ∧ Below w.heap.size w w' := by
  have HA := Lib.hid (fun (w : World) (h : RowN w a l) => (callsIn_wide (n := 2)).2 (all_prog l a c w h hlx))
  have HX := Lib.hid hx
  have HY := Lib.hid hry
  have HD := Lib.hid hrd
  have HYe := Lib.hid hy
  have HDe := Lib.hid hds
  have HNy := Lib.hid hny
  have HNd := Lib.hid hnd
  clear hx hry hrd hy hds hny hnd
  refine (callsIn_wide (n := 3)).1 ?_
  refine callsIn_of_wp_marks Try.func15 rfl trivial ?_ rfl
  simp only [Try.ntmps15, List.size_toArray, List.length_cons, List.length_nil, Nat.reduceAdd, Nat.reduceSub, Array.replicate_succ, Array.replicate_zero, List.push_toArray, List.append_toArray, List.nil_append, List.cons_append]
  gi_wp2
  obtain ⟨hb4, k5, k6, k7, k8⟩ := four_new w (.slice b ny d) (.slice ad nd cd) few
  have HB4 := Lib.hid hb4
  have K5 := Lib.hid k5
  have K6 := Lib.hid k6
  have K7 := Lib.hid k7
  have K8 := Lib.hid k8
  have HX4 := Lib.hid (HX.out.keep hb4)
  clear hb4 k5 k6 k7 k8
  generalize hS5 : w.heap.size = g5 at *
  generalize hS6 : g5 + 1 = g6 at *
  generalize hS7 : g6 + 1 = g7 at *
  generalize hS8 : g7 + 1 = g8 at *
  have HS : Hid (w.heap.size ≤ g5 ∧ w.heap.size ≤ g6 ∧ w.heap.size ≤ g7 ∧ w.heap.size ≤ g8) := by show _ ∧ _; omega
  have HS5 := Lib.hid hS5
  clear hS5 hS6 hS7 hS8
  generalize (((w.alloc (.cells #[.slice b ny d] 22)).alloc (.cells #[.slice ad nd cd] 40)).alloc (.cells #[.int .i64 few] 3)).alloc (.cells #[.bool false] 4) = w4 at *
  refine ⟨trivial, (HA.out _ HX4.out).mono ?_⟩
  rintro e w5 ⟨m, b1, b2, rfl, hq, hb⟩
  have HQ := Lib.hid hq
  replace HB4 := Lib.hid (bel_tr (w := w) (by rw [HS5.out]; exact HB4.out) hb)
  replace K5 := Lib.hid (K5.out.keep hb)
  replace K6 := Lib.hid (K6.out.keep hb)
  replace K7 := Lib.hid (K7.out.keep hb)
  replace K8 := Lib.hid (K8.out.keep hb)
  clear hq hb HA HX4
  have hnil := it_nil b1 b2
  gi_wp2
  have K10 := Lib.hid (bx_new w5 (.int .i64 0) 3)
  have hbx := bel_box w5 (.cells #[.int .i64 0] 3)
  have HIg : Hid (Ig w g5 g6 g7 g8 w5.heap.size (.slice b ny d) (.slice ad nd cd) few 0 (w5.alloc (.cells #[.int .i64 0] 3))) := ⟨bel_tr HB4.out hbx, K5.out.keep hbx, K6.out.keep hbx, K7.out.keep hbx, K8.out.keep hbx, K10.out⟩
  have HQ7 := Lib.hid (HQ.out.keep hbx)
  have HB7 := Lib.hid (bel_tr HB4.out hbx)
  have HG10 : Hid (w.heap.size ≤ w5.heap.size) := HB4.out.size
  have HNe : Hid (g5 < w5.heap.size ∧ g6 < w5.heap.size ∧ g7 < w5.heap.size ∧ g8 < w5.heap.size) := ⟨K5.out.lt, K6.out.lt, K7.out.lt, K8.out.lt⟩
  generalize w5.heap.size = g10 at *
  generalize w5.alloc (.cells #[.int .i64 0] 3) = w7 at *
  clear HQ K5 K6 K7 K8 K10 hbx hnil HB4
  have HSl : Hid ((allD (seenL l)).length ≤ 400000) := by
    show (BD (seenL l) (0, 0) 0).length ≤ _
    rw [bd_len]
    unfold seenL
    split
    · rename_i hv
      exact Nat.le_trans (bw_len hv (root_path l)) hlx
    · decide
  have HVs : Hid (validS (seenL l) = true) := by
    show _ = _
    unfold seenL
    split
    · assumption
    · rfl
  have HSQ := Lib.hid (below_seq (seenL l) HVs.out (by unfold seenL; split; exact hlx; simp) m (0, 0) [] (root_path _) fit_root w7 b1 b2)
  refine range_own (by decide) rfl enters_below rfl (allD (seenL l)) (Qb m b1 b2 (0, 0) (seenL l)) HSQ.out (fun _ => rfl) (fun pre A => Ig w g5 g6 g7 g8 g10 (.slice b ny d) (.slice ad nd cd) few (pre.length : Int) A ∧ Qb m b1 b2 (0, 0) (seenL l) A) (fun c A => c = .ret ∧ Below w.heap.size w A ∧ Bx A g8 (.bool true) 4 ∧ Qb m b1 b2 (0, 0) (seenL l) A)
      (fun pre => (Ig.abF HB7.out.size).and (Qb.abF (Fo.lt HQ7.out.1))) (fun c => ?abx) (fun pre A h => h.2) (fun c A h => h.2.2.2) ⟨HIg.out, HQ7.out⟩ ?a1 (fun x A => A.alloc (.cells (nc x.2) 35)) (fun x b W => Nb W b x.2) (fun x W => ⟨bel_box _ _, Nb.new W x.2⟩) (fun x b A A' row => nb_row x.2 b A A' row) ?assign ?body ?done ?stop
  case abx => exact (AbF.const _).and ((below_abF HB7.out.size).and ((Bx.abF (by decide)).and (Qb.abF (Fo.lt HQ7.out.1))))
  case assign =>
    intro l' y A K g hg hK
    gi_wp2
    rw [← hg]
    exact hK
  case body =>
    rintro l' pre x bx A ⟨h3, h4⟩ hnb hbl hpre
    have hpl := hpre.length_le
    rw [List.length_append, List.length_singleton] at hpl
    obtain ⟨i, hi⟩ : ∃ i, i = pre.length := ⟨_, rfl⟩
    have hiS : i < (allD (seenL l)).length := by omega
    have hxi : (allD (seenL l))[i] = x := by
      obtain ⟨t, ht⟩ := hpre
      have h9 : (allD (seenL l))[i]? = some x := by rw [← ht, hi]; simp
      rw [List.getElem?_eq_getElem hiS] at h9
      exact Option.some.inj h9
    have hyl : i < y.length := by rw [HYe.out, List.length_map]; exact hiS
    have hdl : i < ds.length := by rw [HDe.out, List.length_map]; exact hiS
    have hyi : y[i] = x.2 := by simp only [HYe.out, List.getElem_map, hxi]
    have hdi : ds[i] = (x.1 : Int) := by simp only [HDe.out, List.getElem_map, hxi]
    have hny : (i : Int) < (ny : Int) := by have := HNy.out; omega
    have hnd : (i : Int) < (nd : Int) := by have := HNd.out; omega
    have hbig : (i : Int) ≤ 400000 := by have := HSl.out; omega
    obtain ⟨bb, oo, rfl, hna⟩ := na_of (HY.out.keep h3.1) i hyl
    rw [hyi] at hna
    obtain ⟨bd, od, rfl, hcd⟩ : ∃ bd od, ad = some ⟨bd, od, none⟩ ∧ A.cell? ⟨bd, od + i, none⟩ = some (.int .i64 (x.1 : Int)) := by
      rcases HD.out.keep h3.1 (Nat.le_refl _) with h0 | ⟨bd, od, rfl, hc⟩
      · rw [h0] at hdl; exact absurd hdl (by simp)
      · exact ⟨bd, od, rfl, by rw [← hdi]; exact hc i hdl⟩
    have hw := (Below.refl A.heap.size A).drew
    have HW : Hid (Wg g5 g6 g10 bx bb (oo + i * 6) bd (od + i) (.slice (some ⟨bb, oo, none⟩) ny d) (.slice (some ⟨bd, od, none⟩) nd cd) (i : Int) x.2 (x.1 : Int) A.drew) := by
      rw [← hi] at h3
      exact ⟨h3.2.1.keep hw, h3.2.2.1.keep hw, h3.2.2.2.2.2.keep hw, hnb.keep hw, hna.keep hw, (hw.cell (lt_of_cell hcd)).trans hcd⟩
    have hx0 := ixN bb oo ny d i (i : Int) rfl (by omega)
    have hx1 := ixI bd od nd cd i (i : Int) rfl (by omega)
    have hnq := neqN_no x.2
    rw [show (pre ++ [x]).length = i + 1 by rw [hi]; simp]
    have H3 : Hid (Ig w g5 g6 g7 g8 g10 (.slice (some ⟨bb, oo, none⟩) ny d) (.slice (some ⟨bd, od, none⟩) nd cd) few (i : Int) A) := by rw [hi]; exact h3
    have H4 := Lib.hid h4
    clear hi hpl hpre hxi hyl hdl hyi hdi hna hcd hw h3 h4 hnb HD HY HX
    gi_wp2_with fail
    refine Sch.wpIn_region_tx (Wg g5 g6 g10 bx bb (oo + i * 6) bd (od + i) (.slice (some ⟨bb, oo, none⟩) ny d) (.slice (some ⟨bd, od, none⟩) nd cd) (i : Int) x.2 (x.1 : Int)) (.val 0 (.val 1 (.val 2 (.val 3 (.val 4 (.val 5 (.val 6 (.val 7 (.val 8 (.val 9 (.val 10 (.val 11 (.val 12 (.val 13 (.val 14 (.val 15 (.val 16 (.val 17 (.val 18 (.val 19 .done)))))))))))))))))))) (by kernel_rfl) (by kernel_rfl) (by kernel_rfl) HW.out ?_
    repeat (first
      | (refine Sch.tx_q rfl rfl rfl (fun K hK => ?_); go_big_quiet_op; (first | refine hK _ ?_ | refine ⟨_, fun _ _ => rfl, hK _ ?_⟩); clear hK K)
      | (refine Sch.tx_chk _ _ _ rfl rfl rfl rfl rfl ?_; simp only [Act.put, List.setIfInBounds_toArray, List.set_cons_zero, List.set_cons_succ])
      | (refine Sch.tx_load _ _ _ _ _ rfl rfl rfl rfl (by first | exact Wg.a5 | exact Wg.a6 | exact Wg.a10 | exact Wg.an | exact Wg.ar | exact Wg.az) rfl ?_; simp only [Act.put, List.setIfInBounds_toArray, List.set_cons_zero, List.set_cons_succ]))
    have hge : decide (ny ≤ i) = false := decide_eq_false (by omega)
    rw [hge]
    repeat (first
      | (refine Sch.tx_q rfl rfl rfl (fun K hK => ?_); go_big_quiet_op; (first | refine hK _ ?_ | refine ⟨_, fun _ _ => rfl, hK _ ?_⟩); clear hK K)
      | (refine Sch.tx_chk _ _ _ rfl rfl rfl rfl rfl ?_; simp only [Act.put, List.setIfInBounds_toArray, List.set_cons_zero, List.set_cons_succ])
      | (refine Sch.tx_load _ _ _ _ _ rfl rfl rfl rfl (by first | exact Wg.a5 | exact Wg.a6 | exact Wg.a10 | exact Wg.an | exact Wg.ar | exact Wg.az) rfl ?_; simp only [Act.put, List.setIfInBounds_toArray, List.set_cons_zero, List.set_cons_succ]))
    refine Sch.tx_n ?_
    have hw := (Below.refl A.heap.size A).drew
    have HKw : Hid (Kp [EA] w7.heap.size A A.drew) := Kp.bel hw
    have HI := Lib.hid (H3.out.keep hw)
    have HQd := Lib.hid (H4.out.keep hw)
    generalize A.drew = A1 at *
    clear H3 H4 HW hw hge hx0 hx1 hnq
    have HI2 := Lib.hid (HI.out.next ((i : Int) + 1) HNe.out HG10.out)
    have HQ2 := Lib.hid (HQd.out.box (.int .i64 ((i : Int) + 1)) HI.out.2.2.2.2.2 (by decide) (by decide) (by decide) (by decide))
    have HK2 : Hid (Kp [EA] w7.heap.size A (A1.setCell ⟨g10, 0, none⟩ (.int .i64 ((i : Int) + 1)))) := HKw.out.trans (Kp.gb (gb_setCell _ _ _ _) HI.out.2.2.2.2.2 (by decide))
    have c10 := HI.out.2.2.2.2.2.cell
    have f10 := HI.out.2.2.2.2.2.free
    have e10 := HI2.out.2.2.2.2.2.cell
    have e7 := HI2.out.2.2.2.1.cell
    have e8 := HI2.out.2.2.2.2.1.cell
    have f8 := HI2.out.2.2.2.2.1.free
    by_cases hfe : (i : Int) + 1 = few
    · subst hfe
      gi_wp2
      have hg8 := gb_setCell (A1.setCell ⟨g10, 0, none⟩ (.int .i64 ((i : Int) + 1))) g8 0 (.bool true)
      exact ⟨HK2.out.trans (Kp.gb hg8 HI2.out.2.2.2.2.1 (by decide)), rfl, bel_low HI2.out.1 hg8 (fun x e => by cases e; exact HS.out.2.2.2), HI2.out.2.2.2.2.1.set _, HQ2.out.box _ HI2.out.2.2.2.2.1 (by decide) (by decide) (by decide) (by decide)⟩
    · gi_wp2
      exact ⟨HK2.out, HI2.out, HQ2.out⟩
  case stop =>
    rintro D c A hD ⟨rfl, h1, h2, h3⟩ hK
    have hDw : w.heap.size ≤ D := Nat.le_trans HB7.out.size hD
    have H1 := Lib.hid h1
    have HK := Lib.hid hK
    have HB2 : Hid (Bx (A.putObj D (.deferred none)) g8 (.bool true) 4) := (Bx.abF (tys := []) (B := 0) (by simp)).put _ h2 (Nat.zero_le _) hK rfl
    have hc2 := HB2.out.cell
    clear h1 h2 h3 hK
    gi_wp2
    refine retM1 (v := .bool true) rfl HK.out ?_ ?_
    · rw [results_cell1 (fn := Try.f15) (p := 8) (ty := 4) rfl]
      go_simp
    · exact ⟨rfl, (below_abF (tys := []) (Nat.le_refl _)).put _ H1.out hDw HK.out rfl⟩
  case done =>
    rintro D A hD ⟨h3, h4⟩ hK
    have hDw : w.heap.size ≤ D := Nat.le_trans HB7.out.size hD
    have hlen : (allD (seenL l)).length = ny := by rw [HNy.out, HYe.out, List.length_map]
    rw [hlen] at h3
    have H3 := Lib.hid h3
    have HK := Lib.hid hK
    have c10 := H3.out.2.2.2.2.2.cell
    have c5 := H3.out.2.1.cell
    have c8 := H3.out.2.2.2.2.1.cell
    have f8 := H3.out.2.2.2.2.1.free
    clear h3 h4 hK hlen
    gi_wp2
    have hg := gb_setCell A g8 0 (.bool true)
    have hne : D ≠ g8 := by
      rintro rfl
      have h9 := H3.out.2.2.2.2.1
      unfold Bx at h9
      rw [HK.out] at h9
      cases h9
    have HK2 : Hid ((A.setCell ⟨g8, 0, none⟩ (.bool true)).heap[D]? = some (.deferred (some []))) := (hg.block D (Array.getElem?_eq_some_iff.1 HK.out).1 (by intro e; cases e; exact hne rfl)).trans HK.out
    have HB2 : Hid (Bx ((A.setCell ⟨g8, 0, none⟩ (.bool true)).putObj D (.deferred none)) g8 (.bool true) 4) := (Bx.abF (tys := []) (B := 0) (by simp)).put _ (H3.out.2.2.2.2.1.set _) (Nat.zero_le _) HK2.out rfl
    have hc2 := HB2.out.cell
    refine retM1 (v := .bool true) rfl HK2.out ?_ ?_
    · rw [results_cell1 (fn := Try.f15) (p := 8) (ty := 4) rfl]
      go_simp
    · exact ⟨rfl, (below_abF (tys := []) (Nat.le_refl _)).put _ (bel_low H3.out.1 hg (fun x e => by cases e; exact HS.out.2.2.2)) hDw HK2.out rfl⟩
end Go.Proofs.Yteojbekkbgcmnaa.Un
end

/-
  The examples of the chapter.
-/
section
namespace Go.Proofs.Yteojbekkbgcmnaa.Un
set_option linter.unusedVariables false
open Go.RowKit V Go.Shelf D Nd Qs Wk
attribute [local irreducible] Sch.heldN Sch.stepV Sch.stepE

section
open Go.Proofs.Yteojbekkbgcmnaa.Sch
variable {P : Program} {S : World → Prop} {Q : Exit → Act → World → Prop} {l : List Oper} {i : Nat} {o : Oper} {a : Act} {w : World} {J : Act → World → Prop}
theorem Sch.step_e (ho : Sch.nth l i = some o) (hw : Region.wanted o (yielded l.toArray a.tmps) = true) (h : ∀ K : Act → World → Prop, (∀ a' w', S w' → J a' w' → K a' w') → o.wp P a w K Q) : Sch.stepE P l.toArray Q S i J a w := by
  unfold Sch.stepE
  simp only [Sch.nth_at, ho]
  rw [if_pos hw]
  exact h _ fun a' w' h1 h2 => ⟨h1, h2⟩
theorem Sch.step_load (t : TypeId) (x : Operand) (ad v : Value) (a' : Act) (ho : Sch.nth l i = some o) (hop : o.op = .load t x) (hw : Region.wanted o (yielded l.toArray a.tmps) = true) (hx : a.eval x = ad)
    (hr : ∀ w, S w → (Instr.loadAt t ad).run P w = .ok v w) (he : a.put o.dst v = a') (h : J a' w) : Sch.stepV P l.toArray S i J a w := by
  subst he
  subst hx
  unfold Sch.stepV
  simp only [Sch.nth_at, ho]
  rw [if_pos hw]
  refine ⟨_, fun w' hS => ?_, h⟩
  unfold execOp
  rw [hop]
  simp only [Sem.run_bind, hr w' hS, Result.andThen_ok]
  rfl
theorem Sch.step_q (hc : (match Sch.nth l i with | some o => Sch.calm o.op | none => false) = true) (ho : Sch.nth l i = some o) (hw : Region.wanted o (yielded l.toArray a.tmps) = true) (h : ∀ K : Act → Prop, (∀ a', J a' w → K a') → o.quiet P a S K) : Sch.stepV P l.toArray S i J a w := by
  unfold Sch.stepV
  simp only [Sch.nth_at, ho]
  rw [if_pos hw]
  rw [ho] at hc
  obtain ⟨v, h1, h2⟩ := h (fun a' => J a' w) fun _ h => h
  obtain ⟨u, hu, hK⟩ := Sch.quiet_yields (P := P) (ops := l.toArray) (S := S) hc hw (show o.quiet P a S (fun a' => J a' w) from ⟨v, h1, h2⟩)
  rcases hu with ⟨_, hu⟩ | ⟨hn, _⟩
  · exact ⟨u, hu, hK⟩
  · rw [hw] at hn; cases hn
end
def SlD (w : World) (v : Value) (l : List Dt) : Prop := ∃ a c, v = .slice a l.length c ∧ RowD w a l
theorem SlD.keep {w w' : World} {v : Value} {l : List Dt} (h : SlD w v l) (hb : Below w.heap.size w w') : SlD w' v l := by
  obtain ⟨a, c, h1, h2⟩ := h
  exact ⟨a, c, h1, h2.keep hb⟩
def SlI (w : World) (v : Value) (n : Nat) (l : List Dt) : Prop := ∃ b : Nat, v = .slice (some ⟨b, 0, none⟩) n n ∧ RowD w (some ⟨b, 0, none⟩) l
theorem SlI.keep {w w' : World} {v : Value} {n : Nat} {l : List Dt} (h : SlI w v n l) (hb : Below w.heap.size w w') : SlI w' v n l := by
  obtain ⟨b, h1, h2⟩ := h
  exact ⟨b, h1, h2.keep hb⟩
def bldV (d : Dt) (v : Value) : Value := .agg #[.int .i64 d.1, .int .i64 d.2, v]
def Gk (s : Nat) : Bool := (decide (s / 8 < 3) || decide (s % 2 = 1)) && (decide (s / 8 < 6) || decide (s / 2 % 2 = 1)) && (decide (s / 8 < 9) || decide (s / 4 % 2 = 1))
def Fk (s : Nat) : Bool := decide (s / 8 = 0) || decide (s / 8 = 1) || decide (s / 8 = 3) || decide (s / 8 = 6) || decide (s / 8 = 9) || decide (s / 8 = 11)
def Tv (s : Nat) : List (Nat × Nat) := [((if s / 8 = 0 then 0 else if s / 8 = 1 then 16 else if s / 8 = 3 then 3 else if s / 8 = 6 then 7 else if s / 8 = 9 then 11 else 13), s + 8)]
def Te (s : Nat) : List (Nat × Nat) := (if s % 2 = 0 then [(1, s + 1)] else []) ++ ((if s / 8 = 2 ∧ s % 2 = 1 then [(2, s + 8)] else []) ++ ((if s / 8 = 4 then [(4, s + 8)] else []) ++ ((if s / 2 % 2 = 0 then [(5, s + 2)] else []) ++ ((if s / 8 = 5 ∧ s / 2 % 2 = 1 then [(6, s + 8)] else []) ++ ((if s / 8 = 7 then [(8, s + 8)] else []) ++ ((if s / 4 % 2 = 0 then [(9, s + 4)] else []) ++ ((if s / 8 = 8 ∧ s / 4 % 2 = 1 then [(10, s + 8)] else []) ++ (if s / 8 = 10 then [(12, s + 8)] else []))))))))
def Tk (s : Nat) : List (Nat × Nat) := if Fk s = true then Tv s else Te s
def Lk (s : Nat) : List Bool := [decide (0 < s / 8), decide (s % 2 = 1), decide (2 < s / 8), decide (3 < s / 8), decide (4 < s / 8), decide (s / 2 % 2 = 1), decide (5 < s / 8), decide (6 < s / 8), decide (7 < s / 8), decide (s / 4 % 2 = 1), decide (8 < s / 8), decide (9 < s / 8), decide (10 < s / 8), decide (11 < s / 8), false, false, decide (1 < s / 8)]
def exD (k : Nat) : Dt := if k = 0 then (0, 0) else if k = 1 then (1, 1) else if k = 2 then (9, 9) else (5, 5)
def exW (k : Nat) : List Dt := if k = 0 then [(1, 4), (1, 1)] else if k = 1 then [(2, 2), (1, 2)] else if k = 2 then [(3, 4)] else []
theorem ex_child : ∀ k, k < 4 → ((childP exL (exD k)).1.map (·.1) = exW k ∧ (childP exL (exD k)).2 = 0 ∧ (childP exL (exD k)).1.length ≤ 8) ∧ (exW k).length ≤ 8 := by decide +kernel
/-- The rows of the examples. -/
def Kt (w : World) (b : Nat) : Prop := ∀ k, k < 4 → ∃ (v : Value), w.cell? ⟨b, k * 3, none⟩ = some (.int .i64 (exD k).1) ∧ w.cell? ⟨b, k * 3 + 1, none⟩ = some (.int .i64 (exD k).2) ∧ w.cell? ⟨b, k * 3 + 2, none⟩ = some v ∧ SlD w v (exW k)
theorem Kt.keep {w w' : World} {b : Nat} (h : Kt w b) (hb : Below w.heap.size w w') : Kt w' b := fun k hk => by
  obtain ⟨v, h1, h2, h3, h4⟩ := h k hk
  exact ⟨v, (hb.cell (p := ⟨b, _, none⟩) (lt_of_cell h1)).trans h1, (hb.cell (p := ⟨b, _, none⟩) (lt_of_cell h2)).trans h2, (hb.cell (p := ⟨b, _, none⟩) (lt_of_cell h3)).trans h3, h4.keep hb⟩
theorem load_slD {w : World} {B : Nat} {v : Value} (hc : w.cell? ⟨B, 2, none⟩ = some v) : (Instr.loadAt 41 (.pointer (some ⟨B, 2, none⟩))).run Try.prog w = .ok v w := by
  go_simp
/-- What is reached. -/
def exO : List Nt := (orderP exL).1
theorem ex_order : orderP exL = (exO, 0) := by decide +kernel
theorem exO_dots : exO.map (·.1) = [(1, 4), (1, 1), (2, 2), (1, 2), (2, 3)] := by decide +kernel
theorem exO_all : exO = (allD (seenL exL)).map (·.2) := by decide +kernel
theorem exO_dep : ([0, 0, 1, 1, 2] : List Int) = (allD (seenL exL)).map (fun x => (x.1 : Int)) := by decide +kernel
theorem ex_lost : lostP exL = ([(3, 4), (3, 5), (3, 6)], 0) := by decide +kernel
theorem ex_path1 : pathP exL (2, 3) = ([(1, 1), (1, 2), (2, 3)], 0) := by decide +kernel
theorem ex_path2 : pathP exL (3, 5) = ([], 9) := by decide +kernel
theorem ex_below1 : belowP exL (1, 1) = ([(2, 2), (1, 2), (2, 3)], 0) := by decide +kernel
theorem ex_below2 : belowP exL (2, 3) = ([], 0) := by decide +kernel
theorem ex_below3 : belowP exL (9, 9) = ([], 9) := by decide +kernel
set_option maxRecDepth 100000 in
/-- What holds in a state of the region. -/
def KJ (w0 : World) (g g2 s : Nat) (a : Act) (w : World) : Prop :=
  ∃ (y11 u12 y13 y14 y15 u16 y17 y18 y19 u20 y21 y22 y23 y24 y27 : Value), a = { tmps := List.toArray (.bool false :: .slice (some ⟨g, 0, none⟩) 8 8 :: .pointer (some ⟨g2, 0, none⟩) :: undef :: undef :: undef :: undef :: undef :: undef :: .slice (some ⟨g, 0, none⟩) 8 8 :: .agg #[.int .i64 0, .int .i64 0] :: y11 :: u12 :: y13 :: y14 :: y15 :: u16 :: y17 :: y18 :: y19 :: u20 :: y21 :: y22 :: y23 :: y24 :: undef :: undef :: y27 :: undef :: undef :: undef :: undef :: undef :: undef :: undef :: undef :: undef :: undef :: undef :: undef :: undef :: undef :: undef :: undef :: undef :: undef :: undef :: undef :: undef :: undef :: undef :: undef :: undef :: undef :: undef :: undef :: undef :: undef :: undef :: undef :: undef :: undef :: undef :: undef :: undef :: undef :: undef :: undef :: undef :: undef :: undef :: undef :: undef :: undef :: undef :: undef :: undef :: undef :: undef :: undef :: undef :: undef :: undef :: undef :: undef :: undef :: undef :: undef :: undef :: undef :: undef :: undef :: undef :: undef :: undef :: undef :: undef :: undef :: undef :: undef :: undef :: undef :: undef :: undef :: []), defers := [] } ∧
    (Hid (0 < s / 8 → y11 = dv (0, 0)) ∧ Hid (1 < s / 8 → y27 = .int .i64 0) ∧ Hid (2 < s / 8 → SlD w y13 [(1, 4), (1, 1)]) ∧ Hid (3 < s / 8 → y14 = bldV (0, 0) y13) ∧ Hid (4 < s / 8 → y15 = dv (1, 1)) ∧ Hid (5 < s / 8 → SlD w y17 [(2, 2), (1, 2)]) ∧ Hid (6 < s / 8 → y18 = bldV (1, 1) y17) ∧ Hid (7 < s / 8 → y19 = dv (9, 9)) ∧ Hid (8 < s / 8 → SlD w y21 [(3, 4)]) ∧ Hid (9 < s / 8 → y22 = bldV (9, 9) y21) ∧ Hid (10 < s / 8 → y23 = dv (5, 5)) ∧ Hid (11 < s / 8 → y24 = bldV (5, 5) (.slice none 0 0))) ∧ (Hid (s % 2 = 1 → SlI w u12 4 [(1, 4), (1, 1)]) ∧ Hid (s / 2 % 2 = 1 → SlI w u16 4 [(2, 2), (1, 2)]) ∧ Hid (s / 4 % 2 = 1 → SlI w u20 2 [(3, 4)])) ∧ Hid (RowN w (some ⟨g, 0, none⟩) exL) ∧ Hid (Below w0.heap.size w0 w)

set_option maxRecDepth 100000 in
set_option maxHeartbeats 8000000 in
theorem known_any (w : World) : Calls Try.prog 7 #[] w fun e w' => e = .returned (.bool true) ∧ Below w.heap.size w w' := by
  have HGi := Lib.hid (given_any w)
  go_enter Try.func7, Try.ntmps7
  go_wp2_with fail
  refine HGi.out.mono ?_
  rintro e w1 ⟨g, rfl, hx, hb⟩
  have HX := Lib.hid hx
  have HB := Lib.hid hb
  clear hx hb HGi
  go_wp2_with fail
  have hbx := bel_box w1 (.cells #[.int .i64 0, .int .i64 0] 24)
  have HD := Lib.hid (bd_new w1 (0, 0))
  replace HX := Lib.hid (HX.out.keep hbx)
  replace HB := Lib.hid (bel_tr HB.out hbx)
  clear hbx
  generalize w1.heap.size = g2 at *
  generalize w1.alloc (.cells #[.int .i64 0, .int .i64 0] 24) = w2 at *
  have hd := (Below.refl w2.heap.size w2).drew
  replace HX := Lib.hid (HX.out.keep hd)
  replace HB := Lib.hid (bel_tr HB.out hd)
  replace HD := Lib.hid (HD.out.keep hd)
  clear hd
  refine Sch.wp_region_statesK (fun w => Bd w g2 (0, 0)) Gk Fk Lk Tk 103 (.one 14 (.val 15 .done)) (by kernel_rfl) (by kernel_rfl) (KJ w g g2) HD.out ?_ ?_ ?_ ?_
  · exact ⟨_, _, _, _, _, _, _, _, _, _, _, _, _, _, _, rfl, ⟨fun h => absurd h (by decide), fun h => absurd h (by decide), fun h => absurd h (by decide), fun h => absurd h (by decide), fun h => absurd h (by decide), fun h => absurd h (by decide), fun h => absurd h (by decide), fun h => absurd h (by decide), fun h => absurd h (by decide), fun h => absurd h (by decide), fun h => absurd h (by decide), fun h => absurd h (by decide)⟩, ⟨fun h => absurd h (by decide), fun h => absurd h (by decide), fun h => absurd h (by decide)⟩, HX, HB⟩
  · rintro s hs hF x hx a w3 hS ⟨y11, u12, y13, y14, y15, u16, y17, y18, y19, u20, y21, y22, y23, y24, y27, rfl, ⟨h0, h1, h2, h3, h4, h5, h6, h7, h8, h9, h10, h11⟩, ⟨b0, b1, b2⟩, HX, HB⟩
    have hx : x ∈ Tv s := by unfold Tk at hx; rwa [if_pos hF] at hx
    unfold Tv at hx
    rw [List.mem_singleton] at hx
    have hc6 : s / 8 = 0 ∨ s / 8 = 1 ∨ s / 8 = 3 ∨ s / 8 = 6 ∨ s / 8 = 9 ∨ s / 8 = 11 := by simpa [Fk, or_assoc] using hF
    rcases hc6 with hc | hc | hc | hc | hc | hc
    · obtain rfl : x = (0, s + 8) := by rw [hx]; simp [hc]
      refine Sch.step_load _ _ _ _ _ rfl rfl rfl rfl (fun w h => load_dotB h) rfl ?_
      exact ⟨_, u12, y13, y14, y15, u16, y17, y18, y19, u20, y21, y22, y23, y24, y27, rfl, ⟨fun _ => rfl, fun h => h1.out (by omega), fun h => h2.out (by omega), fun h => h3.out (by omega), fun h => h4.out (by omega), fun h => h5.out (by omega), fun h => h6.out (by omega), fun h => h7.out (by omega), fun h => h8.out (by omega), fun h => h9.out (by omega), fun h => h10.out (by omega), fun h => h11.out (by omega)⟩, ⟨fun h => b0.out (by omega), fun h => b1.out (by omega), fun h => b2.out (by omega)⟩, HX, HB⟩
    · obtain rfl : x = (16, s + 8) := by rw [hx]; simp [hc]
      show Sch.stepV _ _ _ 16 (KJ w g g2 (s + 8)) _ _
      refine Sch.step_q rfl rfl rfl (fun K hK => ?_)
      go_big_quiet_op
      refine hK _ ?_
      exact ⟨y11, u12, y13, y14, y15, u16, y17, y18, y19, u20, y21, y22, y23, y24, _, rfl, ⟨fun h => h0.out (by omega), fun _ => rfl, fun h => h2.out (by omega), fun h => h3.out (by omega), fun h => h4.out (by omega), fun h => h5.out (by omega), fun h => h6.out (by omega), fun h => h7.out (by omega), fun h => h8.out (by omega), fun h => h9.out (by omega), fun h => h10.out (by omega), fun h => h11.out (by omega)⟩, ⟨fun h => b0.out (by omega), fun h => b1.out (by omega), fun h => b2.out (by omega)⟩, HX, HB⟩
    · obtain rfl : x = (3, s + 8) := by rw [hx]; simp [hc]
      obtain ⟨sa, sc, rfl, hr⟩ := h2.out (by omega)
      obtain rfl := h0.out (by omega)
      show Sch.stepV _ _ _ 3 (KJ w g g2 (s + 8)) _ _
      refine Sch.step_q rfl rfl rfl (fun K hK => ?_)
      go_big_quiet_op
      refine ⟨_, fun _ _ => rfl, hK _ ?_⟩
      exact ⟨_, u12, _, _, y15, u16, y17, y18, y19, u20, y21, y22, y23, y24, y27, rfl, ⟨fun _ => rfl, fun h => h1.out (by omega), fun _ => ⟨sa, sc, rfl, hr⟩, fun _ => rfl, fun h => h4.out (by omega), fun h => h5.out (by omega), fun h => h6.out (by omega), fun h => h7.out (by omega), fun h => h8.out (by omega), fun h => h9.out (by omega), fun h => h10.out (by omega), fun h => h11.out (by omega)⟩, ⟨fun h => b0.out (by omega), fun h => b1.out (by omega), fun h => b2.out (by omega)⟩, HX, HB⟩
    · obtain rfl : x = (7, s + 8) := by rw [hx]; simp [hc]
      obtain ⟨sa, sc, rfl, hr⟩ := h5.out (by omega)
      obtain rfl := h4.out (by omega)
      show Sch.stepV _ _ _ 7 (KJ w g g2 (s + 8)) _ _
      refine Sch.step_q rfl rfl rfl (fun K hK => ?_)
      go_big_quiet_op
      refine ⟨_, fun _ _ => rfl, hK _ ?_⟩
      exact ⟨y11, u12, y13, y14, _, u16, _, _, y19, u20, y21, y22, y23, y24, y27, rfl, ⟨fun h => h0.out (by omega), fun h => h1.out (by omega), fun h => h2.out (by omega), fun h => h3.out (by omega), fun _ => rfl, fun _ => ⟨sa, sc, rfl, hr⟩, fun _ => rfl, fun h => h7.out (by omega), fun h => h8.out (by omega), fun h => h9.out (by omega), fun h => h10.out (by omega), fun h => h11.out (by omega)⟩, ⟨fun h => b0.out (by omega), fun h => b1.out (by omega), fun h => b2.out (by omega)⟩, HX, HB⟩
    · obtain rfl : x = (11, s + 8) := by rw [hx]; simp [hc]
      obtain ⟨sa, sc, rfl, hr⟩ := h8.out (by omega)
      obtain rfl := h7.out (by omega)
      show Sch.stepV _ _ _ 11 (KJ w g g2 (s + 8)) _ _
      refine Sch.step_q rfl rfl rfl (fun K hK => ?_)
      go_big_quiet_op
      refine ⟨_, fun _ _ => rfl, hK _ ?_⟩
      exact ⟨y11, u12, y13, y14, y15, u16, y17, y18, _, u20, _, _, y23, y24, y27, rfl, ⟨fun h => h0.out (by omega), fun h => h1.out (by omega), fun h => h2.out (by omega), fun h => h3.out (by omega), fun h => h4.out (by omega), fun h => h5.out (by omega), fun h => h6.out (by omega), fun _ => rfl, fun _ => ⟨sa, sc, rfl, hr⟩, fun _ => rfl, fun h => h10.out (by omega), fun h => h11.out (by omega)⟩, ⟨fun h => b0.out (by omega), fun h => b1.out (by omega), fun h => b2.out (by omega)⟩, HX, HB⟩
    · obtain rfl : x = (13, s + 8) := by rw [hx]; simp [hc]
      obtain rfl := h10.out (by omega)
      show Sch.stepV _ _ _ 13 (KJ w g g2 (s + 8)) _ _
      refine Sch.step_q rfl rfl rfl (fun K hK => ?_)
      go_big_quiet_op
      refine ⟨_, fun _ _ => rfl, hK _ ?_⟩
      exact ⟨y11, u12, y13, y14, y15, u16, y17, y18, y19, u20, y21, y22, _, _, y27, rfl, ⟨fun h => h0.out (by omega), fun h => h1.out (by omega), fun h => h2.out (by omega), fun h => h3.out (by omega), fun h => h4.out (by omega), fun h => h5.out (by omega), fun h => h6.out (by omega), fun h => h7.out (by omega), fun h => h8.out (by omega), fun h => h9.out (by omega), fun _ => rfl, fun _ => rfl⟩, ⟨fun h => b0.out (by omega), fun h => b1.out (by omega), fun h => b2.out (by omega)⟩, HX, HB⟩
  · rintro s hs hF x hx a w3 hS ⟨y11, u12, y13, y14, y15, u16, y17, y18, y19, u20, y21, y22, y23, y24, y27, rfl, ⟨h0, h1, h2, h3, h4, h5, h6, h7, h8, h9, h10, h11⟩, ⟨b0, b1, b2⟩, HX, HB⟩
    have hx : x ∈ Te s := by unfold Tk at hx; rwa [if_neg (by rw [hF]; decide)] at hx
    unfold Te at hx
    simp only [List.mem_append] at hx
    rcases hx with hx | hx | hx | hx | hx | hx | hx | hx | hx
    · split at hx
      case isFalse => simp at hx
      rename_i hc
      obtain rfl : x = (1, s + 1) := by simpa using hx
      refine Sch.step_e rfl rfl (fun K hK => ?_)
      have hb := bel_box w3 (.cells #[.int .i64 1, .int .i64 4, .int .i64 1, .int .i64 1] 3)
      have hr := RowD.lit w3 [(1, 4), (1, 1)] #[.int .i64 1, .int .i64 4, .int .i64 1, .int .i64 1] 3 (0, 0) rfl
      have HX2 := Lib.hid (HX.out.keep hb)
      have HB2 := Lib.hid (bel_tr HB.out hb)
      go_wp2_with fail
      refine hK _ _ (hS.keep hb) ⟨y11, _, y13, y14, y15, u16, y17, y18, y19, u20, y21, y22, y23, y24, y27, rfl, ⟨fun h => h0.out (by omega), fun h => h1.out (by omega), fun h => (h2.out (by omega)).keep hb, fun h => h3.out (by omega), fun h => h4.out (by omega), fun h => (h5.out (by omega)).keep hb, fun h => h6.out (by omega), fun h => h7.out (by omega), fun h => (h8.out (by omega)).keep hb, fun h => h9.out (by omega), fun h => h10.out (by omega), fun h => h11.out (by omega)⟩, ⟨fun _ => ⟨_, rfl, hr⟩, fun h => (b1.out (by omega)).keep hb, fun h => (b2.out (by omega)).keep hb⟩, HX2, HB2⟩
    · split at hx
      case isFalse => simp at hx
      rename_i hc
      obtain rfl : x = (2, s + 8) := by simpa using hx
      obtain ⟨gb, rfl, hrb⟩ := b0.out (by omega)
      refine Sch.step_e rfl rfl (fun K hK => ?_)
      go_wp2_with fail
      refine (dots_any [(1, 4), (1, 1)] 4 _ _ _ rfl hrb (by decide)).mono ?_
      rintro e w4 ⟨v9, rfl, ho, hb⟩
      obtain ⟨a9, c9, rfl, hr9, -⟩ := ho.row
      have HX2 := Lib.hid (HX.out.keep hb)
      have HB2 := Lib.hid (bel_tr HB.out hb)
      refine hK _ _ (hS.keep hb) ⟨y11, _, _, y14, y15, u16, y17, y18, y19, u20, y21, y22, y23, y24, y27, rfl, ⟨fun h => h0.out (by omega), fun h => h1.out (by omega), fun _ => ⟨_, _, rfl, hr9⟩, fun h => absurd h (by omega), fun h => h4.out (by omega), fun h => (h5.out (by omega)).keep hb, fun h => h6.out (by omega), fun h => h7.out (by omega), fun h => (h8.out (by omega)).keep hb, fun h => h9.out (by omega), fun h => h10.out (by omega), fun h => h11.out (by omega)⟩, ⟨fun _ => ⟨_, rfl, hrb.keep hb⟩, fun h => (b1.out (by omega)).keep hb, fun h => (b2.out (by omega)).keep hb⟩, HX2, HB2⟩
    · split at hx
      case isFalse => simp at hx
      rename_i hc
      obtain rfl : x = (4, s + 8) := by simpa using hx
      refine Sch.step_e rfl rfl (fun K hK => ?_)
      go_wp2_with fail
      refine (at_any 1 1 _).mono ?_
      rintro e w4 ⟨rfl, hb⟩
      have HX2 := Lib.hid (HX.out.keep hb)
      have HB2 := Lib.hid (bel_tr HB.out hb)
      refine hK _ _ (hS.keep hb) ⟨y11, u12, y13, y14, _, u16, y17, y18, y19, u20, y21, y22, y23, y24, y27, rfl, ⟨fun h => h0.out (by omega), fun h => h1.out (by omega), fun h => (h2.out (by omega)).keep hb, fun h => h3.out (by omega), fun _ => rfl, fun h => (h5.out (by omega)).keep hb, fun h => h6.out (by omega), fun h => h7.out (by omega), fun h => (h8.out (by omega)).keep hb, fun h => h9.out (by omega), fun h => h10.out (by omega), fun h => h11.out (by omega)⟩, ⟨fun h => (b0.out (by omega)).keep hb, fun h => (b1.out (by omega)).keep hb, fun h => (b2.out (by omega)).keep hb⟩, HX2, HB2⟩
    · split at hx
      case isFalse => simp at hx
      rename_i hc
      obtain rfl : x = (5, s + 2) := by simpa using hx
      refine Sch.step_e rfl rfl (fun K hK => ?_)
      have hb := bel_box w3 (.cells #[.int .i64 2, .int .i64 2, .int .i64 1, .int .i64 2] 3)
      have hr := RowD.lit w3 [(2, 2), (1, 2)] #[.int .i64 2, .int .i64 2, .int .i64 1, .int .i64 2] 3 (0, 0) rfl
      have HX2 := Lib.hid (HX.out.keep hb)
      have HB2 := Lib.hid (bel_tr HB.out hb)
      go_wp2_with fail
      refine hK _ _ (hS.keep hb) ⟨y11, u12, y13, y14, y15, _, y17, y18, y19, u20, y21, y22, y23, y24, y27, rfl, ⟨fun h => h0.out (by omega), fun h => h1.out (by omega), fun h => (h2.out (by omega)).keep hb, fun h => h3.out (by omega), fun h => h4.out (by omega), fun h => (h5.out (by omega)).keep hb, fun h => h6.out (by omega), fun h => h7.out (by omega), fun h => (h8.out (by omega)).keep hb, fun h => h9.out (by omega), fun h => h10.out (by omega), fun h => h11.out (by omega)⟩, ⟨fun h => (b0.out (by omega)).keep hb, fun _ => ⟨_, rfl, hr⟩, fun h => (b2.out (by omega)).keep hb⟩, HX2, HB2⟩
    · split at hx
      case isFalse => simp at hx
      rename_i hc
      obtain rfl : x = (6, s + 8) := by simpa using hx
      obtain ⟨gb, rfl, hrb⟩ := b1.out (by omega)
      refine Sch.step_e rfl rfl (fun K hK => ?_)
      go_wp2_with fail
      refine (dots_any [(2, 2), (1, 2)] 4 _ _ _ rfl hrb (by decide)).mono ?_
      rintro e w4 ⟨v9, rfl, ho, hb⟩
      obtain ⟨a9, c9, rfl, hr9, -⟩ := ho.row
      have HX2 := Lib.hid (HX.out.keep hb)
      have HB2 := Lib.hid (bel_tr HB.out hb)
      refine hK _ _ (hS.keep hb) ⟨y11, u12, y13, y14, y15, _, _, y18, y19, u20, y21, y22, y23, y24, y27, rfl, ⟨fun h => h0.out (by omega), fun h => h1.out (by omega), fun h => (h2.out (by omega)).keep hb, fun h => h3.out (by omega), fun h => h4.out (by omega), fun _ => ⟨_, _, rfl, hr9⟩, fun h => absurd h (by omega), fun h => h7.out (by omega), fun h => (h8.out (by omega)).keep hb, fun h => h9.out (by omega), fun h => h10.out (by omega), fun h => h11.out (by omega)⟩, ⟨fun h => (b0.out (by omega)).keep hb, fun _ => ⟨_, rfl, hrb.keep hb⟩, fun h => (b2.out (by omega)).keep hb⟩, HX2, HB2⟩
    · split at hx
      case isFalse => simp at hx
      rename_i hc
      obtain rfl : x = (8, s + 8) := by simpa using hx
      refine Sch.step_e rfl rfl (fun K hK => ?_)
      go_wp2_with fail
      refine (at_any 9 9 _).mono ?_
      rintro e w4 ⟨rfl, hb⟩
      have HX2 := Lib.hid (HX.out.keep hb)
      have HB2 := Lib.hid (bel_tr HB.out hb)
      refine hK _ _ (hS.keep hb) ⟨y11, u12, y13, y14, y15, u16, y17, y18, _, u20, y21, y22, y23, y24, y27, rfl, ⟨fun h => h0.out (by omega), fun h => h1.out (by omega), fun h => (h2.out (by omega)).keep hb, fun h => h3.out (by omega), fun h => h4.out (by omega), fun h => (h5.out (by omega)).keep hb, fun h => h6.out (by omega), fun _ => rfl, fun h => (h8.out (by omega)).keep hb, fun h => h9.out (by omega), fun h => h10.out (by omega), fun h => h11.out (by omega)⟩, ⟨fun h => (b0.out (by omega)).keep hb, fun h => (b1.out (by omega)).keep hb, fun h => (b2.out (by omega)).keep hb⟩, HX2, HB2⟩
    · split at hx
      case isFalse => simp at hx
      rename_i hc
      obtain rfl : x = (9, s + 4) := by simpa using hx
      refine Sch.step_e rfl rfl (fun K hK => ?_)
      have hb := bel_box w3 (.cells #[.int .i64 3, .int .i64 4] 3)
      have hr := RowD.lit w3 [(3, 4)] #[.int .i64 3, .int .i64 4] 3 (0, 0) rfl
      have HX2 := Lib.hid (HX.out.keep hb)
      have HB2 := Lib.hid (bel_tr HB.out hb)
      go_wp2_with fail
      refine hK _ _ (hS.keep hb) ⟨y11, u12, y13, y14, y15, u16, y17, y18, y19, _, y21, y22, y23, y24, y27, rfl, ⟨fun h => h0.out (by omega), fun h => h1.out (by omega), fun h => (h2.out (by omega)).keep hb, fun h => h3.out (by omega), fun h => h4.out (by omega), fun h => (h5.out (by omega)).keep hb, fun h => h6.out (by omega), fun h => h7.out (by omega), fun h => (h8.out (by omega)).keep hb, fun h => h9.out (by omega), fun h => h10.out (by omega), fun h => h11.out (by omega)⟩, ⟨fun h => (b0.out (by omega)).keep hb, fun h => (b1.out (by omega)).keep hb, fun _ => ⟨_, rfl, hr⟩⟩, HX2, HB2⟩
    · split at hx
      case isFalse => simp at hx
      rename_i hc
      obtain rfl : x = (10, s + 8) := by simpa using hx
      obtain ⟨gb, rfl, hrb⟩ := b2.out (by omega)
      refine Sch.step_e rfl rfl (fun K hK => ?_)
      go_wp2_with fail
      refine (dots_any [(3, 4)] 2 _ _ _ rfl hrb (by decide)).mono ?_
      rintro e w4 ⟨v9, rfl, ho, hb⟩
      obtain ⟨a9, c9, rfl, hr9, -⟩ := ho.row
      have HX2 := Lib.hid (HX.out.keep hb)
      have HB2 := Lib.hid (bel_tr HB.out hb)
      refine hK _ _ (hS.keep hb) ⟨y11, u12, y13, y14, y15, u16, y17, y18, y19, _, _, y22, y23, y24, y27, rfl, ⟨fun h => h0.out (by omega), fun h => h1.out (by omega), fun h => (h2.out (by omega)).keep hb, fun h => h3.out (by omega), fun h => h4.out (by omega), fun h => (h5.out (by omega)).keep hb, fun h => h6.out (by omega), fun h => h7.out (by omega), fun _ => ⟨_, _, rfl, hr9⟩, fun h => absurd h (by omega), fun h => h10.out (by omega), fun h => h11.out (by omega)⟩, ⟨fun h => (b0.out (by omega)).keep hb, fun h => (b1.out (by omega)).keep hb, fun _ => ⟨_, rfl, hrb.keep hb⟩⟩, HX2, HB2⟩
    · split at hx
      case isFalse => simp at hx
      rename_i hc
      obtain rfl : x = (12, s + 8) := by simpa using hx
      refine Sch.step_e rfl rfl (fun K hK => ?_)
      go_wp2_with fail
      refine (at_any 5 5 _).mono ?_
      rintro e w4 ⟨rfl, hb⟩
      have HX2 := Lib.hid (HX.out.keep hb)
      have HB2 := Lib.hid (bel_tr HB.out hb)
      refine hK _ _ (hS.keep hb) ⟨y11, u12, y13, y14, y15, u16, y17, y18, y19, u20, y21, y22, _, y24, y27, rfl, ⟨fun h => h0.out (by omega), fun h => h1.out (by omega), fun h => (h2.out (by omega)).keep hb, fun h => h3.out (by omega), fun h => h4.out (by omega), fun h => (h5.out (by omega)).keep hb, fun h => h6.out (by omega), fun h => h7.out (by omega), fun h => (h8.out (by omega)).keep hb, fun h => h9.out (by omega), fun _ => rfl, fun h => h11.out (by omega)⟩, ⟨fun h => (b0.out (by omega)).keep hb, fun h => (b1.out (by omega)).keep hb, fun h => (b2.out (by omega)).keep hb⟩, HX2, HB2⟩
  · rintro a w3 hS ⟨y11, u12, y13, y14, y15, u16, y17, y18, y19, u20, y21, y22, y23, y24, y27, rfl, ⟨h0, h1, h2, h3, h4, h5, h6, h7, h8, h9, h10, h11⟩, ⟨b0, b1, b2⟩, HX, HB⟩
    obtain ⟨a1, c1, rfl, hr1⟩ := h2.out (by omega)
    obtain ⟨a2, c2, rfl, hr2⟩ := h5.out (by omega)
    obtain ⟨a3, c3, rfl, hr3⟩ := h8.out (by omega)
    obtain ⟨gb1, rfl, -⟩ := b0.out (by omega)
    obtain ⟨gb2, rfl, -⟩ := b1.out (by omega)
    obtain ⟨gb3, rfl, -⟩ := b2.out (by omega)
    obtain rfl := h0.out (by omega)
    obtain rfl := h1.out (by omega)
    obtain rfl := h3.out (by omega)
    obtain rfl := h4.out (by omega)
    obtain rfl := h6.out (by omega)
    obtain rfl := h7.out (by omega)
    obtain rfl := h9.out (by omega)
    obtain rfl := h10.out (by omega)
    obtain rfl := h11.out (by omega)
    have HR1 := Lib.hid hr1
    have HR2 := Lib.hid hr2
    have HR3 := Lib.hid hr3
    clear h0 h1 h2 h3 h4 h5 h6 h7 h8 h9 h10 h11 b0 b1 b2 hr1 hr2 hr3
    dsimp only [bldV, dv, List.length_cons, List.length_nil, Nat.reduceAdd]
    have hbn := bel_box w3 (.cells #[.int .i64 0, .int .i64 0, .slice a1 2 c1, .int .i64 1, .int .i64 1, .slice a2 2 c2, .int .i64 9, .int .i64 9, .slice a3 1 c3, .int .i64 5, .int .i64 5, .slice none 0 0] 61)
    have HK : Hid (Kt (w3.alloc (.cells #[.int .i64 0, .int .i64 0, .slice a1 2 c1, .int .i64 1, .int .i64 1, .slice a2 2 c2, .int .i64 9, .int .i64 9, .slice a3 1 c3, .int .i64 5, .int .i64 5, .slice none 0 0] 61)) w3.heap.size) := by
      intro k hk
      have hc : k = 0 ∨ k = 1 ∨ k = 2 ∨ k = 3 := by omega
      rcases hc with rfl | rfl | rfl | rfl
      · exact ⟨.slice a1 2 c1, by go_simp; rfl, by go_simp; rfl, by go_simp, ⟨a1, c1, rfl, HR1.out.keep hbn⟩⟩
      · exact ⟨.slice a2 2 c2, by go_simp; rfl, by go_simp; rfl, by go_simp, ⟨a2, c2, rfl, HR2.out.keep hbn⟩⟩
      · exact ⟨.slice a3 1 c3, by go_simp; rfl, by go_simp; rfl, by go_simp, ⟨a3, c3, rfl, HR3.out.keep hbn⟩⟩
      · exact ⟨.slice none 0 0, by go_simp; rfl, by go_simp; rfl, by go_simp, ⟨none, 0, rfl, .inl rfl⟩⟩
    have HX2 := Lib.hid (HX.out.keep hbn)
    have HB2 := Lib.hid (bel_tr HB.out hbn)
    have HS2 := Lib.hid (hS.keep hbn)
    clear hbn HR1 HR2 HR3 HX HB hS HD
    refine Sch.tn_e rfl rfl (fun K hK => ?_)
    go_wp2_with fail
    refine hK _ _ HS2.out ?_
    clear hK K
    generalize w3.alloc (.cells #[.int .i64 0, .int .i64 0, .slice a1 2 c1, .int .i64 1, .int .i64 1, .slice a2 2 c2, .int .i64 9, .int .i64 9, .slice a3 1 c3, .int .i64 5, .int .i64 5, .slice none 0 0] 61) = w4 at *
    generalize w3.heap.size = b at *
    repeat (first
      | (refine Sch.tn_q rfl rfl rfl (fun K hK => ?_); go_big_quiet_op; (first | refine hK _ ?_ | refine ⟨_, fun _ _ => rfl, hK _ ?_⟩); clear hK K)
      | (refine Sch.tn_chk _ _ _ rfl rfl rfl rfl rfl ?_; simp only [Act.put, List.setIfInBounds_toArray, List.set_cons_zero, List.set_cons_succ])
      | (refine Sch.tn_load _ _ _ _ _ rfl rfl rfl rfl (by first | exact (fun w h => load_dotB h)) rfl ?_; simp only [Act.put, List.setIfInBounds_toArray, List.set_cons_zero, List.set_cons_succ]))
    refine Sch.tn_n ?_
    go_wp2_with fail
    go_loopw [4, 5, 6, 27] (fun _ _ _ i wr => ∃ k : Nat, k ≤ 4 ∧ i = .int .i64 (k : Int) ∧ Hid (Below w.heap.size w wr) ∧ Hid (Kt wr b) ∧ Hid (RowN wr (some ⟨g, 0, none⟩) exL) ∧ Hid (Bd wr g2 (0, 0))) (fun _ _ _ i _ => 4 - (intOf i).toNat)
    case atStart => exact ⟨0, by omega, rfl, HB2, HK, HX2, HS2⟩
    case round =>
      obtain ⟨k, hk, rfl, HB, HK, HX, HS⟩ := hrel
      by_cases hlt : k < 4
      · have hi0 : (k : Int) < 4 := by omega
        obtain ⟨v, k0, k1, k2, ak, ck, rfl, hr⟩ := HK.out k hlt
        obtain ⟨⟨e1, e2, e3⟩, e4⟩ := ex_child k hlt
        obtain ⟨C, hC⟩ : ∃ C, childP exL (exD k) = (C, 0) := ⟨_, by rw [← e2]⟩
        rw [hC] at e1 e3
        obtain ⟨⟨d1, d2⟩, hD⟩ : ∃ D, D = exD k := ⟨_, rfl⟩
        rw [← hD] at k0 k1 hC
        have HCh : Hid (∀ w, RowN w (some ⟨g, 0, none⟩) exL → Calls Try.prog 11 #[.slice (some ⟨g, 0, none⟩) 8 8, .agg #[.int .i64 d1, .int .i64 d2]] w fun e w' => ∃ v, e = .returned (.tuple #[v, .int .i64 0]) ∧ ON w' w.heap.size EN v C ∧ Below w.heap.size w w') := fun w h => by
          have := child_prog exL (d1, d2) (some ⟨g, 0, none⟩) 8 w h (by decide)
          rw [hC] at this
          exact this
        have HR := Lib.hid hr
        have HE1 := Lib.hid e1
        have HE3 : Hid (C.length ≤ 8) := e3
        have HE4 := Lib.hid e4
        generalize exW k = W at *
        have hbx := bel_box wr (.cells #[.int .i64 d1, .int .i64 d2, .slice ak W.length ck] 61)
        have HBb := Lib.hid (bel_tr HB.out hbx)
        have HKb := Lib.hid (HK.out.keep hbx)
        have HXb := Lib.hid (HX.out.keep hbx)
        have HSb := Lib.hid (HS.out.keep hbx)
        have HRb := Lib.hid (HR.out.keep hbx)
        have HW : Hid ((wr.alloc (.cells #[.int .i64 d1, .int .i64 d2, .slice ak W.length ck] 61)).cell? ⟨wr.heap.size, 2, none⟩ = some (.slice ak W.length ck)) := by show _ = _; go_simp
        clear hr e1 e2 e3 e4 hC hD hbx HB HX HS HR
        go_wp2_with fail
        refine (HCh.out _ HXb.out).mono ?_
        rintro e w5 ⟨v, rfl, ho, hb⟩
        obtain ⟨a5, c5, rfl, hr5, -⟩ := ON.row ho
        have HW5 : Hid (w5.cell? ⟨wr.heap.size, 2, none⟩ = some (.slice ak W.length ck)) := (hb.cell (p := ⟨wr.heap.size, 2, none⟩) (by show wr.heap.size < _; simp)).trans HW.out
        replace HBb := Lib.hid (bel_tr HBb.out hb)
        replace HKb := Lib.hid (HKb.out.keep hb)
        replace HXb := Lib.hid (HXb.out.keep hb)
        replace HSb := Lib.hid (HSb.out.keep hb)
        replace HRb := Lib.hid (HRb.out.keep hb)
        have HR5 := Lib.hid hr5
        clear ho hb hr5 HCh k0 k1 k2 HK HW
        go_wp2_with fail
        have hd := (Below.refl w5.heap.size w5).drew
        replace HBb := Lib.hid (bel_tr HBb.out hd)
        replace HKb := Lib.hid (HKb.out.keep hd)
        replace HXb := Lib.hid (HXb.out.keep hd)
        replace HSb := Lib.hid (HSb.out.keep hd)
        replace HRb := Lib.hid (HRb.out.keep hd)
        replace HR5 := Lib.hid (HR5.out.keep hd)
        replace HW5 : Hid (w5.drew.cell? ⟨wr.heap.size, 2, none⟩ = some (.slice ak W.length ck)) := (hd.cell (lt_of_cell HW5.out)).trans HW5.out
        clear hd
        refine Sch.wp_region_tn (fun w => w.cell? ⟨wr.heap.size, 2, none⟩ = some (.slice ak W.length ck)) (.val 0 (.val 2 (.val 3 (.one 1 (.one 4 (.val 5 (.val 6 (.val 7 (.val 8 (.val 9 .done)))))))))) (by kernel_rfl) (by kernel_rfl) HW5.out ?_
        repeat (first
          | (refine Sch.tn_q rfl rfl rfl (fun K hK => ?_); go_big_quiet_op; (first | refine hK _ ?_ | refine ⟨_, fun _ _ => rfl, hK _ ?_⟩); clear hK K)
          | (refine Sch.tn_chk _ _ _ rfl rfl rfl rfl rfl ?_; simp only [Act.put, List.setIfInBounds_toArray, List.set_cons_zero, List.set_cons_succ])
          | (refine Sch.tn_load _ _ _ _ _ rfl rfl rfl rfl (by first | exact (fun w h => load_slD h)) rfl ?_; simp only [Act.put, List.setIfInBounds_toArray, List.set_cons_zero, List.set_cons_succ]))
        generalize w5.drew = w6 at *
        refine Sch.tn_e rfl rfl (fun K hK => ?_)
        go_wp2_with fail
        refine (names_any C a5 c5 _ HR5.out (by have := HE3.out; omega)).mono ?_
        rintro e w7 ⟨v7, rfl, ho, hb⟩
        rw [HE1.out] at ho
        obtain ⟨a7, c7, rfl, hr7, -⟩ := OD.row ho
        replace HBb := Lib.hid (bel_tr HBb.out hb)
        replace HKb := Lib.hid (HKb.out.keep hb)
        replace HXb := Lib.hid (HXb.out.keep hb)
        replace HSb := Lib.hid (HSb.out.keep hb)
        replace HRb := Lib.hid (HRb.out.keep hb)
        replace HW5 : Hid (w7.cell? ⟨wr.heap.size, 2, none⟩ = some (.slice ak W.length ck)) := (hb.cell (lt_of_cell HW5.out)).trans HW5.out
        have HR7 := Lib.hid hr7
        clear ho hb hr7 HR5
        refine hK _ _ HW5.out ?_
        clear hK K
        refine Sch.tn_e rfl rfl (fun K hK => ?_)
        go_wp2_with fail
        refine (sameD_true W a7 ak c7 ck _ HR7.out HRb.out (by have := HE4.out; omega)).mono ?_
        rintro e w8 ⟨rfl, hb⟩
        replace HBb := Lib.hid (bel_tr HBb.out hb)
        replace HKb := Lib.hid (HKb.out.keep hb)
        replace HXb := Lib.hid (HXb.out.keep hb)
        replace HSb := Lib.hid (HSb.out.keep hb)
        replace HW5 : Hid (w8.cell? ⟨wr.heap.size, 2, none⟩ = some (.slice ak W.length ck)) := (hb.cell (lt_of_cell HW5.out)).trans HW5.out
        clear hb HRb HR7
        refine hK _ _ HW5.out ?_
        clear hK K
        repeat (first
          | (refine Sch.tn_q rfl rfl rfl (fun K hK => ?_); go_big_quiet_op; (first | refine hK _ ?_ | refine ⟨_, fun _ _ => rfl, hK _ ?_⟩); clear hK K)
          | (refine Sch.tn_chk _ _ _ rfl rfl rfl rfl rfl ?_; simp only [Act.put, List.setIfInBounds_toArray, List.set_cons_zero, List.set_cons_succ])
          | (refine Sch.tn_s _ rfl rfl rfl ?_; simp only [Act.put, List.setIfInBounds_toArray, List.set_cons_zero, List.set_cons_succ])
          | (refine Sch.tn_se _ rfl rfl rfl ?_; simp only [Act.put, List.setIfInBounds_toArray, List.set_cons_zero, List.set_cons_succ]))
        refine Sch.tn_n ?_
        go_wp2_with fail
        go_roundw
        case rel => exact ⟨k + 1, by omega, by go_num, HBb, HKb, HXb, HSb⟩
        case measure => simp [intOf]; omega
      · obtain rfl : k = 4 := by omega
        clear HK HS hk hlt
        have HOr : Hid (∀ w, RowN w (some ⟨g, 0, none⟩) exL → Calls Try.prog 22 #[.slice (some ⟨g, 0, none⟩) 8 8] w fun e w' => ∃ v, e = .returned (.tuple #[v, .int .i64 0]) ∧ ON w' w.heap.size EN v exO ∧ Below w.heap.size w w') := fun w h => by
          have := order_prog exL (some ⟨g, 0, none⟩) 8 w h (by decide)
          rw [ex_order] at this
          exact this
        go_wp2_with fail
        refine (HOr.out _ HX.out).mono ?_
        rintro e w21 ⟨vo, rfl, ho, hb⟩
        replace HB := Lib.hid (bel_tr HB.out hb)
        replace HX := Lib.hid (HX.out.keep hb)
        obtain ⟨ao, co, rfl, hr, -⟩ := ON.row ho
        have HO := Lib.hid hr
        clear ho hr HOr
        clear hb
        go_wp2_with fail
        refine (names_any exO ao co _ HO.out (by decide)).mono ?_
        rintro e w22 ⟨vn, rfl, ho, hb⟩
        replace HB := Lib.hid (bel_tr HB.out hb)
        replace HX := Lib.hid (HX.out.keep hb)
        replace HO := Lib.hid (HO.out.keep hb)
        rw [exO_dots] at ho
        obtain ⟨an, cn, rfl, hr, -⟩ := OD.row ho
        have HN := Lib.hid hr
        clear ho hr
        clear hb
        have hbn := bel_box w22 (.cells #[.int .i64 1, .int .i64 4, .int .i64 1, .int .i64 1, .int .i64 2, .int .i64 2, .int .i64 1, .int .i64 2, .int .i64 2, .int .i64 3] 3)
        have HLA := Lib.hid (RowD.lit w22 [(1, 4), (1, 1), (2, 2), (1, 2), (2, 3)] #[.int .i64 1, .int .i64 4, .int .i64 1, .int .i64 1, .int .i64 2, .int .i64 2, .int .i64 1, .int .i64 2, .int .i64 2, .int .i64 3] 3 (0, 0) rfl)
        replace HB := Lib.hid (bel_tr HB.out hbn)
        replace HX := Lib.hid (HX.out.keep hbn)
        replace HO := Lib.hid (HO.out.keep hbn)
        replace HN := Lib.hid (HN.out.keep hbn)
        clear hbn
        go_wp2_with fail
        generalize w22.alloc (.cells #[.int .i64 1, .int .i64 4, .int .i64 1, .int .i64 1, .int .i64 2, .int .i64 2, .int .i64 1, .int .i64 2, .int .i64 2, .int .i64 3] 3) = w23 at *
        generalize w22.heap.size = bw23 at *
        refine (dots_any [(1, 4), (1, 1), (2, 2), (1, 2), (2, 3)] 10 _ _ _ rfl HLA.out (by decide)).mono ?_
        rintro e w24 ⟨vA, rfl, ho, hb⟩
        replace HB := Lib.hid (bel_tr HB.out hb)
        replace HX := Lib.hid (HX.out.keep hb)
        replace HO := Lib.hid (HO.out.keep hb)
        replace HN := Lib.hid (HN.out.keep hb)
        replace HLA := Lib.hid (HLA.out.keep hb)
        obtain ⟨aA, cA, rfl, hr, -⟩ := OD.row ho
        have HRA := Lib.hid hr
        clear ho hr
        clear hb
        clear HLA
        go_wp2_with fail
        refine (sameD_true [(1, 4), (1, 1), (2, 2), (1, 2), (2, 3)] an aA cn cA _ HN.out HRA.out (by decide)).mono ?_
        rintro e w25 ⟨rfl, hb⟩
        replace HB := Lib.hid (bel_tr HB.out hb)
        replace HX := Lib.hid (HX.out.keep hb)
        replace HO := Lib.hid (HO.out.keep hb)
        replace HN := Lib.hid (HN.out.keep hb)
        replace HRA := Lib.hid (HRA.out.keep hb)
        clear hb
        clear HN
        clear HRA
        have hbn := bel_box w25 (.cells #[.int .i64 0, .int .i64 0, .int .i64 1, .int .i64 1, .int .i64 2] 3)
        have HI := Lib.hid (G.RowI.lit .i64 w25 _ rfl [0, 0, 1, 1, 2] #[.int .i64 0, .int .i64 0, .int .i64 1, .int .i64 1, .int .i64 2] 3 rfl)
        replace HB := Lib.hid (bel_tr HB.out hbn)
        replace HX := Lib.hid (HX.out.keep hbn)
        replace HO := Lib.hid (HO.out.keep hbn)
        clear hbn
        go_wp2_with fail
        generalize w25.alloc (.cells #[.int .i64 0, .int .i64 0, .int .i64 1, .int .i64 1, .int .i64 2] 3) = w26 at *
        generalize w25.heap.size = bw26 at *
        refine (goes_true exL (-1) (some ⟨g, 0, none⟩) ao _ 8 co 5 5 5 _ HX.out (by decide) exO exO_all [0, 0, 1, 1, 2] exO_dep rfl rfl HO.out HI.out).mono ?_
        rintro e w27 ⟨rfl, hb⟩
        replace HB := Lib.hid (bel_tr HB.out hb)
        replace HX := Lib.hid (HX.out.keep hb)
        replace HO := Lib.hid (HO.out.keep hb)
        replace HI := Lib.hid (HI.out.keep hb (Nat.le_refl _))
        clear hb
        clear HI
        clear HO
        have hbn := bel_box w27 (.cells #[.int .i64 3, .int .i64 4, .int .i64 3, .int .i64 5, .int .i64 3, .int .i64 6] 3)
        have HLL := Lib.hid (RowD.lit w27 [(3, 4), (3, 5), (3, 6)] #[.int .i64 3, .int .i64 4, .int .i64 3, .int .i64 5, .int .i64 3, .int .i64 6] 3 (0, 0) rfl)
        replace HB := Lib.hid (bel_tr HB.out hbn)
        replace HX := Lib.hid (HX.out.keep hbn)
        clear hbn
        go_wp2_with fail
        generalize w27.alloc (.cells #[.int .i64 3, .int .i64 4, .int .i64 3, .int .i64 5, .int .i64 3, .int .i64 6] 3) = w28 at *
        generalize w27.heap.size = bw28 at *
        refine (dots_any [(3, 4), (3, 5), (3, 6)] 6 _ _ _ rfl HLL.out (by decide)).mono ?_
        rintro e w29 ⟨vL, rfl, ho, hb⟩
        replace HB := Lib.hid (bel_tr HB.out hb)
        replace HX := Lib.hid (HX.out.keep hb)
        replace HLL := Lib.hid (HLL.out.keep hb)
        obtain ⟨aL, cL, rfl, hr, -⟩ := OD.row ho
        have HRL := Lib.hid hr
        clear ho hr
        clear hb
        clear HLL
        go_wp2_with fail
        refine (lost_true exL (some ⟨g, 0, none⟩) 8 [(3, 4), (3, 5), (3, 6)] 0 aL cL _ HX.out (by decide) ex_lost HRL.out (by decide)).mono ?_
        rintro e w30 ⟨rfl, hb⟩
        replace HB := Lib.hid (bel_tr HB.out hb)
        replace HX := Lib.hid (HX.out.keep hb)
        replace HRL := Lib.hid (HRL.out.keep hb)
        clear hb
        clear HRL
        go_wp2_with fail
        refine (at_any 2 3 _).mono ?_
        rintro e w31 ⟨rfl, hb⟩
        replace HB := Lib.hid (bel_tr HB.out hb)
        replace HX := Lib.hid (HX.out.keep hb)
        clear hb
        have hbn := bel_box w31 (.cells #[.int .i64 1, .int .i64 1, .int .i64 1, .int .i64 2, .int .i64 2, .int .i64 3] 3)
        have HLP := Lib.hid (RowD.lit w31 [(1, 1), (1, 2), (2, 3)] #[.int .i64 1, .int .i64 1, .int .i64 1, .int .i64 2, .int .i64 2, .int .i64 3] 3 (0, 0) rfl)
        replace HB := Lib.hid (bel_tr HB.out hbn)
        replace HX := Lib.hid (HX.out.keep hbn)
        clear hbn
        go_wp2_with fail
        generalize w31.alloc (.cells #[.int .i64 1, .int .i64 1, .int .i64 1, .int .i64 2, .int .i64 2, .int .i64 3] 3) = w32 at *
        generalize w31.heap.size = bw32 at *
        refine (dots_any [(1, 1), (1, 2), (2, 3)] 6 _ _ _ rfl HLP.out (by decide)).mono ?_
        rintro e w33 ⟨vP, rfl, ho, hb⟩
        replace HB := Lib.hid (bel_tr HB.out hb)
        replace HX := Lib.hid (HX.out.keep hb)
        replace HLP := Lib.hid (HLP.out.keep hb)
        obtain ⟨aP, cP, rfl, hr, -⟩ := OD.row ho
        have HRP := Lib.hid hr
        clear ho hr
        clear hb
        clear HLP
        go_wp2_with fail
        refine (path_true exL (2, 3) (some ⟨g, 0, none⟩) 8 [(1, 1), (1, 2), (2, 3)] 0 aP cP _ HX.out (by decide) ex_path1 HRP.out (by decide)).mono ?_
        rintro e w34 ⟨rfl, hb⟩
        replace HB := Lib.hid (bel_tr HB.out hb)
        replace HX := Lib.hid (HX.out.keep hb)
        replace HRP := Lib.hid (HRP.out.keep hb)
        clear hb
        clear HRP
        go_wp2_with fail
        refine (at_any 3 5 _).mono ?_
        rintro e w35 ⟨rfl, hb⟩
        replace HB := Lib.hid (bel_tr HB.out hb)
        replace HX := Lib.hid (HX.out.keep hb)
        clear hb
        go_wp2_with fail
        refine (path_true exL (3, 5) (some ⟨g, 0, none⟩) 8 [] 9 none 0 _ HX.out (by decide) ex_path2 (.inl rfl) (by decide)).mono ?_
        rintro e w36 ⟨rfl, hb⟩
        replace HB := Lib.hid (bel_tr HB.out hb)
        replace HX := Lib.hid (HX.out.keep hb)
        clear hb
        go_wp2_with fail
        refine (at_any 1 1 _).mono ?_
        rintro e w37 ⟨rfl, hb⟩
        replace HB := Lib.hid (bel_tr HB.out hb)
        replace HX := Lib.hid (HX.out.keep hb)
        clear hb
        have hbn := bel_box w37 (.cells #[.int .i64 2, .int .i64 2, .int .i64 1, .int .i64 2, .int .i64 2, .int .i64 3] 3)
        have HLB := Lib.hid (RowD.lit w37 [(2, 2), (1, 2), (2, 3)] #[.int .i64 2, .int .i64 2, .int .i64 1, .int .i64 2, .int .i64 2, .int .i64 3] 3 (0, 0) rfl)
        replace HB := Lib.hid (bel_tr HB.out hbn)
        replace HX := Lib.hid (HX.out.keep hbn)
        clear hbn
        go_wp2_with fail
        generalize w37.alloc (.cells #[.int .i64 2, .int .i64 2, .int .i64 1, .int .i64 2, .int .i64 2, .int .i64 3] 3) = w38 at *
        generalize w37.heap.size = bw38 at *
        refine (dots_any [(2, 2), (1, 2), (2, 3)] 6 _ _ _ rfl HLB.out (by decide)).mono ?_
        rintro e w39 ⟨vB, rfl, ho, hb⟩
        replace HB := Lib.hid (bel_tr HB.out hb)
        replace HX := Lib.hid (HX.out.keep hb)
        replace HLB := Lib.hid (HLB.out.keep hb)
        obtain ⟨aB, cB, rfl, hr, -⟩ := OD.row ho
        have HRB := Lib.hid hr
        clear ho hr
        clear hb
        clear HLB
        go_wp2_with fail
        refine (below_true exL (1, 1) (some ⟨g, 0, none⟩) 8 [(2, 2), (1, 2), (2, 3)] 0 aB cB _ HX.out (by decide) ex_below1 HRB.out (by decide)).mono ?_
        rintro e w40 ⟨rfl, hb⟩
        replace HB := Lib.hid (bel_tr HB.out hb)
        replace HX := Lib.hid (HX.out.keep hb)
        replace HRB := Lib.hid (HRB.out.keep hb)
        clear hb
        clear HRB
        go_wp2_with fail
        refine (at_any 2 3 _).mono ?_
        rintro e w41 ⟨rfl, hb⟩
        replace HB := Lib.hid (bel_tr HB.out hb)
        replace HX := Lib.hid (HX.out.keep hb)
        clear hb
        go_wp2_with fail
        refine (below_true exL (2, 3) (some ⟨g, 0, none⟩) 8 [] 0 none 0 _ HX.out (by decide) ex_below2 (.inl rfl) (by decide)).mono ?_
        rintro e w42 ⟨rfl, hb⟩
        replace HB := Lib.hid (bel_tr HB.out hb)
        replace HX := Lib.hid (HX.out.keep hb)
        clear hb
        go_wp2_with fail
        refine (at_any 9 9 _).mono ?_
        rintro e w43 ⟨rfl, hb⟩
        replace HB := Lib.hid (bel_tr HB.out hb)
        replace HX := Lib.hid (HX.out.keep hb)
        clear hb
        go_wp2_with fail
        refine (below_true exL (9, 9) (some ⟨g, 0, none⟩) 8 [] 9 none 0 _ HX.out (by decide) ex_below3 (.inl rfl) (by decide)).mono ?_
        rintro e w44 ⟨rfl, hb⟩
        replace HB := Lib.hid (bel_tr HB.out hb)
        replace HX := Lib.hid (HX.out.keep hb)
        clear hb
        go_wp2_with fail
        go_ret
        exact ⟨rfl, HB.out⟩
end Go.Proofs.Yteojbekkbgcmnaa.Un
end
