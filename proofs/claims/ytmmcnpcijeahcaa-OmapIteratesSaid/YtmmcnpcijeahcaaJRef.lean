/-
  The reference's map: before, Rank, Get, At, Ceil, Floor, From.
-/
import Derived.Test.YtmmcnpcijeahcaaJLight
namespace Go.Proofs.Ytmmcnpcijeahcaa.J
set_option linter.unusedVariables false
open Go.RowKit V Go.Shelf
attribute [local irreducible] Sch.heldN Sch.stepV Sch.stepE

/-- The reference's map: its order and its row. -/
abbrev mv (d : Bool) (a : Option Addr) (n c : Nat) : Value := .agg #[.bool d, .slice a n c]
/-- A box of such a map. -/
def Rb (w : World) (B : Nat) (d : Bool) (a : Option Addr) (n c : Nat) : Prop := w.cell? ⟨B, 0, none⟩ = some (.bool d) ∧ w.cell? ⟨B, 1, none⟩ = some (.slice a n c)
theorem Rb.keep {w w' : World} {B n c : Nat} {d : Bool} {a : Option Addr} (h : Rb w B d a n c) (hb : Below w.heap.size w w') : Rb w' B d a n c := ⟨keep_cell h.1 hb, keep_cell h.2 hb⟩
/-- A box of such a map, and a key of its row. -/
def Rk (w : World) (B : Nat) (d : Bool) (a : Option Addr) (n c b o : Nat) (z : Int) : Prop := Rb w B d a n c ∧ w.cell? ⟨b, o, none⟩ = some (.int .i64 z)
theorem Rk.keep {w w' : World} {B n c b o : Nat} {d : Bool} {a : Option Addr} {z : Int} (h : Rk w B d a n c b o z) (hb : Below w.heap.size w w') : Rk w' B d a n c b o z := ⟨h.1.keep hb, keep_cell h.2 hb⟩
theorem load_map {w : World} {B n c : Nat} {d : Bool} {a : Option Addr} (h : Rb w B d a n c) : (Instr.loadAt 29 (.pointer (some ⟨B, 0, none⟩))).run Try.prog w = .ok (mv d a n c) w := by
  obtain ⟨h0, h1⟩ := h
  go_simp
theorem load_row {w : World} {B o : Nat} {v : Value} (h : w.cell? ⟨B, o, none⟩ = some v) : (Instr.loadAt 27 (.pointer (some ⟨B, o, none⟩))).run Try.prog w = .ok v w := by
  go_simp

theorem before_ref (d : Bool) (a : Option Addr) (n c : Nat) (x y : Int) (w : World) :
    Calls Try.prog 63 #[mv d a n c, .int .i64 x, .int .i64 y] w fun e w' => e = .returned (.bool (bef d x y)) ∧ Below w.heap.size w w' := by
  rcases d with _ | _
  · go_enter Try.func63, Try.ntmps63
    go_wp2_with fail
    go_ret
    exact ⟨rfl, bel_box _ _⟩
  · go_enter Try.func63, Try.ntmps63
    go_wp2_with fail
    go_ret
    exact ⟨rfl, bel_box _ _⟩

set_option maxRecDepth 100000 in
set_option maxHeartbeats 1000000 in
theorem rank_ref (d : Bool) (L : List Pr) (a : Option Addr) (c : Nat) (k : Int) (w : World) (hx : RowP w a L) (hl : L.length ≤ 1000000) :
    Calls Try.prog 39 #[mv d a L.length c, .int .i64 k] w fun e w' => e = .returned (.int .i64 (rank d L k : Nat)) ∧ Below w.heap.size w w' := by
  have HX := Lib.hid hx
  have hli : (L.length : Int) ≤ 1000000 := by omega
  clear hx
  go_enter Try.func39, Try.ntmps39
  go_wp2_with fail
  have HR : Hid (Rb (w.alloc (.cells #[.bool d, .slice a L.length c] 29)) w.heap.size d a L.length c) := ⟨by go_simp, by go_simp⟩
  have HB := Lib.hid (bel_box w (.cells #[.bool d, .slice a L.length c] 29))
  replace HX := Lib.hid (HX.out.keep HB.out)
  generalize w.alloc (.cells #[.bool d, .slice a L.length c] 29) = w1 at *
  go_loopw [5] (fun j wr => ∃ q : Nat, q ≤ L.length ∧ q ≤ rank d L k ∧ j = .int .i64 q ∧ Hid (Rb wr w.heap.size d a L.length c) ∧ Hid (RowP wr a L) ∧ Hid (Below w.heap.size w wr)) (fun j _ => L.length - (intOf j).toNat)
  case atStart => exact ⟨0, by omega, by omega, rfl, HR, HX, HB⟩
  case round =>
    clear HR HX HB
    obtain ⟨q, hq, hqr, rfl, HR, HX, HB⟩ := hrel
    have hq0 : (q : Int) ≤ 1000000 := by omega
    by_cases hlt : q < L.length
    · obtain ⟨b, o, rfl, c0, -⟩ := HX.out.get (Below.refl _ _) q hlt
      obtain ⟨z, hz⟩ : ∃ z, z = L[q].1 := ⟨_, rfl⟩
      rw [← hz] at c0
      have hqi : (q : Int) < (L.length : Int) := by omega
      have hbq : bef d z k = true ∧ q + 1 ≤ rank d L k ∨ bef d z k = false ∧ q = rank d L k := by
        rcases Nat.lt_or_ge q (rank d L k) with h | h
        · exact .inl ⟨by rw [hz]; exact rank_lo hlt h, h⟩
        · have e : q = rank d L k := by omega
          refine .inr ⟨?_, e⟩
          subst e
          rw [hz]
          exact rank_at hlt
      have HBQ := Lib.hid hbq
      clear hz hbq
      have HS : Hid (Rk wr w.heap.size d (some ⟨b, o, none⟩) L.length c b (o + q * 2) z) := ⟨HR.out, c0⟩
      clear c0 HR
      go_wp2_with fail
      have hb0 : Below wr.heap.size wr wr.drew := (Below.refl _ _).drew
      replace HX := Lib.hid (HX.out.keep hb0)
      replace HS := Lib.hid (HS.out.keep hb0)
      replace HB := Lib.hid (bel_tr HB.out hb0)
      clear hb0
      have A1 := Lib.hid (fun w' (h : Rk w' w.heap.size d (some ⟨b, o, none⟩) L.length c b (o + q * 2) z) => load_row (w := w') h.1.2)
      have A2 := Lib.hid (fun w' (h : Rk w' w.heap.size d (some ⟨b, o, none⟩) L.length c b (o + q * 2) z) => load_map (w := w') h.1)
      have A3 := Lib.hid (fun w' (h : Rk w' w.heap.size d (some ⟨b, o, none⟩) L.length c b (o + q * 2) z) => load_int (w := w') h.2)
      refine Sch.wp_region_tn (fun w' => Rk w' w.heap.size d (some ⟨b, o, none⟩) L.length c b (o + q * 2) z) (.val 0 (.val 1 (.val 2 (.val 3 (.val 4 (.val 5 (.val 6 (.val 7 (.val 8 (.val 9 (.val 10 (.val 11 (.val 12 (.val 13 (.one 14 (.val 15 .done)))))))))))))))) (by kernel_rfl) (by kernel_rfl) HS.out ?_
      repeat (first
        | (refine Sch.tn_q rfl rfl rfl (fun K hK => ?_); go_big_quiet_op; (first | refine hK _ ?_ | refine ⟨_, fun _ _ => rfl, hK _ ?_⟩); clear hK K)
        | (refine Sch.tn_chk _ _ _ rfl rfl rfl rfl rfl ?_; simp only [Act.put, List.setIfInBounds_toArray, List.set_cons_zero, List.set_cons_succ])
        | (refine Sch.tn_load _ _ _ _ _ rfl rfl rfl rfl (by first | exact A1.out | exact A2.out | exact A3.out) rfl ?_; simp only [Act.put, List.setIfInBounds_toArray, List.set_cons_zero, List.set_cons_succ]))
      generalize wr.drew = w3 at *
      have HC := Lib.hid (before_ref d (some ⟨b, o, none⟩) L.length c z k w3)
      refine Sch.tn_e rfl rfl (fun K hK => ?_)
      go_wp2_with fail
      refine HC.out.mono ?_
      rintro e w4 ⟨rfl, hb⟩
      replace HX := Lib.hid (HX.out.keep hb)
      replace HS := Lib.hid (HS.out.keep hb)
      replace HB := Lib.hid (bel_tr HB.out hb)
      clear hb HC
      refine hK _ _ HS.out ?_
      clear hK K
      rcases HBQ.out with ⟨hb, hr⟩ | ⟨hb, hr⟩
      · rw [hb]
        repeat (first
          | (refine Sch.tn_q rfl rfl rfl (fun K hK => ?_); go_big_quiet_op; (first | refine hK _ ?_ | refine ⟨_, fun _ _ => rfl, hK _ ?_⟩); clear hK K)
          | (refine Sch.tn_chk _ _ _ rfl rfl rfl rfl rfl ?_; simp only [Act.put, List.setIfInBounds_toArray, List.set_cons_zero, List.set_cons_succ])
          | (refine Sch.tn_load _ _ _ _ _ rfl rfl rfl rfl (by first | exact A1.out | exact A2.out | exact A3.out) rfl ?_; simp only [Act.put, List.setIfInBounds_toArray, List.set_cons_zero, List.set_cons_succ]))
        refine Sch.tn_n ?_
        go_wp2_with fail
        go_roundw
        case rel => exact ⟨q + 1, by omega, hr, by go_num, Lib.hid HS.out.1, HX, HB⟩
        case measure => simp [intOf]; omega
      · rw [hb]
        repeat (first
          | (refine Sch.tn_q rfl rfl rfl (fun K hK => ?_); go_big_quiet_op; (first | refine hK _ ?_ | refine ⟨_, fun _ _ => rfl, hK _ ?_⟩); clear hK K)
          | (refine Sch.tn_chk _ _ _ rfl rfl rfl rfl rfl ?_; simp only [Act.put, List.setIfInBounds_toArray, List.set_cons_zero, List.set_cons_succ])
          | (refine Sch.tn_load _ _ _ _ _ rfl rfl rfl rfl (by first | exact A1.out | exact A2.out | exact A3.out) rfl ?_; simp only [Act.put, List.setIfInBounds_toArray, List.set_cons_zero, List.set_cons_succ]))
        refine Sch.tn_n ?_
        go_wp2_with fail
        go_ret
        exact ⟨by rw [hr]; rfl, HB.out⟩
    · obtain rfl : q = L.length := by omega
      have hqi : ¬ (L.length : Int) < (L.length : Int) := by omega
      have hr : rank d L k = L.length := by have := rank_le d L k; omega
      have hF1 : (some false == some true) = false := rfl
      go_wp2_with fail
      have hb0 : Below wr.heap.size wr wr.drew := (Below.refl _ _).drew
      replace HR := Lib.hid (HR.out.keep hb0)
      replace HB := Lib.hid (bel_tr HB.out hb0)
      clear hb0
      have A1 := Lib.hid (fun w' (h : Rb w' w.heap.size d a L.length c) => load_row (w := w') h.2)
      refine Sch.wp_region_tn (fun w' => Rb w' w.heap.size d a L.length c) (.val 0 (.val 1 (.val 2 (.val 3 (.val 4 (.val 5 (.val 6 (.val 7 (.val 8 (.val 9 (.val 10 (.val 11 (.val 12 (.val 13 (.one 14 (.val 15 .done)))))))))))))))) (by kernel_rfl) (by kernel_rfl) HR.out ?_
      repeat (first
        | (refine Sch.tn_q rfl rfl rfl (fun K hK => ?_); go_big_quiet_op; (first | refine hK _ ?_ | refine ⟨_, fun _ _ => rfl, hK _ ?_⟩); clear hK K)
        | (refine Sch.tn_chk _ _ _ rfl rfl rfl rfl rfl ?_; simp only [Act.put, List.setIfInBounds_toArray, List.set_cons_zero, List.set_cons_succ])
        | (refine Sch.tn_load _ _ _ _ _ rfl rfl rfl rfl (by first | exact A1.out) rfl ?_; simp only [Act.put, List.setIfInBounds_toArray, List.set_cons_zero, List.set_cons_succ]))
      generalize wr.drew = w3 at *
      iterate 8
        refine Sch.tn_s _ rfl hF1 rfl ?_
        simp only [Act.put, List.setIfInBounds_toArray, List.set_cons_zero, List.set_cons_succ]
      refine Sch.tn_se _ rfl hF1 rfl ?_
      simp only [Act.put, List.setIfInBounds_toArray, List.set_cons_zero, List.set_cons_succ]
      repeat (first
        | (refine Sch.tn_q rfl rfl rfl (fun K hK => ?_); go_big_quiet_op; (first | refine hK _ ?_ | refine ⟨_, fun _ _ => rfl, hK _ ?_⟩); clear hK K)
        | (refine Sch.tn_chk _ _ _ rfl rfl rfl rfl rfl ?_; simp only [Act.put, List.setIfInBounds_toArray, List.set_cons_zero, List.set_cons_succ])
        | (refine Sch.tn_load _ _ _ _ _ rfl rfl rfl rfl (by first | exact A1.out) rfl ?_; simp only [Act.put, List.setIfInBounds_toArray, List.set_cons_zero, List.set_cons_succ]))
      refine Sch.tn_n ?_
      go_wp2_with fail
      go_ret
      exact ⟨by rw [hr]; rfl, HB.out⟩

set_option maxRecDepth 100000 in
set_option maxHeartbeats 1000000 in
theorem get_ref (d : Bool) (L : List Pr) (a : Option Addr) (c : Nat) (k : Int) (w : World) (hx : RowP w a L) (hl : L.length ≤ 1000000) :
    Calls Try.prog 11 #[mv d a L.length c, .int .i64 k] w fun e w' => e = .returned (.tuple #[.string (getR d L k).1, .bool (getR d L k).2]) ∧ Below w.heap.size w w' := by
  have hb := bel_box w (.cells #[.bool d, .slice a L.length c] 29)
  have HX := Lib.hid (hx.keep hb)
  have HC := Lib.hid (rank_ref d L a c k _ HX.out hl)
  have hli : (L.length : Int) ≤ 1000000 := by omega
  clear hx
  have HB := Lib.hid hb
  have HG : Hid (getR d L k = match L[rank d L k]? with | some p => if p.1 = k then (p.2, true) else (⟨#[]⟩, false) | none => (⟨#[]⟩, false)) := by show _ = _; unfold getR; rfl
  generalize getR d L k = G at *
  have HR : Hid (Rb (w.alloc (.cells #[.bool d, .slice a L.length c] 29)) w.heap.size d a L.length c) := ⟨by go_simp, by go_simp⟩
  clear hb
  go_enter Try.func11, Try.ntmps11
  go_wp2_with fail
  refine HC.out.mono ?_
  rintro e w2 ⟨rfl, hb⟩
  replace HX := Lib.hid (HX.out.keep hb)
  replace HR := Lib.hid (HR.out.keep hb)
  replace HB := Lib.hid (bel_tr HB.out hb)
  clear hb HC
  generalize w.alloc (.cells #[.bool d, .slice a L.length c] 29) = w1 at *
  have k0 := HR.out.1
  have k1 := HR.out.2
  generalize rank d L k = r at *
  by_cases hr : r < L.length
  · obtain ⟨b, o, rfl, c0, c1⟩ := HX.out.get (Below.refl _ _) r hr
    have hri : (r : Int) < (L.length : Int) := by omega
    have hG := HG.out
    rw [List.getElem?_eq_getElem hr] at hG
    simp only at hG
    generalize L[r] = p at *
    obtain ⟨p0, p1⟩ := p
    simp only at c0 c1 hG
    by_cases he : p0 = k
    · subst he
      rw [if_pos rfl] at hG
      subst hG
      clear HG
      go_wp2_with fail
      go_ret2
      exact ⟨rfl, HB.out⟩
    · rw [if_neg he] at hG
      subst hG
      clear HG
      have he2 : (p0 == k) = false := by simpa using he
      go_wp2_with fail
      go_ret2
      exact ⟨rfl, HB.out⟩
  · have hri : ¬ (r : Int) < (L.length : Int) := by omega
    have hG := HG.out
    rw [List.getElem?_eq_none (by omega)] at hG
    simp only at hG
    subst hG
    clear HG
    go_wp2_with fail
    go_ret2
    exact ⟨rfl, HB.out⟩

set_option maxRecDepth 100000 in
set_option maxHeartbeats 1000000 in
theorem at_ref (d : Bool) (L : List Pr) (a : Option Addr) (c : Nat) (i : Int) (w : World) (hx : RowP w a L) (hl : L.length ≤ 1000000) :
    Calls Try.prog 45 #[mv d a L.length c, .int .i64 i] w fun e w' => e = .returned (.tuple #[pv (pk (atL L i)), .bool (atL L i).isSome]) ∧ Below w.heap.size w w' := by
  have HX := Lib.hid (hx.keep ((bel_box w (.cells #[.bool d, .slice a L.length c] 29)).alloc (by simp) (.cells #[.int .i64 0, .string ⟨#[]⟩] E)))
  have HB := Lib.hid ((bel_box w (.cells #[.bool d, .slice a L.length c] 29)).alloc (by simp) (.cells #[.int .i64 0, .string ⟨#[]⟩] E))
  clear hx
  by_cases h0 : i < 0
  · rw [show atL L i = none by unfold atL; rw [if_pos h0]]
    go_enter Try.func45, Try.ntmps45
    go_wp2_with fail
    (try simp only [Exit.inBlock, Exit.then])
    refine bodyPost_ret (v := .tuple #[pv (0, ⟨#[]⟩), .bool false]) (by rw [results_cell_tmp (fn := Try.f45) (p := 4) (u := 5) (ty := E) rfl]; go_simp) rfl ?_
    exact ⟨rfl, (bel_box _ _).alloc (by simp) _⟩
  · obtain ⟨k, rfl⟩ : ∃ k : Nat, i = (k : Int) := ⟨i.toNat, by omega⟩
    by_cases h1 : k < L.length
    · have hG : atL L (k : Int) = some L[k] := by unfold atL; rw [if_neg h0, Int.toNat_natCast, List.getElem?_eq_getElem h1]
      obtain ⟨b, o, rfl, c0, c1⟩ := HX.out.get (Below.refl _ _) k h1
      have hki : (k : Int) < (L.length : Int) := by omega
      rw [hG]
      generalize L[k] = p at *
      obtain ⟨p0, p1⟩ := p
      simp only at c0 c1
      clear hG
      go_enter Try.func45, Try.ntmps45
      go_wp2_with fail
      (try simp only [Exit.inBlock, Exit.then])
      refine bodyPost_ret (v := .tuple #[pv (p0, p1), .bool true]) (by rw [results_cell_tmp (fn := Try.f45) (p := 4) (u := 5) (ty := E) rfl]; go_simp) rfl ?_
      exact ⟨rfl, (bel_box _ _).alloc (by simp) _⟩
    · rw [show atL L (k : Int) = none by unfold atL; rw [if_neg h0, Int.toNat_natCast, List.getElem?_eq_none (by omega)]]
      have hki : ¬ (k : Int) < (L.length : Int) := by omega
      have hki2 : (L.length : Int) ≤ (k : Int) := by omega
      go_enter Try.func45, Try.ntmps45
      go_wp2_with fail
      (try simp only [Exit.inBlock, Exit.then])
      refine bodyPost_ret (v := .tuple #[pv (0, ⟨#[]⟩), .bool false]) (by rw [results_cell_tmp (fn := Try.f45) (p := 4) (u := 5) (ty := E) rfl]; go_simp) rfl ?_
      exact ⟨rfl, (bel_box _ _).alloc (by simp) _⟩
end Go.Proofs.Ytmmcnpcijeahcaa.J
