/-
  The reference's Path.
-/
import Derived.Test.YteojbekkbgcmnaaMWCol

section
namespace Go.Proofs.Yteojbekkbgcmnaa.Un
set_option linter.unusedVariables false
open Go.RowKit V Go.Shelf D Nd Qs Wk
attribute [local irreducible] Sch.heldN Sch.stepV Sch.stepE

theorem first_idx (l : List Nt) (d : Dt) : ∀ n, n ≤ l.length → (∀ j (hj : j < l.length), j < n → l[j].1 ≠ d) ∨ ∃ k, ∃ hk : k < l.length, l[k].1 = d ∧ ∀ j (hj : j < l.length), j < k → l[j].1 ≠ d
  | 0, _ => .inl fun j hj h => by omega
  | n + 1, h => by
    rcases first_idx l d n (by omega) with h1 | h1
    · by_cases e : (l[n]'(by omega)).1 = d
      · exact .inr ⟨n, by omega, e, h1⟩
      · refine .inl fun j hj hjn => ?_
        by_cases ej : j = n
        · subst ej; exact e
        · exact h1 j hj (by omega)
    · exact .inr h1
/-- Where a dot stands. -/
theorem idx_cases (l : List Nt) (d : Dt) : (idxS l d = -1 ∧ atS l d = none) ∨ ∃ k, ∃ hk : k < l.length, idxS l d = (k : Int) ∧ atS l d = some l[k] := by
  rcases first_idx l d l.length (Nat.le_refl _) with h | ⟨k, hk, h1, h2⟩
  · exact .inl (idx_none fun j hj => h j hj hj)
  · exact .inr ⟨k, hk, (idx_hit hk h2 h1).1, (idx_hit hk h2 h1).2⟩
theorem OD.one (w : World) (d : Dt) (base : Nat) (hb : base ≤ w.heap.size) : OD (w.alloc (.cells #[.int .i64 d.1, .int .i64 d.2] ED)) base ED (.slice (some ⟨w.heap.size, 0, none⟩) 1 1) [d] :=
  ⟨rfl, .inr ⟨w.heap.size, 1, #[.int .i64 d.1, .int .i64 d.2], rfl, hb, heap_new w _, Nat.le_refl _, by decide, rfl, rfl⟩⟩
theorem bd_set {w : World} {g : Nat} {d : Dt} (h : Bd w g d) (e : Dt) : Bd ((w.setCell ⟨g, 0, none⟩ (.int .i64 e.1)).setCell ⟨g, 1, none⟩ (.int .i64 e.2)) g e := by
  unfold Bd at h ⊢
  simp [World.setCell, Array.getElem?_modify, h]
theorem gb_two (w : World) (g : Nat) (u v : Value) : w.grownBy ((w.setCell ⟨g, 0, none⟩ u).setCell ⟨g, 1, none⟩ v) (some g) := gb_trans (gb_setCell _ _ _ _) (gb_setCell _ _ _ _)
theorem bd_free {w : World} {g : Nat} {d : Dt} (h : Bd w g d) (o : Nat) : w.frozen? ⟨g, o, none⟩ = false := by unfold Bd at h; simp [World.frozen?, h]
theorem path_step {l : List Nt} {d : Dt} {x : Nt} (n : Nat) (out : List Dt) (hr : rootR d = false) (h : atS l d = some x) : (pathS l (n + 1) d).map (· ++ out) = (pathS l n x.2.1).map (· ++ ([d] ++ out)) := by
  show Option.map _ (if rootR d = true then some [] else match atS l d with | none => none | some x => (pathS l n x.2.1).map (· ++ [d])) = _
  rw [if_neg (by rw [hr]; decide), h]
  rcases hp : pathS l n x.2.1 with _ | p <;> simp [hp]
/-- What Path of the reference gives. -/
def pathR (l : List Nt) (d : Dt) : Option (List Dt) := pathS l (l.length + 1) d
set_option maxRecDepth 100000 in
set_option maxHeartbeats 4000000 in
theorem path_ref (l : List Nt) (d0 : Dt) (a : Option Addr) (c : Nat) (w : World) (hx : RowN w a l) (hlx : l.length ≤ 400000) :
    Calls Try.prog 17 #[.slice a l.length c, dv d0] w fun e w' => ∃ v, e = .returned (.tuple #[v, .bool (pathR l d0).isSome]) ∧ OD w' w.heap.size ED v ((pathR l d0).getD []) ∧ Below w.heap.size w w' := by
  have HFi := Lib.hid (fun (d : Dt) (w : World) (h : RowN w a l) => find_ref l d a c w h (by omega))
  have HB := Lib.hid (bel_box w (.cells #[.int .i64 d0.1, .int .i64 d0.2] 24))
  have HD := Lib.hid (bd_new w d0)
  have HX := Lib.hid hx
  have hli : (l.length : Int) ≤ 400000 := by omega
  have HL := Lib.hid hlx
  have HR0 : Hid (pathR l d0 = (pathS l (l.length + 1 - 0) d0).map (· ++ [])) := by
    show _ = _
    unfold pathR
    cases pathS l (l.length + 1) d0 <;> simp
  clear hx hlx
  generalize pathR l d0 = R at *
  go_enter Try.func17, Try.ntmps17
  go_wp2_with fail
  have HS : Hid (w.heap.size < (w.alloc (.cells #[.int .i64 d0.1, .int .i64 d0.2] 24)).heap.size) := by show _ < _; simp
  generalize w.alloc (.cells #[.int .i64 d0.1, .int .i64 d0.2] 24) = w1 at *
  obtain ⟨B0, hB0⟩ : ∃ B0, B0 = w1.heap.size := ⟨_, rfl⟩
  rw [← hB0] at HS
  have HB0 := Lib.hid hB0
  clear hB0
  go_loopw [6, 7, 8] (fun v i _ wr => ∃ (j : Nat) (d : Dt) (out : List Dt), j ≤ l.length + 1 ∧ i = .int .i64 (j : Int) ∧ Hid (R = (pathS l (l.length + 1 - j) d).map (· ++ out)) ∧ Hid (out.length ≤ j) ∧ Hid (B0 ≤ wr.heap.size) ∧ Hid (Below w.heap.size w wr) ∧ Hid (Bd wr w.heap.size d) ∧ Hid (OD wr B0 ED v out)) (fun _ i _ _ => l.length + 1 - (intOf i).toNat)
  case atStart => exact ⟨0, d0, [], Nat.zero_le _, rfl, HR0, Nat.zero_le _, by show B0 ≤ _; rw [HB0.out]; exact Nat.le_refl _, HB, HD, OD.nil _ _ _⟩
  case round =>
    obtain ⟨j, d, out, hj, rfl, HR, HOl, HSz, HB, HD, HO⟩ := hrel
    by_cases hlt : j ≤ l.length
    · have hi0 : (j : Int) ≤ (l.length : Int) := by omega
      obtain ⟨n, hn⟩ : ∃ n, l.length + 1 - j = n + 1 := ⟨l.length - j, by omega⟩
      rw [hn] at HR
      have HNn : Hid (l.length + 1 - (j + 1) = n) := by show _ = _; omega
      clear hn
      have c0 := HD.out.c0
      have c1 := HD.out.c1
      have HRt := Lib.hid (fun w => root_ref d w)
      rcases hr : rootR d with _ | _
      · rw [hr] at HRt
        have HRo := Lib.hid hr
        go_wp2_with fail
        refine (HRt.out _).mono ?_
        rintro e w2 ⟨rfl, hb⟩
        replace HSz := Lib.hid (Nat.le_trans HSz.out hb.size)
        replace HB := Lib.hid (bel_tr HB.out hb)
        replace HD := Lib.hid (HD.out.keep hb)
        replace HO := Lib.hid (HO.out.below hb)
        clear hb HRt c0 c1 hr
        have c0 := HD.out.c0
        have c1 := HD.out.c1
        have HXk := Lib.hid (HX.out.keep HB.out)
        go_wp2_with fail
        refine (HFi.out d _ HXk.out).mono ?_
        rintro e w3 ⟨rfl, hb⟩
        replace HSz := Lib.hid (Nat.le_trans HSz.out hb.size)
        replace HB := Lib.hid (bel_tr HB.out hb)
        replace HD := Lib.hid (HD.out.keep hb)
        replace HO := Lib.hid (HO.out.below hb)
        replace HXk := Lib.hid (HXk.out.keep hb)
        clear hb c0 c1
        rcases idx_cases l d with ⟨h1, h2⟩ | ⟨k, hk, h1, h2⟩
        · rw [h1]
          have HE : Hid (R = none) := by
            show _ = _
            rw [HR.out]
            unfold pathS
            rw [if_neg (by rw [HRo.out]; decide), h2]
            rfl
          clear h1 h2 HR
          go_wp2_with fail
          go_ret2
          exact ⟨.slice none 0 0, by rw [HE.out]; rfl, by rw [HE.out]; exact OD.nil _ _ _, HB.out⟩
        · rw [h1]
          have HE : Hid (R = (pathS l n l[k].2.1).map (· ++ ([d] ++ out))) := by
            show _ = _
            rw [HR.out]
            exact path_step n out HRo.out h2
          have hkn : ¬ (k : Int) < 0 := by omega
          have hki : (k : Int) < (l.length : Int) := by omega
          obtain ⟨b1, o1, rfl, hna⟩ := na_of HXk.out k hk
          obtain ⟨q, hq⟩ : ∃ q, q = l[k] := ⟨_, rfl⟩
          rw [← hq] at hna HE
          have HQ := Lib.hid hq
          clear hq h1 h2 HR
          obtain ⟨aO, cO, rfl, hrO, hnO, -, -⟩ := OD.row HO.out
          have c0 := HD.out.c0
          have c1 := HD.out.c1
          have hbx := bel_box w3 (.cells #[.int .i64 d.1, .int .i64 d.2] ED)
          have HLit := Lib.hid (OD.one w3 d B0 HSz.out)
          have HRO := Lib.hid (hrO.keep hbx)
          have HB4 := Lib.hid (bel_tr HB.out hbx)
          have HD4 := Lib.hid (HD.out.keep hbx)
          have HX4 := Lib.hid (HXk.out.keep hbx)
          have HS4 : Hid (B0 ≤ (w3.alloc (.cells #[.int .i64 d.1, .int .i64 d.2] ED)).heap.size) := Nat.le_trans HSz.out hbx.size
          have HnO := Lib.hid (fun h => (hnO h).1)
          clear hbx hrO hnO
          obtain ⟨n0, n1, n2, n3, n4, n5⟩ := hna
          go_wp2_with (at_builtin; refine wpList_appD rfl _ _ _ rfl Try.underlying41 infoD _ _ rfl HLit.out aO out cO rfl HRO.out HnO.out (by have := HOl.out; have := HL.out; simp only [List.length_cons, List.length_nil]; omega) HS4.out ?_)
          intro v7 w7 ho hg _
          have HO7 := Lib.hid ho
          have HB7 := Lib.hid (HB4.out.grown hg HB4.out.size (fun x hx => Nat.le_trans (Nat.le_of_lt HS.out) (HLit.out.lt x hx).1))
          have HD7 : Hid (Bd w7 w.heap.size d) := (hg.block _ HD4.out.lt (by intro e; have h1 := (HLit.out.lt _ e.symm).1; have h2 := HS.out; omega)).trans HD4.out
          have HX7 := Lib.hid (HX.out.keep HB7.out)
          have HS7 : Hid (B0 ≤ w7.heap.size) := Nat.le_trans HS4.out hg.size
          clear ho hg n0 n1 n2 n3 n4 n5 c0 c1 HX4 HRO HLit HB4 HD4 HS4
          obtain ⟨b2, o2, he2, hna⟩ := na_of HX7.out k hk
          cases he2
          have hqk : l[k] = q := HQ.out.symm
          rw [hqk] at hna
          obtain ⟨-, -, n2, n3, -, -⟩ := hna
          have c0 := HD7.out.c0
          have c1 := HD7.out.c1
          have f0 := bd_free HD7.out 0
          have f1 := bd_free HD7.out 1
          have hgs := gb_two w7 w.heap.size (.int .i64 q.2.1.1) (.int .i64 q.2.1.2)
          have HD8 := Lib.hid (bd_set HD7.out q.2.1)
          have HB8 := Lib.hid (bel_low HB7.out hgs (fun x e => by cases e; exact Nat.le_refl _))
          have HO8 : Hid (OD ((w7.setCell ⟨w.heap.size, 0, none⟩ (.int .i64 q.2.1.1)).setCell ⟨w.heap.size, 1, none⟩ (.int .i64 q.2.1.2)) B0 ED v7 ([d] ++ out)) := World.ownsRow.kept HO7.out hgs (by
            rcases hv : v7.ownBlock with _ | x
            · exact .inl rfl
            · refine .inr fun e => ?_
              cases e
              have h1 := (HO7.out.lt _ hv).1
              have h2 := HS.out
              omega)
          have HS8 : Hid (B0 ≤ ((w7.setCell ⟨w.heap.size, 0, none⟩ (.int .i64 q.2.1.1)).setCell ⟨w.heap.size, 1, none⟩ (.int .i64 q.2.1.2)).heap.size) := Nat.le_trans HS7.out hgs.size
          clear hgs hqk
          go_wp2_with fail
          go_roundw
          case rel => exact ⟨j + 1, q.2.1, [d] ++ out, by omega, by go_num, by show _ = _; rw [HNn.out]; exact HE.out, by show _ ≤ _; have := HOl.out; simp only [List.length_append, List.length_cons, List.length_nil]; omega, HS8, HB8, HD8, HO8⟩
          case measure => simp [intOf]; omega
      · rw [hr] at HRt
        have HE : Hid (R = some out) := by
          show _ = _
          rw [HR.out]
          unfold pathS
          rw [if_pos hr]
          rfl
        clear HR hr
        go_wp2_with fail
        refine (HRt.out _).mono ?_
        rintro e w2 ⟨rfl, hb⟩
        have HB2 := Lib.hid (bel_tr HB.out hb)
        have HO2 := Lib.hid ((HO.out.below hb).mono (base' := w.heap.size) fun x hx => Nat.le_trans (Nat.le_of_lt HS.out) ((HO.out.below hb).lt x hx).1)
        clear hb
        go_wp2_with fail
        go_ret2
        exact ⟨_, by rw [HE.out]; rfl, by rw [HE.out]; exact HO2.out, HB2.out⟩
    · obtain rfl : j = l.length + 1 := by omega
      have hend : ¬ ((l.length + 1 : Nat) : Int) ≤ (l.length : Int) := by omega
      have HE : Hid (R = none) := by
        show _ = _
        rw [HR.out, Nat.sub_self]
        rfl
      go_wp2_with fail
      go_ret2
      exact ⟨.slice none 0 0, by rw [HE.out]; rfl, by rw [HE.out]; exact OD.nil _ _ _, HB.out⟩
end Go.Proofs.Yteojbekkbgcmnaa.Un
end

/-
  The reference's Named, Children.
-/
section
namespace Go.Proofs.Yteojbekkbgcmnaa.Un
set_option linter.unusedVariables false
open Go.RowKit V Go.Shelf D Nd Qs Wk
attribute [local irreducible] Sch.heldN Sch.stepV Sch.stepE

set_option maxRecDepth 100000 in
theorem named_ref (d : Dt) (w : World) : Calls Try.prog 9 #[dv d] w fun e w' => e = .returned (.bool (validR d || rootR d)) ∧ Below w.heap.size w w' := by
  have HB := Lib.hid (bel_box w (.cells #[.int .i64 d.1, .int .i64 d.2] 24))
  have HD := Lib.hid (bd_new w d)
  have HV := Lib.hid (fun w => valid_ref d w)
  have HR := Lib.hid (fun w => root_ref d w)
  generalize rootR d = r at *
  rcases hv : validR d with _ | _
  · rw [hv] at HV
    go_enter Try.func9, Try.ntmps9
    go_wp2_with fail
    generalize w.alloc (.cells #[.int .i64 d.1, .int .i64 d.2] 24) = w1 at *
    have c0 := HD.out.c0
    have c1 := HD.out.c1
    go_wp2_with fail
    refine (HV.out _).mono ?_
    rintro e w2 ⟨rfl, hb⟩
    replace HB := Lib.hid (bel_tr HB.out hb)
    replace HD := Lib.hid (HD.out.keep hb)
    clear hb c0 c1
    have c0 := HD.out.c0
    have c1 := HD.out.c1
    go_wp2_with fail
    refine (HR.out _).mono ?_
    rintro e w3 ⟨rfl, hb⟩
    replace HB := Lib.hid (bel_tr HB.out hb)
    clear hb
    go_wp2_with fail
    go_ret
    exact ⟨rfl, HB.out⟩
  · rw [hv] at HV
    go_enter Try.func9, Try.ntmps9
    have c0 := HD.out.c0
    have c1 := HD.out.c1
    go_wp2_with fail
    refine (HV.out _).mono ?_
    rintro e w2 ⟨rfl, hb⟩
    replace HB := Lib.hid (bel_tr HB.out hb)
    clear hb c0 c1
    go_wp2_with fail
    go_ret
    exact ⟨rfl, HB.out⟩
end Go.Proofs.Yteojbekkbgcmnaa.Un
end

/-
  The reference's Children.
-/
section
namespace Go.Proofs.Yteojbekkbgcmnaa.Un
set_option linter.unusedVariables false
open Go.RowKit V Go.Shelf D Nd Qs Wk
attribute [local irreducible] Sch.heldN Sch.stepV Sch.stepE

/-- The node at a place, the dot in a box. -/
def Pc (g b o : Nat) (d : Dt) (q : Nt) (w : World) : Prop := Na w b o q ∧ Bd w g d
section
variable {g b o : Nat} {d : Dt} {q : Nt}
theorem Pc.ldp : ∀ w, Pc g b o d q w → (Instr.loadAt 24 (.pointer (some ⟨b, o + 2, none⟩))).run Try.prog w = .ok (dv q.2.1) w := fun w h => by
  have h2 := h.1.2.2.1
  have h3 := h.1.2.2.2.1
  exact load_dot h2 h3
theorem Pc.ldd : ∀ w, Pc g b o d q w → (Instr.loadAt 24 (.pointer (some ⟨g, 0, none⟩))).run Try.prog w = .ok (.agg #[.int .i64 d.1, .int .i64 d.2]) w := fun w h => load_dotB h.2
end
/-- Two nodes at their places. -/
def Pn (b o b2 o2 : Nat) (p q : Nt) (w : World) : Prop := Na w b o p ∧ Na w b2 o2 q
section
variable {b o b2 o2 : Nat} {p q : Nt}
theorem Pn.ldp : ∀ w, Pn b o b2 o2 p q w → (Instr.loadAt 35 (.pointer (some ⟨b, o, none⟩))).run Try.prog w = .ok (nv p) w := fun w h => h.1.load
theorem Pn.ldq : ∀ w, Pn b o b2 o2 p q w → (Instr.loadAt 35 (.pointer (some ⟨b2, o2, none⟩))).run Try.prog w = .ok (nv q) w := fun w h => h.2.load
end
theorem child_take {l : List Nt} {k : Nat} (d : Dt) (h : k < l.length) : (l.take (k + 1)).foldl (childF d) [] = childF d ((l.take k).foldl (childF d) []) l[k] := by
  rw [List.take_succ_eq_append_getElem h, List.foldl_append]
  rfl
theorem childF_len (d : Dt) (o : List Nt) (n : Nt) : (childF d o n).length ≤ o.length + 1 := by
  unfold childF
  split
  · unfold insB
    have h := congrArg List.length (List.takeWhile_append_dropWhile (p := fun y => beforeN y n) (l := o))
    rw [List.length_append] at h
    rw [List.length_append, List.length_cons]
    omega
  · omega
theorem fold_len (d : Dt) (l : List Nt) : ∀ k, k ≤ l.length → ((l.take k).foldl (childF d) []).length ≤ k
  | 0, _ => by simp
  | k + 1, h => by
    rw [child_take d (by omega)]
    have h1 := childF_len d ((l.take k).foldl (childF d) []) (l[k]'(by omega))
    have h2 := fold_len d l k (by omega)
    omega
/-- Where a node is put in. -/
theorem insB_at {o : List Nt} {q : Nt} {m : Nat} (hm : m ≤ o.length) (h : ∀ j (hj : j < o.length), j < m → beforeN o[j] q = true) (h2 : m = o.length ∨ ∃ hj : m < o.length, beforeN o[m] q = false) : insB o q = o.take m ++ [q] ++ o.drop m := by
  induction o generalizing m with
  | nil =>
    obtain rfl : m = 0 := by simpa using hm
    rfl
  | cons x t ih =>
    cases m with
    | zero =>
      have hx : beforeN x q = false := by
        rcases h2 with h2 | ⟨_, h2⟩
        · simp at h2
        · exact h2
      unfold insB
      rw [List.takeWhile_cons, List.dropWhile_cons]
      simp [hx]
    | succ m =>
      have hx : beforeN x q = true := h 0 (by simp) (by omega)
      have hi := ih (m := m) (by simpa using hm) (fun j hj hjm => by have := h (j + 1) (by simpa using hj) (by omega); simpa using this) (by
        rcases h2 with h2 | ⟨h3, h2⟩
        · exact .inl (by simpa using h2)
        · exact .inr ⟨by simpa using h3, by simpa using h2⟩)
      unfold insB at hi ⊢
      rw [List.takeWhile_cons, List.dropWhile_cons, hx]
      simp only [if_true, List.cons_append, List.take_succ_cons, List.drop_succ_cons]
      rw [hi]
end Go.Proofs.Yteojbekkbgcmnaa.Un
end

/-
  The reference's Children.
-/
section
namespace Go.Proofs.Yteojbekkbgcmnaa.Un
set_option linter.unusedVariables false
open Go.RowKit V Go.Shelf D Nd Qs Wk
attribute [local irreducible] Sch.heldN Sch.stepV Sch.stepE

theorem cut_loN (a : Option Addr) (len cap n : Nat) (hn : n ≤ cap) : ∀ wx : World,
    (Instr.slice 22 (.slice a len cap) none (some (.int .i64 (n : Int))) none).run Try.prog wx = .ok (.slice a n cap) wx := by
  obtain ⟨i, hi, hz0, hz1, hz2⟩ := G.info_of infoN
  intro wx
  have h1 : (Instr.sliceBound (.int .i64 (n : Int)) cap .sliceAcap).run Try.prog wx = .ok n wx := by
    rw [run_sliceBound _ _ _ _ _ (by omega) (by omega)]; rfl
  have h0 : (⟨0, 0, none⟩ : Addr).add 0 = ⟨0, 0, none⟩ := rfl
  by_cases hc : cap = 0
  · rw [hc] at h1
    simp [Instr.slice, run_underlying Try.underlying22, Instr.sliceBounds, h1, Result.andThen, sizeOf, typeInfo, hi, hc]
  · have : a.map (fun x => x.add 0) = a := by
      rcases a with _ | ⟨b, o, s⟩
      · rfl
      · simp [Addr.add]
    simp [Instr.slice, run_underlying Try.underlying22, Instr.sliceBounds, h1, Result.andThen, sizeOf, typeInfo, hi, hc, this]
def offN (a : Option Addr) (cap m : Nat) : Option Addr := if cap = m then a else a.map (·.add (m * 6))
theorem cut_hiN (a : Option Addr) (len cap m k : Nat) (hk : len = m + k) (hlc : len ≤ cap) : ∀ wx : World,
    (Instr.slice 22 (.slice a len cap) (some (.int .i64 (m : Int))) none none).run Try.prog wx = .ok (.slice (offN a cap m) k (cap - m)) wx := by
  obtain ⟨i, hi, hz0, hz1, hz2⟩ := G.info_of infoN
  intro wx
  have h2 : (Instr.sliceBound (.int .i64 (m : Int)) len .sliceB).run Try.prog wx = .ok m wx := by
    rw [run_sliceBound _ _ _ _ _ (by omega) (by omega)]; rfl
  have e : len - m = k := by omega
  simp [Instr.slice, run_underlying Try.underlying22, Instr.sliceBounds, h2, Result.andThen, sizeOf, typeInfo, hi, hz1, e, offN]
theorem offN_row {w : World} {a : Option Addr} {l : List Nt} (h : RowN w a l) (cap m : Nat) (hlc : l.length ≤ cap) (hm : m ≤ l.length) : RowN w (offN a cap m) (l.drop m) := by
  unfold offN
  split
  · left
    rw [List.drop_eq_nil_iff]; omega
  · rcases h with rfl | ⟨b, o, rfl, hc⟩
    · exact .inl (by simp)
    · have e : (⟨b, o, none⟩ : Addr).add (m * 6) = ⟨b, o + m * 6, none⟩ := by unfold Addr.add; split <;> simp_all
      rw [Option.map_some, e]
      exact RowN.drop (w := w) (b := b) (o := o) (l := l) (.inr ⟨b, o, rfl, hc⟩) m hm
theorem offN_none {a : Option Addr} {cap m : Nat} (h : offN a cap m = none) : a = none := by
  unfold offN at h
  split at h
  · exact h
  · simpa using h
theorem wp_appN {P : Program} {w : World} {x : Oper} {a : Act} {K : Act → World → Prop} {Q : Exit → Act → World → Prop} (s y : Operand) (T : TypeId)
    (ho : x.op = .call { callee := .builtin .append, args := #[s, y], argTypes := #[T, T] })
    {base : Nat} {E : TypeId} (hT : P.underlying T = some (.slice E)) (hinfo : (P.info? E).map (fun i => (i.zero, i.size, i.bytes)) = some (some zeroNv, 6, 48))
    (v : Value) (l : List Nt) (hs : a.eval s = v) (h : ON w base E v l) (ad : Option Addr) (m : List Nt) (c n : Nat) (hn : n = m.length) (hx : a.eval y = .slice ad n c) (hrow : RowN w ad m) (hnil : ad = none → c = 0)
    (hlen : l.length + m.length ≤ 1000000000000) (hbase : base ≤ w.heap.size)
    (hk : ∀ v' w', ON w' base E v' (l ++ m) → w.grownBy w' v.ownBlock → G.Grew w v v' → K (a.put x.dst v') w') : x.wp P a w K Q := by
  subst hn
  obtain ⟨v', w', hr, h2, h3, h4⟩ := run_appN hT hinfo h x.type ad m c hrow hnil hlen hbase
  unfold Oper.wp execOp
  simp only [ho, resolve, invoke, builtin, Sem.run_bind, Sem.run_pure, Result.andThen_ok, List.map_toArray, List.map_cons, List.map_nil, hs, hx, hr]
  exact hk _ _ h2 h3 h4
theorem neqD_no {p q : Dt} (h : p = q) : ∀ w, Sem.run Try.prog (binOp .neq 24 (.agg #[.int .i64 p.1, .int .i64 p.2]) (.agg #[.int .i64 q.1, .int .i64 q.2])) w = .ok (.bool false) w := fun w => by
  subst h
  have := neq_dot p p w
  rwa [decide_eq_true rfl] at this
set_option maxRecDepth 100000 in
set_option maxHeartbeats 8000000 in
theorem child_ref (l : List Nt) (d : Dt) (a : Option Addr) (c : Nat) (w : World) (hx : RowN w a l) (hlx : l.length ≤ 400000) :
    Calls Try.prog 13 #[.slice a l.length c, dv d] w fun e w' => ∃ v, e = .returned v ∧ ON w' w.heap.size EN v (childS l d) ∧ Below w.heap.size w w' := by
  have HB := Lib.hid (bel_box w (.cells #[.int .i64 d.1, .int .i64 d.2] 24))
  have HD := Lib.hid (bd_new w d)
  have HX := Lib.hid hx
  have hli : (l.length : Int) ≤ 400000 := by omega
  have HL := Lib.hid hlx
  have HR0 : Hid (childS l d = (l.take l.length).foldl (childF d) []) := by show _ = _; rw [List.take_length]; rfl
  clear hx hlx
  generalize childS l d = R at *
  go_enter Try.func13, Try.ntmps13
  go_wp2_with fail
  have HS : Hid (w.heap.size < (w.alloc (.cells #[.int .i64 d.1, .int .i64 d.2] 24)).heap.size) := by show _ < _; simp
  generalize w.alloc (.cells #[.int .i64 d.1, .int .i64 d.2] 24) = w1 at *
  obtain ⟨B0, hB0⟩ : ∃ B0, B0 = w1.heap.size := ⟨_, rfl⟩
  rw [← hB0] at HS
  have HB0 := Lib.hid hB0
  clear hB0
  go_loopw [5, 6, 7] (fun v i _ wr => ∃ (k : Nat), k ≤ l.length ∧ i = .int .i64 (k : Int) ∧ Hid (B0 ≤ wr.heap.size) ∧ Hid (Below w.heap.size w wr) ∧ Hid (Bd wr w.heap.size d) ∧ Hid (ON wr B0 EN v ((l.take k).foldl (childF d) []))) (fun _ i _ _ => l.length - (intOf i).toNat)
  case atStart => exact ⟨0, Nat.zero_le _, rfl, by show B0 ≤ _; rw [HB0.out]; exact Nat.le_refl _, HB, HD, ON.nil _ _ _⟩
  case round =>
    obtain ⟨k, hk, rfl, HSz, HB, HD, HO⟩ := hrel
    by_cases hlt : k < l.length
    · have hi0 : (k : Int) < (l.length : Int) := by omega
      obtain ⟨b, o, rfl, hna⟩ := na_of (HX.out.keep HB.out) k hlt
      have HSt := Lib.hid (child_take d hlt)
      have HOl := Lib.hid (fold_len d l k (by omega))
      obtain ⟨q, hq⟩ : ∃ q, q = l[k] := ⟨_, rfl⟩
      rw [← hq] at hna HSt
      have HQ := Lib.hid hq
      clear hq
      generalize hOO : (l.take k).foldl (childF d) [] = O at *
      clear hOO
      have hd := (Below.refl wr.heap.size wr).drew
      have HP : Hid (Pc w.heap.size b (o + k * 6) d q wr.drew) := ⟨hna.keep hd, HD.out.keep hd⟩
      have HBd := Lib.hid (bel_tr HB.out hd)
      have HOd := Lib.hid (HO.out.below hd)
      have HSd : Hid (B0 ≤ wr.drew.heap.size) := Nat.le_trans HSz.out hd.size
      have hx0 := ixN b o l.length c k (k : Int) rfl hlt
      clear hd hna HB HD HO HSz
      by_cases hp : q.2.1 = d
      · have hnq := neqD_no hp
        have HPq := Lib.hid hp
        clear hp
        go_wp2_with fail
        refine Sch.wp_region_tn (Pc w.heap.size b (o + k * 6) d q) (.val 0 (.val 1 (.val 2 (.val 3 (.val 4 (.val 5 (.val 6 .done))))))) (by kernel_rfl) (by kernel_rfl) HP.out ?_
        repeat (first
          | (refine Sch.tn_q rfl rfl rfl (fun K hK => ?_); go_big_quiet_op; (first | refine hK _ ?_ | refine ⟨_, fun _ _ => rfl, hK _ ?_⟩); clear hK K)
          | (refine Sch.tn_chk _ _ _ rfl rfl rfl rfl rfl ?_; simp only [Act.put, List.setIfInBounds_toArray, List.set_cons_zero, List.set_cons_succ])
          | (refine Sch.tn_load _ _ _ _ _ rfl rfl rfl rfl (by first | exact Pc.ldp | exact Pc.ldd) rfl ?_; simp only [Act.put, List.setIfInBounds_toArray, List.set_cons_zero, List.set_cons_succ]))
        refine Sch.tn_n ?_
        generalize wr.drew = w2 at *
        obtain ⟨aO, cO, rfl, -⟩ := ON.row HOd.out
        have HD := Lib.hid HP.out.2
        clear HP hnq
        go_wp2_with fail
        go_loopw [7] (fun i wx => ∃ m : Nat, m ≤ O.length ∧ i = .int .i64 (m : Int) ∧ Hid (∀ j (hj : j < O.length), j < m → beforeN O[j] q = true) ∧ Hid (B0 ≤ wx.heap.size) ∧ Hid (Below w.heap.size w wx) ∧ Hid (Bd wx w.heap.size d) ∧ Hid (ON wx B0 EN (.slice aO O.length cO) O)) (fun i _ => O.length - (intOf i).toNat)
        case atStart => exact ⟨0, Nat.zero_le _, rfl, fun j hj h => by omega, HSd, HBd, HD, HOd⟩
        case round =>
          obtain ⟨m, hm, rfl, HV, HSz, HB, HD, HO⟩ := hrel
          have hOi : (O.length : Int) ≤ 400000 := by have := HOl.out; have := HL.out; omega
          by_cases hml : m < O.length
          · have hmi : (m : Int) < (O.length : Int) := by omega
            obtain ⟨aO1, cO1, he, hrO, -⟩ := ON.row HO.out
            cases he
            obtain ⟨b2, o2, rfl, hnp⟩ := na_of hrO m hml
            obtain ⟨b9, o9, he9, hna9⟩ := na_of (HX.out.keep HB.out) k hlt
            cases he9
            rw [← HQ.out] at hna9
            have hx2 := ixN b2 o2 O.length cO m (m : Int) rfl hml
            have HBf := Lib.hid (fun w => before_ref9 (O[m]) q w)
            have HVn : Hid (beforeN O[m] q = true → ∀ j (hj : j < O.length), j < m + 1 → beforeN O[j] q = true) := fun h j hj hjm => by
              by_cases e : j = m
              · subst e; exact h
              · exact HV.out j hj (by omega)
            obtain ⟨p, hpp⟩ : ∃ p, p = O[m] := ⟨_, rfl⟩
            have HPm : Hid (p = O[m]) := hpp
            rw [← hpp] at hnp HBf HVn
            clear hpp hrO
            have hd := (Below.refl wr.heap.size wr).drew
            have HPn : Hid (Pn b2 (o2 + m * 6) b (o + k * 6) p q wr.drew) := ⟨hnp.keep hd, hna9.keep hd⟩
            replace HSz : Hid (B0 ≤ wr.drew.heap.size) := Nat.le_trans HSz.out hd.size
            replace HB := Lib.hid (bel_tr HB.out hd)
            replace HD := Lib.hid (HD.out.keep hd)
            replace HO := Lib.hid (HO.out.below hd)
            clear hd hnp hna9
            go_wp2_with fail
            refine Sch.wp_region_tn (Pn b2 (o2 + m * 6) b (o + k * 6) p q) (.val 0 (.val 1 (.val 2 (.val 3 (.val 4 (.val 5 (.val 6 (.val 7 (.val 8 (.val 9 (.val 10 (.val 11 (.val 12 (.one 13 (.val 14 .done))))))))))))))) (by kernel_rfl) (by kernel_rfl) HPn.out ?_
            repeat (first
              | (refine Sch.tn_q rfl rfl rfl (fun K hK => ?_); go_big_quiet_op; (first | refine hK _ ?_ | refine ⟨_, fun _ _ => rfl, hK _ ?_⟩); clear hK K)
              | (refine Sch.tn_chk _ _ _ rfl rfl rfl rfl rfl ?_; simp only [Act.put, List.setIfInBounds_toArray, List.set_cons_zero, List.set_cons_succ])
              | (refine Sch.tn_load _ _ _ _ _ rfl rfl rfl rfl (by first | exact Pn.ldp | exact Pn.ldq) rfl ?_; simp only [Act.put, List.setIfInBounds_toArray, List.set_cons_zero, List.set_cons_succ]))
            repeat (first
              | (refine Sch.tn_q rfl rfl rfl (fun K hK => ?_); go_big_quiet_op; (first | refine hK _ ?_ | refine ⟨_, fun _ _ => rfl, hK _ ?_⟩); clear hK K)
              | (refine Sch.tn_chk _ _ _ rfl rfl rfl rfl rfl ?_; simp only [Act.put, List.setIfInBounds_toArray, List.set_cons_zero, List.set_cons_succ])
              | (refine Sch.tn_load _ _ _ _ _ rfl rfl rfl rfl (by first | exact Pn.ldp | exact Pn.ldq) rfl ?_; simp only [Act.put, List.setIfInBounds_toArray, List.set_cons_zero, List.set_cons_succ])
              | (refine Sch.tn_s _ rfl rfl rfl ?_; simp only [Act.put, List.setIfInBounds_toArray, List.set_cons_zero, List.set_cons_succ])
              | (refine Sch.tn_se _ rfl rfl rfl ?_; simp only [Act.put, List.setIfInBounds_toArray, List.set_cons_zero, List.set_cons_succ]))
            generalize wr.drew = w3 at *
            refine Sch.tn_e rfl rfl (fun K hK => ?_)
            go_wp2_with fail
            refine (HBf.out _).mono ?_
            rintro e wx ⟨rfl, hb⟩
            replace HPn : Hid (Pn b2 (o2 + m * 6) b (o + k * 6) p q wx) := ⟨HPn.out.1.keep hb, HPn.out.2.keep hb⟩
            replace HSz : Hid (B0 ≤ wx.heap.size) := Nat.le_trans HSz.out hb.size
            replace HB := Lib.hid (bel_tr HB.out hb)
            replace HD := Lib.hid (HD.out.keep hb)
            replace HO := Lib.hid (HO.out.below hb)
            clear hb HBf
            refine hK _ _ HPn.out ?_
            clear hK K
            rcases hbf : beforeN p q with _ | _
            · skip
              repeat (first
                | (refine Sch.tn_q rfl rfl rfl (fun K hK => ?_); go_big_quiet_op; (first | refine hK _ ?_ | refine ⟨_, fun _ _ => rfl, hK _ ?_⟩); clear hK K)
                | (refine Sch.tn_chk _ _ _ rfl rfl rfl rfl rfl ?_; simp only [Act.put, List.setIfInBounds_toArray, List.set_cons_zero, List.set_cons_succ])
                | (refine Sch.tn_load _ _ _ _ _ rfl rfl rfl rfl (by first | exact Pn.ldp | exact Pn.ldq) rfl ?_; simp only [Act.put, List.setIfInBounds_toArray, List.set_cons_zero, List.set_cons_succ])
                | (refine Sch.tn_s _ rfl rfl rfl ?_; simp only [Act.put, List.setIfInBounds_toArray, List.set_cons_zero, List.set_cons_succ])
                | (refine Sch.tn_se _ rfl rfl rfl ?_; simp only [Act.put, List.setIfInBounds_toArray, List.set_cons_zero, List.set_cons_succ]))
              refine Sch.tn_n ?_
              have hmO : m ≤ O.length := hm
              have HIn := Lib.hid (insB_at hmO HV.out (.inr ⟨hml, by rw [← HPm.out]; exact hbf⟩))
              have HSt2 : Hid ((l.take (k + 1)).foldl (childF d) [] = O.take m ++ [q] ++ O.drop m) := by show _ = _; rw [HSt.out]; unfold childF; rw [if_pos HPq.out]; exact HIn.out
              obtain ⟨aO2, cO2, he, hrO, hnO, hlc, -⟩ := ON.row HO.out
              cases he
              have HRP := Lib.hid (hrO.take m)
              have HRR := Lib.hid (offN_row hrO cO m hlc hmO)
              have s1 := cut_loN (some (⟨b2, o2, none⟩ : Addr)) O.length cO m (Nat.le_trans hmO hlc)
              have s2 := cut_hiN (some (⟨b2, o2, none⟩ : Addr)) O.length cO m (O.length - m) (by omega) hlc
              have hT : (O.take m).length = m := by rw [List.length_take]; omega
              have hDr : (O.drop m).length = O.length - m := by rw [List.length_drop]
              have HN1 : Hid ((some (⟨b2, o2, none⟩ : Addr)) = none → cO = 0) := fun h => (hnO h).1
              have HN2 : Hid (offN (some (⟨b2, o2, none⟩ : Addr)) cO m = none → cO - m = 0) := fun h => by have := HN1.out (offN_none h); omega
              have HLP : Hid ((O.take m).length + (O.drop m).length ≤ 400000) := by show _ ≤ _; rw [hT, hDr]; have := HOl.out; have := HL.out; omega
              have HNa : Hid (Na wx b (o + k * 6) q) := by
                obtain ⟨b9, o9, he9, hna9⟩ := na_of (HX.out.keep HB.out) k hlt
                cases he9
                rw [← HQ.out] at hna9
                exact hna9
              clear hrO hnO hlc HIn HV HSt HO
              generalize offN (some (⟨b2, o2, none⟩ : Addr)) cO m = ad2 at *
              generalize cO - m = cR at *
              generalize O.take m = P at *
              generalize O.drop m = Rr at *
              obtain rfl := hT
              rw [← hDr] at s2
              clear hDr
              go_wp2_with fail
              have hd := (Below.refl wx.heap.size wx).drew
              replace HNa : Hid (Na wx.drew b (o + k * 6) q) := HNa.out.keep hd
              replace HB := Lib.hid (bel_tr HB.out hd)
              replace HD := Lib.hid (HD.out.keep hd)
              replace HRP := Lib.hid (HRP.out.keep hd)
              replace HRR := Lib.hid (HRR.out.keep hd)
              replace HSz : Hid (B0 ≤ wx.drew.heap.size) := Nat.le_trans HSz.out hd.size
              clear hd
              refine Sch.wp_region_tn (fun w => Na w b (o + k * 6) q) (.val 0 (.val 1 (.val 2 (.val 4 (.val 5 (.val 6 (.val 7 (.val 10 (.val 11 (.val 12 (.two 3 (.one 8 (.one 9 (.one 13 (.val 14 .done)))) 8 (.one 3 (.one 9 (.one 13 (.val 14 .done))))))))))))))) (by kernel_rfl) (by kernel_rfl) HNa.out ?_
              repeat (first
                | (refine Sch.tn_q rfl rfl rfl (fun K hK => ?_); go_big_quiet_op; (first | refine hK _ ?_ | refine ⟨_, fun _ _ => rfl, hK _ ?_⟩); clear hK K)
                | (refine Sch.tn_chk _ _ _ rfl rfl rfl rfl rfl ?_; simp only [Act.put, List.setIfInBounds_toArray, List.set_cons_zero, List.set_cons_succ])
                | (refine Sch.tn_load _ _ _ _ _ rfl rfl rfl rfl (by first | exact (fun w h => Na.load h)) rfl ?_; simp only [Act.put, List.setIfInBounds_toArray, List.set_cons_zero, List.set_cons_succ]))
              generalize wx.drew = W2 at *
              have HZ := Lib.hid (Below.refl W2.heap.size W2)
              refine Sch.tn_two ?_ ?_
              · skip
                refine Sch.tn_e rfl rfl (fun K hK => ?_)
                refine wp_appN _ _ _ rfl Try.underlying22 infoN (.slice none 0 0) [] rfl (ON.nil _ W2.heap.size _) _ P cO _ rfl rfl HRP.out HN1.out (by have := HLP.out; simp; omega) (Nat.le_refl _) ?_
                intro v1 w3 ho hg _
                have HO3 : Hid (ON w3 W2.heap.size EN v1 P) := ho
                replace HZ := Lib.hid (HZ.out.grown hg (Nat.le_refl _) (fun k hk => by cases hk))
                clear ho hg
                refine hK _ _ (HNa.out.keep HZ.out) ?_
                clear hK K
                simp only [Act.put, List.setIfInBounds_toArray, List.set_cons_zero, List.set_cons_succ]
                refine Sch.tn_e rfl rfl (fun K hK => ?_)
                go_wp2_with fail
                have hb4 := bel_box w3 (.cells (nc q) 35)
                have HO4 := Lib.hid (HO3.out.below hb4)
                replace HZ := Lib.hid (HZ.out.trans (hb4.mono HZ.out.size))
                have HL4 : Hid (RowN (w3.alloc (.cells (nc q) 35)) (some ⟨w3.heap.size, 0, none⟩) [q]) := RowN.lit w3 [q] _ _ _ rfl
                clear hb4 HO3
                refine hK _ _ (HNa.out.keep HZ.out) ?_
                clear hK K
                generalize (w3.alloc (.cells (nc q) 35)) = w4 at *
                refine Sch.tn_e rfl rfl (fun K hK => ?_)
                refine wp_appN _ _ _ rfl Try.underlying22 infoN v1 P rfl HO4.out (some ⟨w3.heap.size, 0, none⟩) [q] 1 1 rfl rfl HL4.out (fun h => by cases h) (by have := HLP.out; simp; omega) HZ.out.size ?_
                intro v2 w5 ho hg _
                replace HZ := Lib.hid (HZ.out.grown hg HZ.out.size (fun k hk => (HO4.out.lt k hk).1))
                have HO5 := Lib.hid ho
                clear ho hg HO4 HL4
                refine hK _ _ (HNa.out.keep HZ.out) ?_
                clear hK K
                simp only [Act.put, List.setIfInBounds_toArray, List.set_cons_zero, List.set_cons_succ]
                refine Sch.tn_e rfl rfl (fun K hK => ?_)
                refine wp_appN _ _ _ rfl Try.underlying22 infoN v2 (P ++ [q]) rfl HO5.out ad2 Rr cR _ rfl rfl (HRR.out.keep HZ.out) HN2.out (by have := HLP.out; simp; omega) HZ.out.size ?_
                intro v3 w6 ho hg _
                replace HZ := Lib.hid (HZ.out.grown hg HZ.out.size (fun k hk => (HO5.out.lt k hk).1))
                have HO6 : Hid (ON w6 B0 EN v3 ((l.take (k + 1)).foldl (childF d) [])) := by rw [HSt2.out]; exact ho.mono fun x hx => Nat.le_trans HSz.out (ho.lt x hx).1
                clear ho hg HO5
                refine hK _ _ (HNa.out.keep HZ.out) ?_
                clear hK K
                simp only [Act.put, List.setIfInBounds_toArray, List.set_cons_zero, List.set_cons_succ]
                repeat (first
                  | (refine Sch.tn_q rfl rfl rfl (fun K hK => ?_); go_big_quiet_op; (first | refine hK _ ?_ | refine ⟨_, fun _ _ => rfl, hK _ ?_⟩); clear hK K)
                  | (refine Sch.tn_chk _ _ _ rfl rfl rfl rfl rfl ?_; simp only [Act.put, List.setIfInBounds_toArray, List.set_cons_zero, List.set_cons_succ])
                  | (refine Sch.tn_load _ _ _ _ _ rfl rfl rfl rfl (by first | exact (fun w h => Na.load h)) rfl ?_; simp only [Act.put, List.setIfInBounds_toArray, List.set_cons_zero, List.set_cons_succ]))
                refine Sch.tn_n ?_
                have HB6 := Lib.hid (bel_tr HB.out HZ.out)
                have HD6 := Lib.hid (HD.out.keep HZ.out)
                have HS6 : Hid (B0 ≤ w6.heap.size) := Nat.le_trans HSz.out HZ.out.size
                go_wp2_with fail
                go_roundw
                case rel => exact ⟨k + 1, by omega, by go_num, HS6, HB6, HD6, HO6⟩
                case measure => simp [intOf]; omega
              · skip
                refine Sch.tn_e rfl rfl (fun K hK => ?_)
                go_wp2_with fail
                have hb3 := bel_box W2 (.cells (nc q) 35)
                have HL3 : Hid (RowN (W2.alloc (.cells (nc q) 35)) (some ⟨W2.heap.size, 0, none⟩) [q]) := RowN.lit W2 [q] _ _ _ rfl
                replace HZ := Lib.hid hb3
                have HRP3 := Lib.hid (HRP.out.keep hb3)
                clear hb3
                refine hK _ _ (HNa.out.keep HZ.out) ?_
                clear hK K
                generalize (W2.alloc (.cells (nc q) 35)) = w3 at *
                refine Sch.tn_e rfl rfl (fun K hK => ?_)
                refine wp_appN _ _ _ rfl Try.underlying22 infoN (.slice none 0 0) [] rfl (ON.nil _ W2.heap.size _) _ P cO _ rfl rfl HRP3.out HN1.out (by have := HLP.out; simp; omega) HZ.out.size ?_
                intro v1 w4 ho hg _
                have HO4 : Hid (ON w4 W2.heap.size EN v1 P) := ho
                have hb4 : Below w3.heap.size w3 w4 := (Below.refl _ _).grown hg (Nat.le_refl _) (fun k hk => by cases hk)
                replace HZ := Lib.hid (HZ.out.trans (hb4.mono HZ.out.size))
                have HL4 := Lib.hid (HL3.out.keep hb4)
                clear ho hg hb4 HL3 HRP3
                refine hK _ _ (HNa.out.keep HZ.out) ?_
                clear hK K
                simp only [Act.put, List.setIfInBounds_toArray, List.set_cons_zero, List.set_cons_succ]
                refine Sch.tn_e rfl rfl (fun K hK => ?_)
                refine wp_appN _ _ _ rfl Try.underlying22 infoN v1 P rfl HO4.out (some ⟨W2.heap.size, 0, none⟩) [q] 1 1 rfl rfl HL4.out (fun h => by cases h) (by have := HLP.out; simp; omega) HZ.out.size ?_
                intro v2 w5 ho hg _
                replace HZ := Lib.hid (HZ.out.grown hg HZ.out.size (fun k hk => (HO4.out.lt k hk).1))
                have HO5 := Lib.hid ho
                clear ho hg HO4 HL4
                refine hK _ _ (HNa.out.keep HZ.out) ?_
                clear hK K
                simp only [Act.put, List.setIfInBounds_toArray, List.set_cons_zero, List.set_cons_succ]
                refine Sch.tn_e rfl rfl (fun K hK => ?_)
                refine wp_appN _ _ _ rfl Try.underlying22 infoN v2 (P ++ [q]) rfl HO5.out ad2 Rr cR _ rfl rfl (HRR.out.keep HZ.out) HN2.out (by have := HLP.out; simp; omega) HZ.out.size ?_
                intro v3 w6 ho hg _
                replace HZ := Lib.hid (HZ.out.grown hg HZ.out.size (fun k hk => (HO5.out.lt k hk).1))
                have HO6 : Hid (ON w6 B0 EN v3 ((l.take (k + 1)).foldl (childF d) [])) := by rw [HSt2.out]; exact ho.mono fun x hx => Nat.le_trans HSz.out (ho.lt x hx).1
                clear ho hg HO5
                refine hK _ _ (HNa.out.keep HZ.out) ?_
                clear hK K
                simp only [Act.put, List.setIfInBounds_toArray, List.set_cons_zero, List.set_cons_succ]
                repeat (first
                  | (refine Sch.tn_q rfl rfl rfl (fun K hK => ?_); go_big_quiet_op; (first | refine hK _ ?_ | refine ⟨_, fun _ _ => rfl, hK _ ?_⟩); clear hK K)
                  | (refine Sch.tn_chk _ _ _ rfl rfl rfl rfl rfl ?_; simp only [Act.put, List.setIfInBounds_toArray, List.set_cons_zero, List.set_cons_succ])
                  | (refine Sch.tn_load _ _ _ _ _ rfl rfl rfl rfl (by first | exact (fun w h => Na.load h)) rfl ?_; simp only [Act.put, List.setIfInBounds_toArray, List.set_cons_zero, List.set_cons_succ]))
                refine Sch.tn_n ?_
                have HB6 := Lib.hid (bel_tr HB.out HZ.out)
                have HD6 := Lib.hid (HD.out.keep HZ.out)
                have HS6 : Hid (B0 ≤ w6.heap.size) := Nat.le_trans HSz.out HZ.out.size
                go_wp2_with fail
                go_roundw
                case rel => exact ⟨k + 1, by omega, by go_num, HS6, HB6, HD6, HO6⟩
                case measure => simp [intOf]; omega
            · have HV2 := Lib.hid (HVn.out hbf)
              repeat (first
                | (refine Sch.tn_q rfl rfl rfl (fun K hK => ?_); go_big_quiet_op; (first | refine hK _ ?_ | refine ⟨_, fun _ _ => rfl, hK _ ?_⟩); clear hK K)
                | (refine Sch.tn_chk _ _ _ rfl rfl rfl rfl rfl ?_; simp only [Act.put, List.setIfInBounds_toArray, List.set_cons_zero, List.set_cons_succ])
                | (refine Sch.tn_load _ _ _ _ _ rfl rfl rfl rfl (by first | exact Pn.ldp | exact Pn.ldq) rfl ?_; simp only [Act.put, List.setIfInBounds_toArray, List.set_cons_zero, List.set_cons_succ])
                | (refine Sch.tn_s _ rfl rfl rfl ?_; simp only [Act.put, List.setIfInBounds_toArray, List.set_cons_zero, List.set_cons_succ])
                | (refine Sch.tn_se _ rfl rfl rfl ?_; simp only [Act.put, List.setIfInBounds_toArray, List.set_cons_zero, List.set_cons_succ]))
              refine Sch.tn_n ?_
              clear hbf
              go_wp2_with fail
              go_roundw
              case rel => exact ⟨m + 1, by omega, by go_num, HV2, HSz, HB, HD, HO⟩
              case measure => simp [intOf]; omega
          · have hme : m = O.length := by omega
            have hmi : ¬ (m : Int) < (O.length : Int) := by omega
            have HME := Lib.hid hme
            clear hme
            have hd := (Below.refl wr.heap.size wr).drew
            replace HSz : Hid (B0 ≤ wr.drew.heap.size) := Nat.le_trans HSz.out hd.size
            replace HB := Lib.hid (bel_tr HB.out hd)
            replace HD := Lib.hid (HD.out.keep hd)
            replace HO := Lib.hid (HO.out.below hd)
            clear hd
            go_wp2_with fail
            refine Sch.wp_region_tn (fun _ => True) (.val 0 (.val 1 (.val 2 (.val 3 (.val 4 (.val 5 (.val 6 (.val 7 (.val 8 (.val 9 (.val 10 (.val 11 (.val 12 (.one 13 (.val 14 .done))))))))))))))) (by kernel_rfl) (by kernel_rfl) trivial ?_
            repeat (first
              | (refine Sch.tn_q rfl rfl rfl (fun K hK => ?_); go_big_quiet_op; (first | refine hK _ ?_ | refine ⟨_, fun _ _ => rfl, hK _ ?_⟩); clear hK K)
              | (refine Sch.tn_chk _ _ _ rfl rfl rfl rfl rfl ?_; simp only [Act.put, List.setIfInBounds_toArray, List.set_cons_zero, List.set_cons_succ]))
            repeat (first
              | (refine Sch.tn_q rfl rfl rfl (fun K hK => ?_); go_big_quiet_op; (first | refine hK _ ?_ | refine ⟨_, fun _ _ => rfl, hK _ ?_⟩); clear hK K)
              | (refine Sch.tn_chk _ _ _ rfl rfl rfl rfl rfl ?_; simp only [Act.put, List.setIfInBounds_toArray, List.set_cons_zero, List.set_cons_succ])
              | (refine Sch.tn_s _ rfl rfl rfl ?_; simp only [Act.put, List.setIfInBounds_toArray, List.set_cons_zero, List.set_cons_succ])
              | (refine Sch.tn_se _ rfl rfl rfl ?_; simp only [Act.put, List.setIfInBounds_toArray, List.set_cons_zero, List.set_cons_succ]))
            refine Sch.tn_n ?_
            generalize wr.drew = wx at *
            have hmO : m ≤ O.length := hm
            have HIn := Lib.hid (insB_at hmO HV.out (.inl HME.out))
            have HSt2 : Hid ((l.take (k + 1)).foldl (childF d) [] = O.take m ++ [q] ++ O.drop m) := by show _ = _; rw [HSt.out]; unfold childF; rw [if_pos HPq.out]; exact HIn.out
            obtain ⟨aO2, cO2, he, hrO, hnO, hlc, -⟩ := ON.row HO.out
            cases he
            have HRP := Lib.hid (hrO.take m)
            have HRR := Lib.hid (offN_row hrO cO m hlc hmO)
            have s1 := cut_loN aO O.length cO m (Nat.le_trans hmO hlc)
            have s2 := cut_hiN aO O.length cO m (O.length - m) (by omega) hlc
            have hT : (O.take m).length = m := by rw [List.length_take]; omega
            have hDr : (O.drop m).length = O.length - m := by rw [List.length_drop]
            have HN1 : Hid (aO = none → cO = 0) := fun h => (hnO h).1
            have HN2 : Hid (offN aO cO m = none → cO - m = 0) := fun h => by have := HN1.out (offN_none h); omega
            have HLP : Hid ((O.take m).length + (O.drop m).length ≤ 400000) := by show _ ≤ _; rw [hT, hDr]; have := HOl.out; have := HL.out; omega
            have HNa : Hid (Na wx b (o + k * 6) q) := by
              obtain ⟨b9, o9, he9, hna9⟩ := na_of (HX.out.keep HB.out) k hlt
              cases he9
              rw [← HQ.out] at hna9
              exact hna9
            clear hrO hnO hlc HIn HV HSt HO
            generalize offN aO cO m = ad2 at *
            generalize cO - m = cR at *
            generalize O.take m = P at *
            generalize O.drop m = Rr at *
            obtain rfl := hT
            rw [← hDr] at s2
            clear hDr
            go_wp2_with fail
            have hd := (Below.refl wx.heap.size wx).drew
            replace HNa : Hid (Na wx.drew b (o + k * 6) q) := HNa.out.keep hd
            replace HB := Lib.hid (bel_tr HB.out hd)
            replace HD := Lib.hid (HD.out.keep hd)
            replace HRP := Lib.hid (HRP.out.keep hd)
            replace HRR := Lib.hid (HRR.out.keep hd)
            replace HSz : Hid (B0 ≤ wx.drew.heap.size) := Nat.le_trans HSz.out hd.size
            clear hd
            refine Sch.wp_region_tn (fun w => Na w b (o + k * 6) q) (.val 0 (.val 1 (.val 2 (.val 4 (.val 5 (.val 6 (.val 7 (.val 10 (.val 11 (.val 12 (.two 3 (.one 8 (.one 9 (.one 13 (.val 14 .done)))) 8 (.one 3 (.one 9 (.one 13 (.val 14 .done))))))))))))))) (by kernel_rfl) (by kernel_rfl) HNa.out ?_
            repeat (first
              | (refine Sch.tn_q rfl rfl rfl (fun K hK => ?_); go_big_quiet_op; (first | refine hK _ ?_ | refine ⟨_, fun _ _ => rfl, hK _ ?_⟩); clear hK K)
              | (refine Sch.tn_chk _ _ _ rfl rfl rfl rfl rfl ?_; simp only [Act.put, List.setIfInBounds_toArray, List.set_cons_zero, List.set_cons_succ])
              | (refine Sch.tn_load _ _ _ _ _ rfl rfl rfl rfl (by first | exact (fun w h => Na.load h)) rfl ?_; simp only [Act.put, List.setIfInBounds_toArray, List.set_cons_zero, List.set_cons_succ]))
            generalize wx.drew = W2 at *
            have HZ := Lib.hid (Below.refl W2.heap.size W2)
            refine Sch.tn_two ?_ ?_
            · skip
              refine Sch.tn_e rfl rfl (fun K hK => ?_)
              refine wp_appN _ _ _ rfl Try.underlying22 infoN (.slice none 0 0) [] rfl (ON.nil _ W2.heap.size _) _ P cO _ rfl rfl HRP.out HN1.out (by have := HLP.out; simp; omega) (Nat.le_refl _) ?_
              intro v1 w3 ho hg _
              have HO3 : Hid (ON w3 W2.heap.size EN v1 P) := ho
              replace HZ := Lib.hid (HZ.out.grown hg (Nat.le_refl _) (fun k hk => by cases hk))
              clear ho hg
              refine hK _ _ (HNa.out.keep HZ.out) ?_
              clear hK K
              simp only [Act.put, List.setIfInBounds_toArray, List.set_cons_zero, List.set_cons_succ]
              refine Sch.tn_e rfl rfl (fun K hK => ?_)
              go_wp2_with fail
              have hb4 := bel_box w3 (.cells (nc q) 35)
              have HO4 := Lib.hid (HO3.out.below hb4)
              replace HZ := Lib.hid (HZ.out.trans (hb4.mono HZ.out.size))
              have HL4 : Hid (RowN (w3.alloc (.cells (nc q) 35)) (some ⟨w3.heap.size, 0, none⟩) [q]) := RowN.lit w3 [q] _ _ _ rfl
              clear hb4 HO3
              refine hK _ _ (HNa.out.keep HZ.out) ?_
              clear hK K
              generalize (w3.alloc (.cells (nc q) 35)) = w4 at *
              refine Sch.tn_e rfl rfl (fun K hK => ?_)
              refine wp_appN _ _ _ rfl Try.underlying22 infoN v1 P rfl HO4.out (some ⟨w3.heap.size, 0, none⟩) [q] 1 1 rfl rfl HL4.out (fun h => by cases h) (by have := HLP.out; simp; omega) HZ.out.size ?_
              intro v2 w5 ho hg _
              replace HZ := Lib.hid (HZ.out.grown hg HZ.out.size (fun k hk => (HO4.out.lt k hk).1))
              have HO5 := Lib.hid ho
              clear ho hg HO4 HL4
              refine hK _ _ (HNa.out.keep HZ.out) ?_
              clear hK K
              simp only [Act.put, List.setIfInBounds_toArray, List.set_cons_zero, List.set_cons_succ]
              refine Sch.tn_e rfl rfl (fun K hK => ?_)
              refine wp_appN _ _ _ rfl Try.underlying22 infoN v2 (P ++ [q]) rfl HO5.out ad2 Rr cR _ rfl rfl (HRR.out.keep HZ.out) HN2.out (by have := HLP.out; simp; omega) HZ.out.size ?_
              intro v3 w6 ho hg _
              replace HZ := Lib.hid (HZ.out.grown hg HZ.out.size (fun k hk => (HO5.out.lt k hk).1))
              have HO6 : Hid (ON w6 B0 EN v3 ((l.take (k + 1)).foldl (childF d) [])) := by rw [HSt2.out]; exact ho.mono fun x hx => Nat.le_trans HSz.out (ho.lt x hx).1
              clear ho hg HO5
              refine hK _ _ (HNa.out.keep HZ.out) ?_
              clear hK K
              simp only [Act.put, List.setIfInBounds_toArray, List.set_cons_zero, List.set_cons_succ]
              repeat (first
                | (refine Sch.tn_q rfl rfl rfl (fun K hK => ?_); go_big_quiet_op; (first | refine hK _ ?_ | refine ⟨_, fun _ _ => rfl, hK _ ?_⟩); clear hK K)
                | (refine Sch.tn_chk _ _ _ rfl rfl rfl rfl rfl ?_; simp only [Act.put, List.setIfInBounds_toArray, List.set_cons_zero, List.set_cons_succ])
                | (refine Sch.tn_load _ _ _ _ _ rfl rfl rfl rfl (by first | exact (fun w h => Na.load h)) rfl ?_; simp only [Act.put, List.setIfInBounds_toArray, List.set_cons_zero, List.set_cons_succ]))
              refine Sch.tn_n ?_
              have HB6 := Lib.hid (bel_tr HB.out HZ.out)
              have HD6 := Lib.hid (HD.out.keep HZ.out)
              have HS6 : Hid (B0 ≤ w6.heap.size) := Nat.le_trans HSz.out HZ.out.size
              go_wp2_with fail
              go_roundw
              case rel => exact ⟨k + 1, by omega, by go_num, HS6, HB6, HD6, HO6⟩
              case measure => simp [intOf]; omega
            · skip
              refine Sch.tn_e rfl rfl (fun K hK => ?_)
              go_wp2_with fail
              have hb3 := bel_box W2 (.cells (nc q) 35)
              have HL3 : Hid (RowN (W2.alloc (.cells (nc q) 35)) (some ⟨W2.heap.size, 0, none⟩) [q]) := RowN.lit W2 [q] _ _ _ rfl
              replace HZ := Lib.hid hb3
              have HRP3 := Lib.hid (HRP.out.keep hb3)
              clear hb3
              refine hK _ _ (HNa.out.keep HZ.out) ?_
              clear hK K
              generalize (W2.alloc (.cells (nc q) 35)) = w3 at *
              refine Sch.tn_e rfl rfl (fun K hK => ?_)
              refine wp_appN _ _ _ rfl Try.underlying22 infoN (.slice none 0 0) [] rfl (ON.nil _ W2.heap.size _) _ P cO _ rfl rfl HRP3.out HN1.out (by have := HLP.out; simp; omega) HZ.out.size ?_
              intro v1 w4 ho hg _
              have HO4 : Hid (ON w4 W2.heap.size EN v1 P) := ho
              have hb4 : Below w3.heap.size w3 w4 := (Below.refl _ _).grown hg (Nat.le_refl _) (fun k hk => by cases hk)
              replace HZ := Lib.hid (HZ.out.trans (hb4.mono HZ.out.size))
              have HL4 := Lib.hid (HL3.out.keep hb4)
              clear ho hg hb4 HL3 HRP3
              refine hK _ _ (HNa.out.keep HZ.out) ?_
              clear hK K
              simp only [Act.put, List.setIfInBounds_toArray, List.set_cons_zero, List.set_cons_succ]
              refine Sch.tn_e rfl rfl (fun K hK => ?_)
              refine wp_appN _ _ _ rfl Try.underlying22 infoN v1 P rfl HO4.out (some ⟨W2.heap.size, 0, none⟩) [q] 1 1 rfl rfl HL4.out (fun h => by cases h) (by have := HLP.out; simp; omega) HZ.out.size ?_
              intro v2 w5 ho hg _
              replace HZ := Lib.hid (HZ.out.grown hg HZ.out.size (fun k hk => (HO4.out.lt k hk).1))
              have HO5 := Lib.hid ho
              clear ho hg HO4 HL4
              refine hK _ _ (HNa.out.keep HZ.out) ?_
              clear hK K
              simp only [Act.put, List.setIfInBounds_toArray, List.set_cons_zero, List.set_cons_succ]
              refine Sch.tn_e rfl rfl (fun K hK => ?_)
              refine wp_appN _ _ _ rfl Try.underlying22 infoN v2 (P ++ [q]) rfl HO5.out ad2 Rr cR _ rfl rfl (HRR.out.keep HZ.out) HN2.out (by have := HLP.out; simp; omega) HZ.out.size ?_
              intro v3 w6 ho hg _
              replace HZ := Lib.hid (HZ.out.grown hg HZ.out.size (fun k hk => (HO5.out.lt k hk).1))
              have HO6 : Hid (ON w6 B0 EN v3 ((l.take (k + 1)).foldl (childF d) [])) := by rw [HSt2.out]; exact ho.mono fun x hx => Nat.le_trans HSz.out (ho.lt x hx).1
              clear ho hg HO5
              refine hK _ _ (HNa.out.keep HZ.out) ?_
              clear hK K
              simp only [Act.put, List.setIfInBounds_toArray, List.set_cons_zero, List.set_cons_succ]
              repeat (first
                | (refine Sch.tn_q rfl rfl rfl (fun K hK => ?_); go_big_quiet_op; (first | refine hK _ ?_ | refine ⟨_, fun _ _ => rfl, hK _ ?_⟩); clear hK K)
                | (refine Sch.tn_chk _ _ _ rfl rfl rfl rfl rfl ?_; simp only [Act.put, List.setIfInBounds_toArray, List.set_cons_zero, List.set_cons_succ])
                | (refine Sch.tn_load _ _ _ _ _ rfl rfl rfl rfl (by first | exact (fun w h => Na.load h)) rfl ?_; simp only [Act.put, List.setIfInBounds_toArray, List.set_cons_zero, List.set_cons_succ]))
              refine Sch.tn_n ?_
              have HB6 := Lib.hid (bel_tr HB.out HZ.out)
              have HD6 := Lib.hid (HD.out.keep HZ.out)
              have HS6 : Hid (B0 ≤ w6.heap.size) := Nat.le_trans HSz.out HZ.out.size
              go_wp2_with fail
              go_roundw
              case rel => exact ⟨k + 1, by omega, by go_num, HS6, HB6, HD6, HO6⟩
              case measure => simp [intOf]; omega
      · have hnq := neq_yes hp
        have HSt2 : Hid ((l.take (k + 1)).foldl (childF d) [] = O) := by show _ = _; rw [HSt.out]; unfold childF; rw [if_neg hp]
        go_wp2_with fail
        refine Sch.wp_region_tn (Pc w.heap.size b (o + k * 6) d q) (.val 0 (.val 1 (.val 2 (.val 3 (.val 4 (.val 5 (.val 6 .done))))))) (by kernel_rfl) (by kernel_rfl) HP.out ?_
        repeat (first
          | (refine Sch.tn_q rfl rfl rfl (fun K hK => ?_); go_big_quiet_op; (first | refine hK _ ?_ | refine ⟨_, fun _ _ => rfl, hK _ ?_⟩); clear hK K)
          | (refine Sch.tn_chk _ _ _ rfl rfl rfl rfl rfl ?_; simp only [Act.put, List.setIfInBounds_toArray, List.set_cons_zero, List.set_cons_succ])
          | (refine Sch.tn_load _ _ _ _ _ rfl rfl rfl rfl (by first | exact Pc.ldp | exact Pc.ldd) rfl ?_; simp only [Act.put, List.setIfInBounds_toArray, List.set_cons_zero, List.set_cons_succ]))
        refine Sch.tn_n ?_
        generalize wr.drew = w2 at *
        go_wp2_with fail
        go_roundw
        case rel => exact ⟨k + 1, by omega, by go_num, HSd, HBd, HP.out.2, by rw [HSt2.out]; exact HOd.out⟩
        case measure => simp [intOf]; omega
    · obtain rfl : k = l.length := by omega
      have hend : ¬ (l.length : Int) < (l.length : Int) := by omega
      rw [← HR0.out] at HO
      go_wp2_with fail
      go_ret
      exact ⟨_, rfl, HO.out.mono fun x hx => Nat.le_trans (Nat.le_of_lt HS.out) (HO.out.lt x hx).1, HB.out⟩
end Go.Proofs.Yteojbekkbgcmnaa.Un
end

/-
  The reference's Below.
-/
section
namespace Go.Proofs.Yteojbekkbgcmnaa.Un
set_option linter.unusedVariables false
open Go.RowKit V Go.Shelf D Nd Qs Wk
attribute [local irreducible] Sch.heldN Sch.stepV Sch.stepE

theorem flat_take {C : List Nt} {k : Nat} (f : Nt → List Nt) (h : k < C.length) : (C.take (k + 1)).flatMap f = (C.take k).flatMap f ++ f C[k] := by
  rw [List.take_succ_eq_append_getElem h, List.flatMap_append]
  simp
theorem flat_len (C : List Nt) (f : Nt → List Nt) (k : Nat) : ((C.take k).flatMap f).length ≤ (C.flatMap f).length := by
  have h := congrArg (fun x => (x.flatMap f).length) (List.take_append_drop k C)
  simp only [List.flatMap_append, List.length_append] at h
  omega
set_option maxRecDepth 100000 in
set_option maxHeartbeats 8000000 in
theorem below_ref (l : List Nt) (hv : validS l = true) (hlx : l.length ≤ 300000) : ∀ (n : Nat) (d : Dt) (p : List Dt), Pt l d p → l.length + 1 ≤ n + p.length → ∀ (a : Option Addr) (c : Nat) (w : World), RowN w a l →
    Calls Try.prog 43 #[.slice a l.length c, dv d] w fun e w' => ∃ v, e = .returned v ∧ ON w' w.heap.size EN v (Bw l d) ∧ Below w.heap.size w w' := by
  intro n
  induction n with
  | zero =>
    intro d p hp hn a c w hx
    have := pt_len hp
    omega
  | succ n ih =>
    intro d p hp hn a c w hx
    have HIH : Hid (∀ x ∈ childS l d, ∀ w, RowN w a l → Calls Try.prog 43 #[.slice a l.length c, dv x.1] w fun e w' => ∃ v, e = .returned v ∧ ON w' w.heap.size EN v (Bw l x.1) ∧ Below w.heap.size w w') := fun x hxm w h => ih x.1 (p ++ [x.1]) (child_path hv hp hxm) (by rw [List.length_append]; simp; omega) a c w h
    have HLn : Hid (∀ x ∈ childS l d, (Bw l x.1).length ≤ l.length) := fun x hxm => bw_len hv (child_path hv hp hxm)
    have HR : Hid (Bw l d = (childS l d).flatMap fun x => x :: Bw l x.1) := bw_eq hv hp
    have HTl : Hid (((childS l d).flatMap fun x => x :: Bw l x.1).length ≤ l.length) := by show _ ≤ _; rw [← bw_eq hv hp]; exact bw_len hv hp
    clear ih
    have HC := Lib.hid (fun w h => child_ref l d a c w h (by omega))
    have HCl : Hid ((childS l d).length ≤ 400000) := by
      have h := fold_len d l l.length (Nat.le_refl _)
      rw [List.take_length] at h
      show _ ≤ _
      have h2 : (childS l d).length ≤ l.length := h
      omega
    have HB := Lib.hid (bel_box w (.cells #[.int .i64 d.1, .int .i64 d.2] 24))
    have HX := Lib.hid hx
    have HD := Lib.hid (bd_new w d)
    have HL := Lib.hid hlx
    clear hx hp hn hv
    generalize Bw l d = R at *
    generalize hCC : childS l d = C at *
    clear hCC
    go_enter Try.func43, Try.ntmps43
    have c0 := HD.out.c0
    have c1 := HD.out.c1
    go_wp2_with fail
    generalize w.alloc (.cells #[.int .i64 d.1, .int .i64 d.2] 24) = w1 at *
    refine (HC.out _ (HX.out.keep HB.out)).mono ?_
    rintro e w2 ⟨v, rfl, ho, hb⟩
    obtain ⟨aC, cC, rfl, hrC, -, -, hlt2⟩ := ON.row ho
    replace HB := Lib.hid (bel_tr HB.out hb)
    obtain ⟨B0, hB0⟩ : ∃ B0, B0 = w2.heap.size := ⟨_, rfl⟩
    have HBw : Hid (w.heap.size ≤ B0) := by show _ ≤ _; rw [hB0]; exact HB.out.size
    have HBc : Hid (∀ b o, aC = some ⟨b, o, none⟩ → b < B0) := fun b o e => by rw [hB0]; exact (hlt2 _ e).2.2.2
    have HB0 := Lib.hid hB0
    have HRC := Lib.hid hrC
    have hCi : (C.length : Int) ≤ 400000 := by have := HCl.out; omega
    clear ho hb hrC hlt2 hB0 HC HD c0 c1
    go_wp2_with fail
    go_loopw [5, 7] (fun v i wr => ∃ k : Nat, k ≤ C.length ∧ i = .int .i64 (k : Int) ∧ Hid (B0 ≤ wr.heap.size) ∧ Hid (Below w.heap.size w wr) ∧ Hid (RowN wr aC C) ∧ Hid (ON wr B0 EN v ((C.take k).flatMap fun x => x :: Bw l x.1))) (fun _ i _ => C.length - (intOf i).toNat)
    case atStart => exact ⟨0, Nat.zero_le _, rfl, by show B0 ≤ _; rw [HB0.out]; exact Nat.le_refl _, HB, HRC, ON.nil _ _ _⟩
    case round =>
      obtain ⟨k, hk, rfl, HSz, HB, HRC, HO⟩ := hrel
      by_cases hlt : k < C.length
      · have hi0 : (k : Int) < (C.length : Int) := by omega
        obtain ⟨b, o, rfl, hna⟩ := na_of HRC.out k hlt
        have HSt := Lib.hid (flat_take (fun x => x :: Bw l x.1) hlt)
        have HPl : Hid (((C.take k).flatMap fun x => x :: Bw l x.1).length ≤ 300000) := by
          show _ ≤ _
          have h1 := flat_len C (fun x => x :: Bw l x.1) k
          have h2 := HTl.out
          have h3 := HL.out
          omega
        have HI := Lib.hid (HIH.out C[k] (List.getElem_mem hlt))
        have HBl := Lib.hid (HLn.out C[k] (List.getElem_mem hlt))
        obtain ⟨q, hq⟩ : ∃ q, q = C[k] := ⟨_, rfl⟩
        rw [← hq] at hna HSt HI HBl
        have HQ := Lib.hid hq
        clear hq
        generalize (C.take k).flatMap (fun x => x :: Bw l x.1) = P at *
        have hx0 := ixN b o C.length cC k (k : Int) rfl hlt
        have hd := (Below.refl wr.heap.size wr).drew
        have HNa : Hid (Na wr.drew b (o + k * 6) q) := hna.keep hd
        replace HB := Lib.hid (bel_tr HB.out hd)
        replace HRC := Lib.hid (HRC.out.keep hd)
        replace HO := Lib.hid (HO.out.below hd)
        replace HSz : Hid (B0 ≤ wr.drew.heap.size) := Nat.le_trans HSz.out hd.size
        clear hd hna
        go_wp2_with fail
        refine Sch.wp_region_tn (fun w => Na w b (o + k * 6) q) (.val 0 (.val 1 (.val 2 (.val 3 (.val 4 (.val 7 (.val 8 (.val 9 (.val 10 (.val 11 (.val 12 (.one 5 (.one 6 (.one 13 (.one 14 (.val 15 .done)))))))))))))))) (by kernel_rfl) (by kernel_rfl) HNa.out ?_
        repeat (first
          | (refine Sch.tn_q rfl rfl rfl (fun K hK => ?_); go_big_quiet_op; (first | refine hK _ ?_ | refine ⟨_, fun _ _ => rfl, hK _ ?_⟩); clear hK K)
          | (refine Sch.tn_chk _ _ _ rfl rfl rfl rfl rfl ?_; simp only [Act.put, List.setIfInBounds_toArray, List.set_cons_zero, List.set_cons_succ])
          | (refine Sch.tn_load _ _ _ _ _ rfl rfl rfl rfl (by first | exact (fun w h => Na.load h) | exact (fun w h => Na.loadD h)) rfl ?_; simp only [Act.put, List.setIfInBounds_toArray, List.set_cons_zero, List.set_cons_succ]))
        generalize wr.drew = w3 at *
        refine Sch.tn_e rfl rfl (fun K hK => ?_)
        go_wp2_with fail
        have hbx := bel_box w3 (.cells (nc q) 35)
        have HLt : Hid (RowN (w3.alloc (.cells (nc q) 35)) (some ⟨w3.heap.size, 0, none⟩) [q]) := RowN.lit w3 [q] _ _ _ rfl
        replace HNa : Hid (Na (w3.alloc (.cells (nc q) 35)) b (o + k * 6) q) := HNa.out.keep hbx
        replace HB := Lib.hid (bel_tr HB.out hbx)
        replace HRC := Lib.hid (HRC.out.keep hbx)
        replace HO := Lib.hid (HO.out.below hbx)
        replace HSz : Hid (B0 ≤ (w3.alloc (.cells (nc q) 35)).heap.size) := Nat.le_trans HSz.out hbx.size
        clear hbx
        refine hK _ _ HNa.out ?_
        clear hK K
        generalize w3.alloc (.cells (nc q) 35) = w4 at *
        generalize w3.heap.size = g3 at *
        refine Sch.tn_e rfl rfl (fun K hK => ?_)
        refine wp_appN _ _ _ rfl Try.underlying22 infoN _ P rfl HO.out (some ⟨g3, 0, none⟩) [q] 1 1 rfl rfl HLt.out (fun h => by cases h) (by have := HPl.out; simp; omega) HSz.out ?_
        intro v5 w5 ho hg _
        have HO5 := Lib.hid ho
        have HB5 := Lib.hid (HB.out.grown hg HB.out.size (fun x hx => Nat.le_trans HBw.out (HO.out.lt x hx).1))
        have HRC5 : Hid (RowN w5 (some ⟨b, o, none⟩) C) := HRC.out.gb hg (fun b' o' e e2 => by have h1 := (HO.out.lt _ e2.symm).1; have h2 := HBc.out b' o' e; omega)
        have HNa5 : Hid (Na w5 b (o + k * 6) q) := by
          obtain ⟨b9, o9, e9, h9⟩ := na_of HRC5.out k hlt
          cases e9
          rw [← HQ.out] at h9
          exact h9
        have HS5 : Hid (B0 ≤ w5.heap.size) := Nat.le_trans HSz.out hg.size
        clear ho hg HLt HO HB HRC HNa HSz
        refine hK _ _ HNa5.out ?_
        clear hK K
        simp only [Act.put, List.setIfInBounds_toArray, List.set_cons_zero, List.set_cons_succ]
        refine Sch.tn_e rfl rfl (fun K hK => ?_)
        go_wp2_with fail
        refine (HI.out _ (HX.out.keep HB5.out)).mono ?_
        rintro e w6 ⟨v6, rfl, ho, hb⟩
        obtain ⟨a6, c6, rfl, hr6, hn6, -, -⟩ := ON.row ho
        have HR6 := Lib.hid hr6
        have HN6 : Hid (a6 = none → c6 = 0) := fun h => (hn6 h).1
        replace HNa5 : Hid (Na w6 b (o + k * 6) q) := HNa5.out.keep hb
        replace HB5 := Lib.hid (bel_tr HB5.out hb)
        replace HRC5 := Lib.hid (HRC5.out.keep hb)
        replace HO5 := Lib.hid (HO5.out.below hb)
        replace HS5 : Hid (B0 ≤ w6.heap.size) := Nat.le_trans HS5.out hb.size
        clear ho hb hr6 hn6
        refine hK _ _ HNa5.out ?_
        clear hK K
        refine Sch.tn_e rfl rfl (fun K hK => ?_)
        refine wp_appN _ _ _ rfl Try.underlying22 infoN _ (P ++ [q]) rfl HO5.out a6 (Bw l q.1) c6 _ rfl rfl HR6.out HN6.out (by have := HPl.out; have := HBl.out; have := HL.out; simp; omega) HS5.out ?_
        intro v7 w7 ho hg _
        have HO7 : Hid (ON w7 B0 EN v7 ((C.take (k + 1)).flatMap fun x => x :: Bw l x.1)) := by
          show ON _ _ _ _ _
          rw [HSt.out, show P ++ q :: Bw l q.1 = P ++ [q] ++ Bw l q.1 by simp]
          exact ho
        have HB7 := Lib.hid (HB5.out.grown hg HB5.out.size (fun x hx => Nat.le_trans HBw.out (HO5.out.lt x hx).1))
        have HRC7 : Hid (RowN w7 (some ⟨b, o, none⟩) C) := HRC5.out.gb hg (fun b' o' e e2 => by have h1 := (HO5.out.lt _ e2.symm).1; have h2 := HBc.out b' o' e; omega)
        have HNa7 : Hid (Na w7 b (o + k * 6) q) := by
          obtain ⟨b9, o9, e9, h9⟩ := na_of HRC7.out k hlt
          cases e9
          rw [← HQ.out] at h9
          exact h9
        have HS7 : Hid (B0 ≤ w7.heap.size) := Nat.le_trans HS5.out hg.size
        clear ho hg HR6
        refine hK _ _ HNa7.out ?_
        clear hK K
        simp only [Act.put, List.setIfInBounds_toArray, List.set_cons_zero, List.set_cons_succ]
        repeat (first
          | (refine Sch.tn_q rfl rfl rfl (fun K hK => ?_); go_big_quiet_op; (first | refine hK _ ?_ | refine ⟨_, fun _ _ => rfl, hK _ ?_⟩); clear hK K)
          | (refine Sch.tn_chk _ _ _ rfl rfl rfl rfl rfl ?_; simp only [Act.put, List.setIfInBounds_toArray, List.set_cons_zero, List.set_cons_succ])
          | (refine Sch.tn_load _ _ _ _ _ rfl rfl rfl rfl (by first | exact (fun w h => Na.load h)) rfl ?_; simp only [Act.put, List.setIfInBounds_toArray, List.set_cons_zero, List.set_cons_succ]))
        refine Sch.tn_n ?_
        go_wp2_with fail
        go_roundw
        case rel => exact ⟨k + 1, by omega, by go_num, HS7, HB7, HRC7, HO7⟩
        case measure => simp [intOf]; omega
      · obtain rfl : k = C.length := by omega
        have hend : ¬ (C.length : Int) < (C.length : Int) := by omega
        rw [List.take_length, ← HR.out] at HO
        go_wp2_with fail
        go_ret
        exact ⟨_, rfl, HO.out.mono fun x hx => Nat.le_trans HBw.out (HO.out.lt x hx).1, HB.out⟩
/-- Order of the reference. -/
theorem order_ref (l : List Nt) (hv : validS l = true) (hlx : l.length ≤ 300000) (a : Option Addr) (c : Nat) (w : World) (hx : RowN w a l) :
    Calls Try.prog 16 #[.slice a l.length c] w fun e w' => ∃ v, e = .returned v ∧ ON w' w.heap.size EN v (orderS l) ∧ Below w.heap.size w w' := by
  have HC := Lib.hid (below_ref l hv hlx (l.length + 1) (0, 0) [] (root_path l) (by simp) a c w hx)
  rw [show Bw l (0, 0) = orderS l from rfl] at HC
  clear hx
  go_enter Try.func16, Try.ntmps16
  go_wp2_with fail
  refine HC.out.mono ?_
  rintro e w2 ⟨v, rfl, ho, hb⟩
  have HO := Lib.hid ho
  have HB := Lib.hid hb
  clear ho hb HC
  go_wp2_with fail
  go_ret
  exact ⟨v, rfl, HO.out, HB.out⟩
end Go.Proofs.Yteojbekkbgcmnaa.Un
end
