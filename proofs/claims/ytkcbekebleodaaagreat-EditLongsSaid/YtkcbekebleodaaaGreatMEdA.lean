/-
  Layer 15: the reference's tree: which node stands first, the children of a dot.
-/
import Derived.Test.YtkcbekebleodaaaGreatMQAdd
import Derived.Test.YtkcbekebleodaaaGreatMWRev
import Derived.Test.YtkcbekebleodaaaGreatMNPure
import Derived.Test.YtkcbekebleodaaaGreatMQPlc
import Derived.Test.YtkcbekebleodaaaGreatMJnC

section
namespace Go.Proofs.YtkcbekebleodaaaGreat.Ed
set_option linter.unusedVariables false
open Go.RowKit V Go.Shelf D Nd Qs Wk Jn
attribute [local irreducible] Sch.heldN Sch.stepV Sch.stepE

abbrev EN : TypeId := 53
theorem load_dotB {w : World} {b : Nat} {d : Dt} (h : Un.Bd w b d) : (Instr.loadAt 25 (.pointer (some ⟨b, 0, none⟩))).run Tryz.prog w = .ok (dv d) w := by
  have h0 := h.c0
  have h1 := h.c1
  go_simp
set_option maxRecDepth 100000 in
set_option maxHeartbeats 4000000 in
theorem first_ref (a b : Nt) (w : World) : Calls Tryz.prog 96 #[nv a, nv b] w fun e w' => e = .returned (.bool (beforeN a b)) ∧ Below w.heap.size w w' := by
  have HE : Hid (beforeN a b = if a.2.2.1 = b.2.2.1 then less b.1 a.1 else decide (b.2.2.1 < a.2.2.1)) := rfl
  have HL := Lib.hid (fun w => before_ref b.1 a.1 w)
  have HK := Lib.hid (N2.new a b w)
  have HB := Lib.hid (bel_two w a b)
  generalize beforeN a b = R at *
  generalize less b.1 a.1 = l at *
  obtain ⟨⟨a1, a2⟩, ⟨a3, a4⟩, a5, a6⟩ := a
  obtain ⟨⟨b1, b2⟩, ⟨b3, b4⟩, b5, b6⟩ := b
  simp only at HE
  by_cases h1 : b5 < a5
  · have h2 : a5 ≠ b5 := by omega
    rw [if_neg h2, decide_eq_true h1] at HE
    clear h2
    go_enter Tryz.func96, Tryz.ntmps96
    go_wp2_with fail
    go_ret
    exact ⟨by rw [HE.out]; rfl, HB.out⟩
  · by_cases h : a5 = b5
    · subst h
      rw [if_pos rfl] at HE
      go_enter Tryz.func96, Tryz.ntmps96
      go_wp2_with fail
      refine (HL.out _).mono ?_
      rintro e w2 ⟨rfl, hl⟩
      replace HB := bel_tr HB hl.bel
      clear hl
      go_wp2_with fail
      go_ret
      exact ⟨by rw [HE.out]; rfl, HB.out⟩
    · have hne : (a5 == b5) = false := by simpa using h
      rw [if_neg h, decide_eq_false h1] at HE
      clear h
      go_enter Tryz.func96, Tryz.ntmps96
      go_wp2_with fail
      go_ret
      exact ⟨by rw [HE.out]; rfl, HB.out⟩
/-- The node at a place, the dot in a box. -/
def Pc (g b o : Nat) (d : Dt) (q : Nt) (w : World) : Prop := Na w b o q ∧ Un.Bd w g d
section
variable {g b o : Nat} {d : Dt} {q : Nt}
theorem Pc.ldp : ∀ w, Pc g b o d q w → (Instr.loadAt 25 (.pointer (some ⟨b, o + 2, none⟩))).run Tryz.prog w = .ok (dv q.2.1) w := fun w h => by
  have h2 := h.1.2.2.1
  have h3 := h.1.2.2.2.1
  exact load_dot h2 h3
theorem Pc.ldd : ∀ w, Pc g b o d q w → (Instr.loadAt 25 (.pointer (some ⟨g, 0, none⟩))).run Tryz.prog w = .ok (.agg #[.int .i64 d.1, .int .i64 d.2]) w := fun w h => load_dotB h.2
end
/-- Two nodes at their places. -/
def Pn (b o b2 o2 : Nat) (p q : Nt) (w : World) : Prop := Na w b o p ∧ Na w b2 o2 q
section
variable {b o b2 o2 : Nat} {p q : Nt}
theorem Pn.ldp : ∀ w, Pn b o b2 o2 p q w → (Instr.loadAt 53 (.pointer (some ⟨b, o, none⟩))).run Tryz.prog w = .ok (nv p) w := fun w h => h.1.load
theorem Pn.ldq : ∀ w, Pn b o b2 o2 p q w → (Instr.loadAt 53 (.pointer (some ⟨b2, o2, none⟩))).run Tryz.prog w = .ok (nv q) w := fun w h => h.2.load
end
theorem child_take {l : List Nt} {k : Nat} (d : Dt) (h : k < l.length) : (l.take (k + 1)).foldl (childF d) [] = childF d ((l.take k).foldl (childF d) []) l[k] := by
  rw [List.take_succ_eq_append_getElem h, List.foldl_append]
  rfl
theorem childF_len (d : Dt) (o : List Nt) (n : Nt) : (childF d o n).length ≤ o.length + 1 := by
  unfold childF
  split
  · unfold insB
    have h := congrArg List.length (List.takeWhile_append_dropWhile (p := fun y => beforeN y n) (l := o))
    rw [List.length_append] at h
    rw [List.length_append, List.length_cons]
    omega
  · omega
theorem fold_len (d : Dt) (l : List Nt) : ∀ k, k ≤ l.length → ((l.take k).foldl (childF d) []).length ≤ k
  | 0, _ => by simp
  | k + 1, h => by
    rw [child_take d (by omega)]
    have h1 := childF_len d ((l.take k).foldl (childF d) []) (l[k]'(by omega))
    have h2 := fold_len d l k (by omega)
    omega
/-- Where a node is put in. -/
theorem insB_at {o : List Nt} {q : Nt} {m : Nat} (hm : m ≤ o.length) (h : ∀ j (hj : j < o.length), j < m → beforeN o[j] q = true) (h2 : m = o.length ∨ ∃ hj : m < o.length, beforeN o[m] q = false) : insB o q = o.take m ++ [q] ++ o.drop m := by
  induction o generalizing m with
  | nil =>
    obtain rfl : m = 0 := by simpa using hm
    rfl
  | cons x t ih =>
    cases m with
    | zero =>
      have hx : beforeN x q = false := by
        rcases h2 with h2 | ⟨_, h2⟩
        · simp at h2
        · exact h2
      unfold insB
      rw [List.takeWhile_cons, List.dropWhile_cons]
      simp [hx]
    | succ m =>
      have hx : beforeN x q = true := h 0 (by simp) (by omega)
      have hi := ih (m := m) (by simpa using hm) (fun j hj hjm => by have := h (j + 1) (by simpa using hj) (by omega); simpa using this) (by
        rcases h2 with h2 | ⟨h3, h2⟩
        · exact .inl (by simpa using h2)
        · exact .inr ⟨by simpa using h3, by simpa using h2⟩)
      unfold insB at hi ⊢
      rw [List.takeWhile_cons, List.dropWhile_cons, hx]
      simp only [if_true, List.cons_append, List.take_succ_cons, List.drop_succ_cons]
      rw [hi]
theorem neqD_no {p q : Dt} (h : p = q) : ∀ w, Sem.run Tryz.prog (binOp .neq 25 (.agg #[.int .i64 p.1, .int .i64 p.2]) (.agg #[.int .i64 q.1, .int .i64 q.2])) w = .ok (.bool false) w := fun w => by
  subst h
  have := neq_dot p p w
  rwa [decide_eq_true rfl] at this
set_option maxRecDepth 100000 in
set_option maxHeartbeats 8000000 in
theorem child_ref (l : List Nt) (d : Dt) (a : Option Addr) (c : Nat) (w : World) (hx : RowN w a l) (hlx : l.length ≤ 400000) :
    Calls Tryz.prog 80 #[.slice a l.length c, dv d] w fun e w' => ∃ v, e = .returned v ∧ ON w' w.heap.size EN v (childS l d) ∧ Below w.heap.size w w' := by
  have HB := Lib.hid (bel_box w (.cells #[.int .i64 d.1, .int .i64 d.2] 25))
  have HD := Lib.hid (Un.bd_new w d)
  have HX := Lib.hid hx
  have hli : (l.length : Int) ≤ 400000 := by omega
  have HL := Lib.hid hlx
  have HR0 : Hid (childS l d = (l.take l.length).foldl (childF d) []) := by show _ = _; rw [List.take_length]; rfl
  clear hx hlx
  generalize childS l d = R at *
  go_enter Tryz.func80, Tryz.ntmps80
  go_wp2_with fail
  have HS : Hid (w.heap.size < (w.alloc (.cells #[.int .i64 d.1, .int .i64 d.2] 25)).heap.size) := by show _ < _; simp
  generalize w.alloc (.cells #[.int .i64 d.1, .int .i64 d.2] 25) = w1 at *
  obtain ⟨B0, hB0⟩ : ∃ B0, B0 = w1.heap.size := ⟨_, rfl⟩
  rw [← hB0] at HS
  have HB0 := Lib.hid hB0
  clear hB0
  go_loopw [5, 6, 7, 8] (fun v i _ _ wr => ∃ (k : Nat), k ≤ l.length ∧ i = .int .i64 (k : Int) ∧ Hid (B0 ≤ wr.heap.size) ∧ Hid (Below w.heap.size w wr) ∧ Hid (Un.Bd wr w.heap.size d) ∧ Hid (ON wr B0 EN v ((l.take k).foldl (childF d) []))) (fun _ i _ _ _ => l.length - (intOf i).toNat)
  case atStart => exact ⟨0, Nat.zero_le _, rfl, by show B0 ≤ _; rw [HB0.out]; exact Nat.le_refl _, HB, HD, ON.nil _ _ _⟩
  case round =>
    obtain ⟨k, hk, rfl, HSz, HB, HD, HO⟩ := hrel
    by_cases hlt : k < l.length
    · have hi0 : (k : Int) < (l.length : Int) := by omega
      obtain ⟨b, o, rfl, hna⟩ := na_of (HX.out.keep HB.out) k hlt
      have HSt := Lib.hid (child_take d hlt)
      have HOl := Lib.hid (fold_len d l k (by omega))
      obtain ⟨q, hq⟩ : ∃ q, q = l[k] := ⟨_, rfl⟩
      rw [← hq] at hna HSt
      have HQ := Lib.hid hq
      clear hq
      generalize hOO : (l.take k).foldl (childF d) [] = O at *
      clear hOO
      have hd := (Below.refl wr.heap.size wr).drew
      have HP : Hid (Pc w.heap.size b (o + k * 6) d q wr.drew) := ⟨hna.keep hd, HD.out.keep hd⟩
      have HBd := Lib.hid (bel_tr HB.out hd)
      have HOd := Lib.hid (HO.out.below hd)
      have HSd : Hid (B0 ≤ wr.drew.heap.size) := Nat.le_trans HSz.out hd.size
      have hx0 := ixS b o l.length c k (k : Int) rfl hlt
      clear hd hna HB HD HO HSz
      by_cases hp : q.2.1 = d
      · have hnq := neqD_no hp
        have HPq := Lib.hid hp
        clear hp
        go_wp2_with fail
        refine Sch.wp_region_tn (Pc w.heap.size b (o + k * 6) d q) (.val 0 (.val 1 (.val 2 (.val 3 (.val 4 (.val 5 (.val 6 .done))))))) (by kernel_rfl) (by kernel_rfl) HP.out ?_
        repeat (first
          | (refine Sch.tn_q rfl rfl rfl (fun K hK => ?_); go_big_quiet_op; (first | refine hK _ ?_ | refine ⟨_, fun _ _ => rfl, hK _ ?_⟩); clear hK K)
          | (refine Sch.tn_chk _ _ _ rfl rfl rfl rfl rfl ?_; simp only [Act.put, List.setIfInBounds_toArray, List.set_cons_zero, List.set_cons_succ])
          | (refine Sch.tn_load _ _ _ _ _ rfl rfl rfl rfl (by first | exact Pc.ldp | exact Pc.ldd) rfl ?_; simp only [Act.put, List.setIfInBounds_toArray, List.set_cons_zero, List.set_cons_succ]))
        refine Sch.tn_n ?_
        generalize wr.drew = w2 at *
        obtain ⟨aO, cO, rfl, -⟩ := ON.row HOd.out
        have HD := Lib.hid HP.out.2
        clear HP hnq
        go_wp2_with fail
        go_loopw [7] (fun i wx => ∃ m : Nat, m ≤ O.length ∧ i = .int .i64 (m : Int) ∧ Hid (∀ j (hj : j < O.length), j < m → beforeN O[j] q = true) ∧ Hid (B0 ≤ wx.heap.size) ∧ Hid (Below w.heap.size w wx) ∧ Hid (Un.Bd wx w.heap.size d) ∧ Hid (ON wx B0 EN (.slice aO O.length cO) O)) (fun i _ => O.length - (intOf i).toNat)
        case atStart => exact ⟨0, Nat.zero_le _, rfl, fun j hj h => by omega, HSd, HBd, HD, HOd⟩
        case round =>
          obtain ⟨m, hm, rfl, HV, HSz, HB, HD, HO⟩ := hrel
          have hOi : (O.length : Int) ≤ 400000 := by have := HOl.out; have := HL.out; omega
          by_cases hml : m < O.length
          · have hmi : (m : Int) < (O.length : Int) := by omega
            obtain ⟨aO1, cO1, he, hrO, -⟩ := ON.row HO.out
            cases he
            obtain ⟨b2, o2, rfl, hnp⟩ := na_of hrO m hml
            obtain ⟨b9, o9, he9, hna9⟩ := na_of (HX.out.keep HB.out) k hlt
            cases he9
            rw [← HQ.out] at hna9
            have hx2 := ixS b2 o2 O.length cO m (m : Int) rfl hml
            have HBf := Lib.hid (fun w => first_ref (O[m]) q w)
            have HVn : Hid (beforeN O[m] q = true → ∀ j (hj : j < O.length), j < m + 1 → beforeN O[j] q = true) := fun h j hj hjm => by
              by_cases e : j = m
              · subst e; exact h
              · exact HV.out j hj (by omega)
            obtain ⟨p, hpp⟩ : ∃ p, p = O[m] := ⟨_, rfl⟩
            have HPm : Hid (p = O[m]) := hpp
            rw [← hpp] at hnp HBf HVn
            clear hpp hrO
            have hd := (Below.refl wr.heap.size wr).drew
            have HPn : Hid (Pn b2 (o2 + m * 6) b (o + k * 6) p q wr.drew) := ⟨hnp.keep hd, hna9.keep hd⟩
            replace HSz : Hid (B0 ≤ wr.drew.heap.size) := Nat.le_trans HSz.out hd.size
            replace HB := Lib.hid (bel_tr HB.out hd)
            replace HD := Lib.hid (HD.out.keep hd)
            replace HO := Lib.hid (HO.out.below hd)
            clear hd hnp hna9
            go_wp2_with fail
            refine Sch.wp_region_tn (Pn b2 (o2 + m * 6) b (o + k * 6) p q) (.val 0 (.val 1 (.val 2 (.val 3 (.val 4 (.val 5 (.val 6 (.val 7 (.val 8 (.val 9 (.val 10 (.val 11 (.val 12 (.one 13 (.val 14 .done))))))))))))))) (by kernel_rfl) (by kernel_rfl) HPn.out ?_
            repeat (first
              | (refine Sch.tn_q rfl rfl rfl (fun K hK => ?_); go_big_quiet_op; (first | refine hK _ ?_ | refine ⟨_, fun _ _ => rfl, hK _ ?_⟩); clear hK K)
              | (refine Sch.tn_chk _ _ _ rfl rfl rfl rfl rfl ?_; simp only [Act.put, List.setIfInBounds_toArray, List.set_cons_zero, List.set_cons_succ])
              | (refine Sch.tn_load _ _ _ _ _ rfl rfl rfl rfl (by first | exact Pn.ldp | exact Pn.ldq) rfl ?_; simp only [Act.put, List.setIfInBounds_toArray, List.set_cons_zero, List.set_cons_succ]))
            repeat (first
              | (refine Sch.tn_q rfl rfl rfl (fun K hK => ?_); go_big_quiet_op; (first | refine hK _ ?_ | refine ⟨_, fun _ _ => rfl, hK _ ?_⟩); clear hK K)
              | (refine Sch.tn_chk _ _ _ rfl rfl rfl rfl rfl ?_; simp only [Act.put, List.setIfInBounds_toArray, List.set_cons_zero, List.set_cons_succ])
              | (refine Sch.tn_load _ _ _ _ _ rfl rfl rfl rfl (by first | exact Pn.ldp | exact Pn.ldq) rfl ?_; simp only [Act.put, List.setIfInBounds_toArray, List.set_cons_zero, List.set_cons_succ])
              | (refine Sch.tn_s _ rfl rfl rfl ?_; simp only [Act.put, List.setIfInBounds_toArray, List.set_cons_zero, List.set_cons_succ])
              | (refine Sch.tn_se _ rfl rfl rfl ?_; simp only [Act.put, List.setIfInBounds_toArray, List.set_cons_zero, List.set_cons_succ]))
            generalize wr.drew = w3 at *
            refine Sch.tn_e rfl rfl (fun K hK => ?_)
            go_wp2_with fail
            refine (HBf.out _).mono ?_
            rintro e wx ⟨rfl, hb⟩
            replace HPn : Hid (Pn b2 (o2 + m * 6) b (o + k * 6) p q wx) := ⟨HPn.out.1.keep hb, HPn.out.2.keep hb⟩
            replace HSz : Hid (B0 ≤ wx.heap.size) := Nat.le_trans HSz.out hb.size
            replace HB := Lib.hid (bel_tr HB.out hb)
            replace HD := Lib.hid (HD.out.keep hb)
            replace HO := Lib.hid (HO.out.below hb)
            clear hb HBf
            refine hK _ _ HPn.out ?_
            clear hK K
            rcases hbf : beforeN p q with _ | _
            · skip
              repeat (first
                | (refine Sch.tn_q rfl rfl rfl (fun K hK => ?_); go_big_quiet_op; (first | refine hK _ ?_ | refine ⟨_, fun _ _ => rfl, hK _ ?_⟩); clear hK K)
                | (refine Sch.tn_chk _ _ _ rfl rfl rfl rfl rfl ?_; simp only [Act.put, List.setIfInBounds_toArray, List.set_cons_zero, List.set_cons_succ])
                | (refine Sch.tn_load _ _ _ _ _ rfl rfl rfl rfl (by first | exact Pn.ldp | exact Pn.ldq) rfl ?_; simp only [Act.put, List.setIfInBounds_toArray, List.set_cons_zero, List.set_cons_succ])
                | (refine Sch.tn_s _ rfl rfl rfl ?_; simp only [Act.put, List.setIfInBounds_toArray, List.set_cons_zero, List.set_cons_succ])
                | (refine Sch.tn_se _ rfl rfl rfl ?_; simp only [Act.put, List.setIfInBounds_toArray, List.set_cons_zero, List.set_cons_succ]))
              refine Sch.tn_n ?_
              have hmO : m ≤ O.length := hm
              have HIn := Lib.hid (insB_at hmO HV.out (.inr ⟨hml, by rw [← HPm.out]; exact hbf⟩))
              have HSt2 : Hid ((l.take (k + 1)).foldl (childF d) [] = O.take m ++ ([q] ++ O.drop m)) := by show _ = _; rw [HSt.out]; unfold childF; rw [if_pos HPq.out, HIn.out, List.append_assoc]
              obtain ⟨aO2, cO2, he, hrO, hnO, hlc, -⟩ := ON.row HO.out
              cases he
              have HRP := Lib.hid (hrO.take m)
              have HRR := Lib.hid (offN_row hrO cO m hlc hmO)
              have s1 := cut_loN (some (⟨b2, o2, none⟩ : Addr)) O.length cO m (Nat.le_trans hmO hlc)
              have s2 := cut_hiN (some (⟨b2, o2, none⟩ : Addr)) O.length cO m (O.length - m) (by omega) hlc
              have hT : (O.take m).length = m := by rw [List.length_take]; omega
              have hDr : (O.drop m).length = O.length - m := by rw [List.length_drop]
              have HN1 : Hid ((some (⟨b2, o2, none⟩ : Addr)) = none → cO = 0) := fun h => (hnO h).1
              have HN2 : Hid (offN (some (⟨b2, o2, none⟩ : Addr)) cO m = none → cO - m = 0) := fun h => by have := HN1.out (offN_none h); omega
              have HLP : Hid ((O.take m).length + (O.drop m).length ≤ 400000) := by show _ ≤ _; rw [hT, hDr]; have := HOl.out; have := HL.out; omega
              have HNa : Hid (Na wx b (o + k * 6) q) := by
                obtain ⟨b9, o9, he9, hna9⟩ := na_of (HX.out.keep HB.out) k hlt
                cases he9
                rw [← HQ.out] at hna9
                exact hna9
              clear hrO hnO hlc HIn HV HSt HO
              generalize offN (some (⟨b2, o2, none⟩ : Addr)) cO m = ad2 at *
              generalize cO - m = cR at *
              generalize O.take m = P at *
              generalize O.drop m = Rr at *
              have HTm : Hid (m = P.length) := hT.symm
              rw [← hDr] at s2
              clear hDr hT
              have hd := (Below.refl wx.heap.size wx).drew
              replace HNa : Hid (Na wx.drew b (o + k * 6) q) := HNa.out.keep hd
              replace HB := Lib.hid (bel_tr HB.out hd)
              replace HD := Lib.hid (HD.out.keep hd)
              replace HRP := Lib.hid (HRP.out.keep hd)
              replace HRR := Lib.hid (HRR.out.keep hd)
              replace HSz : Hid (B0 ≤ wx.drew.heap.size) := Nat.le_trans HSz.out hd.size
              clear hd
              go_wp2_with fail
              refine Sch.wp_region_tn (fun w => Na w b (o + k * 6) q) (.val 0 (.val 1 (.val 2 (.val 3 (.val 5 (.val 6 (.val 7 (.one 4 (.one 8 (.val 9 .done)))))))))) (by kernel_rfl) (by kernel_rfl) HNa.out ?_
              repeat (first
                | (refine Sch.tn_q rfl rfl rfl (fun K hK => ?_); go_big_quiet_op; (first | refine hK _ ?_ | refine ⟨_, fun _ _ => rfl, hK _ ?_⟩); clear hK K)
                | (refine Sch.tn_chk _ _ _ rfl rfl rfl rfl rfl ?_; simp only [Act.put, List.setIfInBounds_toArray, List.set_cons_zero, List.set_cons_succ])
                | (refine Sch.tn_load _ _ _ _ _ rfl rfl rfl rfl (by first | exact (fun w h => Na.load h)) rfl ?_; simp only [Act.put, List.setIfInBounds_toArray, List.set_cons_zero, List.set_cons_succ]))
              generalize wx.drew = W2 at *
              refine Sch.tn_e rfl rfl (fun K hK => ?_)
              go_wp2_with fail
              have hb3 := bel_box W2 (.cells (nc q) 53)
              have HO := Lib.hid (on_one W2 W2.heap.size q (Nat.le_refl _))
              have HZ := Lib.hid hb3
              have HR3 := Lib.hid (HRR.out.keep hb3)
              clear hb3
              refine hK _ _ (HNa.out.keep HZ.out) ?_
              clear hK K
              generalize (W2.alloc (.cells (nc q) 53)) = w3 at *
              refine Sch.tn_e rfl rfl (fun K hK => ?_)
              refine wp_appN _ _ _ rfl Tryz.underlying23 infoN _ [q] rfl HO.out ad2 Rr cR _ rfl rfl HR3.out HN2.out (by have := HLP.out; simp; omega) HZ.out.size ?_
              intro v2 w4 ho hg _
              have HZ4 := Lib.hid (HZ.out.grown hg HZ.out.size (fun k hk => (HO.out.lt k hk).1))
              have HO4 := Lib.hid ho
              clear ho hg HO HR3 HRR HZ
              refine hK _ _ (HNa.out.keep HZ4.out) ?_
              clear hK K
              simp only [Act.put, List.setIfInBounds_toArray, List.set_cons_zero, List.set_cons_succ]
              repeat (first
                | (refine Sch.tn_q rfl rfl rfl (fun K hK => ?_); go_big_quiet_op; (first | refine hK _ ?_ | refine ⟨_, fun _ _ => rfl, hK _ ?_⟩); clear hK K)
                | (refine Sch.tn_chk _ _ _ rfl rfl rfl rfl rfl ?_; simp only [Act.put, List.setIfInBounds_toArray, List.set_cons_zero, List.set_cons_succ])
                | (refine Sch.tn_load _ _ _ _ _ rfl rfl rfl rfl (by first | exact (fun w h => Na.load h)) rfl ?_; simp only [Act.put, List.setIfInBounds_toArray, List.set_cons_zero, List.set_cons_succ]))
              refine Sch.tn_n ?_
              replace HRP := Lib.hid (HRP.out.keep HZ4.out)
              replace HB := Lib.hid (bel_tr HB.out HZ4.out)
              replace HD := Lib.hid (HD.out.keep HZ4.out)
              replace HSz : Hid (B0 ≤ w4.heap.size) := Nat.le_trans HSz.out HZ4.out.size
              obtain ⟨T7, hT7⟩ : ∃ T7, T7 = [q] ++ Rr := ⟨_, rfl⟩
              rw [← hT7] at HO4
              obtain ⟨a7, c7, rfl, hr7, hn7, -⟩ := ON.row HO4.out
              have HR7 := Lib.hid hr7
              have HN7 : Hid (a7 = none → c7 = 0) := fun h => (hn7 h).1
              have HLT : Hid (P.length + T7.length ≤ 400001) := by
                have := HLP.out
                have e : T7.length = Rr.length + 1 := by rw [hT7]; simp
                show _ ≤ _
                omega
              rw [← hT7] at HSt2
              clear hr7 hn7 hT7 HN2 HNa HLP HZ4 HO4
              go_wp2_with (at_builtin; refine wpList_appN rfl _ _ _ rfl Tryz.underlying23 infoN (.slice none 0 0) [] rfl (ON.nil _ w4.heap.size _) _ P cO m HTm.out rfl HRP.out HN1.out (by have := HLT.out; simp only [List.length_nil]; omega) (Nat.le_refl _) ?_)
              intro v8 w8 ho hg _
              have HO8 := Lib.hid ho
              have hb := bel_none hg
              have HR8 := Lib.hid (HR7.out.keep hb)
              have HZe : Hid (w4.heap.size ≤ w8.heap.size) := hb.size
              have HZ8 := Lib.hid hb
              clear ho hg hb HR7 HRP
              go_wp2_with (at_builtin; refine wpList_appN rfl _ _ _ rfl Tryz.underlying23 infoN v8 P rfl HO8.out a7 T7 c7 T7.length rfl rfl HR8.out HN7.out (by have := HLT.out; omega) HZe.out ?_)
              intro v9 w9 ho hg _
              have HO9 : Hid (ON w9 B0 EN v9 ((l.take (k + 1)).foldl (childF d) [])) := by rw [HSt2.out]; exact ho.mono fun x hx => Nat.le_trans HSz.out (ho.lt x hx).1
              have hg9 := HZ8.out.grown hg HZ8.out.size (fun k hk => (HO8.out.lt k hk).1)
              have HB9 := Lib.hid (bel_tr HB.out hg9)
              have HD9 := Lib.hid (HD.out.keep hg9)
              have HS9 : Hid (B0 ≤ w9.heap.size) := Nat.le_trans HSz.out hg9.size
              clear ho hg HO8 HR8 HZ8 hg9
              go_wp2_with fail
              go_roundw
              case rel => exact ⟨k + 1, by omega, by go_num, HS9, HB9, HD9, HO9⟩
              case measure => simp [intOf]; omega
            · have HV2 := Lib.hid (HVn.out hbf)
              repeat (first
                | (refine Sch.tn_q rfl rfl rfl (fun K hK => ?_); go_big_quiet_op; (first | refine hK _ ?_ | refine ⟨_, fun _ _ => rfl, hK _ ?_⟩); clear hK K)
                | (refine Sch.tn_chk _ _ _ rfl rfl rfl rfl rfl ?_; simp only [Act.put, List.setIfInBounds_toArray, List.set_cons_zero, List.set_cons_succ])
                | (refine Sch.tn_load _ _ _ _ _ rfl rfl rfl rfl (by first | exact Pn.ldp | exact Pn.ldq) rfl ?_; simp only [Act.put, List.setIfInBounds_toArray, List.set_cons_zero, List.set_cons_succ])
                | (refine Sch.tn_s _ rfl rfl rfl ?_; simp only [Act.put, List.setIfInBounds_toArray, List.set_cons_zero, List.set_cons_succ])
                | (refine Sch.tn_se _ rfl rfl rfl ?_; simp only [Act.put, List.setIfInBounds_toArray, List.set_cons_zero, List.set_cons_succ]))
              refine Sch.tn_n ?_
              clear hbf
              go_wp2_with fail
              go_roundw
              case rel => exact ⟨m + 1, by omega, by go_num, HV2, HSz, HB, HD, HO⟩
              case measure => simp [intOf]; omega
          · have hme : m = O.length := by omega
            have hmi : ¬ (m : Int) < (O.length : Int) := by omega
            have HME := Lib.hid hme
            clear hme
            have hd := (Below.refl wr.heap.size wr).drew
            replace HSz : Hid (B0 ≤ wr.drew.heap.size) := Nat.le_trans HSz.out hd.size
            replace HB := Lib.hid (bel_tr HB.out hd)
            replace HD := Lib.hid (HD.out.keep hd)
            replace HO := Lib.hid (HO.out.below hd)
            clear hd
            go_wp2_with fail
            refine Sch.wp_region_tn (fun _ => True) (.val 0 (.val 1 (.val 2 (.val 3 (.val 4 (.val 5 (.val 6 (.val 7 (.val 8 (.val 9 (.val 10 (.val 11 (.val 12 (.one 13 (.val 14 .done))))))))))))))) (by kernel_rfl) (by kernel_rfl) trivial ?_
            repeat (first
              | (refine Sch.tn_q rfl rfl rfl (fun K hK => ?_); go_big_quiet_op; (first | refine hK _ ?_ | refine ⟨_, fun _ _ => rfl, hK _ ?_⟩); clear hK K)
              | (refine Sch.tn_chk _ _ _ rfl rfl rfl rfl rfl ?_; simp only [Act.put, List.setIfInBounds_toArray, List.set_cons_zero, List.set_cons_succ]))
            repeat (first
              | (refine Sch.tn_q rfl rfl rfl (fun K hK => ?_); go_big_quiet_op; (first | refine hK _ ?_ | refine ⟨_, fun _ _ => rfl, hK _ ?_⟩); clear hK K)
              | (refine Sch.tn_chk _ _ _ rfl rfl rfl rfl rfl ?_; simp only [Act.put, List.setIfInBounds_toArray, List.set_cons_zero, List.set_cons_succ])
              | (refine Sch.tn_s _ rfl rfl rfl ?_; simp only [Act.put, List.setIfInBounds_toArray, List.set_cons_zero, List.set_cons_succ])
              | (refine Sch.tn_se _ rfl rfl rfl ?_; simp only [Act.put, List.setIfInBounds_toArray, List.set_cons_zero, List.set_cons_succ]))
            refine Sch.tn_n ?_
            generalize wr.drew = wx at *
            have hmO : m ≤ O.length := hm
            have HIn := Lib.hid (insB_at hmO HV.out (.inl HME.out))
            have HSt2 : Hid ((l.take (k + 1)).foldl (childF d) [] = O.take m ++ ([q] ++ O.drop m)) := by show _ = _; rw [HSt.out]; unfold childF; rw [if_pos HPq.out, HIn.out, List.append_assoc]
            obtain ⟨aO2, cO2, he, hrO, hnO, hlc, -⟩ := ON.row HO.out
            cases he
            have HRP := Lib.hid (hrO.take m)
            have HRR := Lib.hid (offN_row hrO cO m hlc hmO)
            have s1 := cut_loN aO O.length cO m (Nat.le_trans hmO hlc)
            have s2 := cut_hiN aO O.length cO m (O.length - m) (by omega) hlc
            have hT : (O.take m).length = m := by rw [List.length_take]; omega
            have hDr : (O.drop m).length = O.length - m := by rw [List.length_drop]
            have HN1 : Hid (aO = none → cO = 0) := fun h => (hnO h).1
            have HN2 : Hid (offN aO cO m = none → cO - m = 0) := fun h => by have := HN1.out (offN_none h); omega
            have HLP : Hid ((O.take m).length + (O.drop m).length ≤ 400000) := by show _ ≤ _; rw [hT, hDr]; have := HOl.out; have := HL.out; omega
            have HNa : Hid (Na wx b (o + k * 6) q) := by
              obtain ⟨b9, o9, he9, hna9⟩ := na_of (HX.out.keep HB.out) k hlt
              cases he9
              rw [← HQ.out] at hna9
              exact hna9
            clear hrO hnO hlc HIn HV HSt HO
            generalize offN aO cO m = ad2 at *
            generalize cO - m = cR at *
            generalize O.take m = P at *
            generalize O.drop m = Rr at *
            have HTm : Hid (m = P.length) := hT.symm
            rw [← hDr] at s2
            clear hDr hT
            have hd := (Below.refl wx.heap.size wx).drew
            replace HNa : Hid (Na wx.drew b (o + k * 6) q) := HNa.out.keep hd
            replace HB := Lib.hid (bel_tr HB.out hd)
            replace HD := Lib.hid (HD.out.keep hd)
            replace HRP := Lib.hid (HRP.out.keep hd)
            replace HRR := Lib.hid (HRR.out.keep hd)
            replace HSz : Hid (B0 ≤ wx.drew.heap.size) := Nat.le_trans HSz.out hd.size
            clear hd
            go_wp2_with fail
            refine Sch.wp_region_tn (fun w => Na w b (o + k * 6) q) (.val 0 (.val 1 (.val 2 (.val 3 (.val 5 (.val 6 (.val 7 (.one 4 (.one 8 (.val 9 .done)))))))))) (by kernel_rfl) (by kernel_rfl) HNa.out ?_
            repeat (first
              | (refine Sch.tn_q rfl rfl rfl (fun K hK => ?_); go_big_quiet_op; (first | refine hK _ ?_ | refine ⟨_, fun _ _ => rfl, hK _ ?_⟩); clear hK K)
              | (refine Sch.tn_chk _ _ _ rfl rfl rfl rfl rfl ?_; simp only [Act.put, List.setIfInBounds_toArray, List.set_cons_zero, List.set_cons_succ])
              | (refine Sch.tn_load _ _ _ _ _ rfl rfl rfl rfl (by first | exact (fun w h => Na.load h)) rfl ?_; simp only [Act.put, List.setIfInBounds_toArray, List.set_cons_zero, List.set_cons_succ]))
            generalize wx.drew = W2 at *
            refine Sch.tn_e rfl rfl (fun K hK => ?_)
            go_wp2_with fail
            have hb3 := bel_box W2 (.cells (nc q) 53)
            have HO := Lib.hid (on_one W2 W2.heap.size q (Nat.le_refl _))
            have HZ := Lib.hid hb3
            have HR3 := Lib.hid (HRR.out.keep hb3)
            clear hb3
            refine hK _ _ (HNa.out.keep HZ.out) ?_
            clear hK K
            generalize (W2.alloc (.cells (nc q) 53)) = w3 at *
            refine Sch.tn_e rfl rfl (fun K hK => ?_)
            refine wp_appN _ _ _ rfl Tryz.underlying23 infoN _ [q] rfl HO.out ad2 Rr cR _ rfl rfl HR3.out HN2.out (by have := HLP.out; simp; omega) HZ.out.size ?_
            intro v2 w4 ho hg _
            have HZ4 := Lib.hid (HZ.out.grown hg HZ.out.size (fun k hk => (HO.out.lt k hk).1))
            have HO4 := Lib.hid ho
            clear ho hg HO HR3 HRR HZ
            refine hK _ _ (HNa.out.keep HZ4.out) ?_
            clear hK K
            simp only [Act.put, List.setIfInBounds_toArray, List.set_cons_zero, List.set_cons_succ]
            repeat (first
              | (refine Sch.tn_q rfl rfl rfl (fun K hK => ?_); go_big_quiet_op; (first | refine hK _ ?_ | refine ⟨_, fun _ _ => rfl, hK _ ?_⟩); clear hK K)
              | (refine Sch.tn_chk _ _ _ rfl rfl rfl rfl rfl ?_; simp only [Act.put, List.setIfInBounds_toArray, List.set_cons_zero, List.set_cons_succ])
              | (refine Sch.tn_load _ _ _ _ _ rfl rfl rfl rfl (by first | exact (fun w h => Na.load h)) rfl ?_; simp only [Act.put, List.setIfInBounds_toArray, List.set_cons_zero, List.set_cons_succ]))
            refine Sch.tn_n ?_
            replace HRP := Lib.hid (HRP.out.keep HZ4.out)
            replace HB := Lib.hid (bel_tr HB.out HZ4.out)
            replace HD := Lib.hid (HD.out.keep HZ4.out)
            replace HSz : Hid (B0 ≤ w4.heap.size) := Nat.le_trans HSz.out HZ4.out.size
            obtain ⟨T7, hT7⟩ : ∃ T7, T7 = [q] ++ Rr := ⟨_, rfl⟩
            rw [← hT7] at HO4
            obtain ⟨a7, c7, rfl, hr7, hn7, -⟩ := ON.row HO4.out
            have HR7 := Lib.hid hr7
            have HN7 : Hid (a7 = none → c7 = 0) := fun h => (hn7 h).1
            have HLT : Hid (P.length + T7.length ≤ 400001) := by
              have := HLP.out
              have e : T7.length = Rr.length + 1 := by rw [hT7]; simp
              show _ ≤ _
              omega
            rw [← hT7] at HSt2
            clear hr7 hn7 hT7 HN2 HNa HLP HZ4 HO4
            go_wp2_with (at_builtin; refine wpList_appN rfl _ _ _ rfl Tryz.underlying23 infoN (.slice none 0 0) [] rfl (ON.nil _ w4.heap.size _) _ P cO m HTm.out rfl HRP.out HN1.out (by have := HLT.out; simp only [List.length_nil]; omega) (Nat.le_refl _) ?_)
            intro v8 w8 ho hg _
            have HO8 := Lib.hid ho
            have hb := bel_none hg
            have HR8 := Lib.hid (HR7.out.keep hb)
            have HZe : Hid (w4.heap.size ≤ w8.heap.size) := hb.size
            have HZ8 := Lib.hid hb
            clear ho hg hb HR7 HRP
            go_wp2_with (at_builtin; refine wpList_appN rfl _ _ _ rfl Tryz.underlying23 infoN v8 P rfl HO8.out a7 T7 c7 T7.length rfl rfl HR8.out HN7.out (by have := HLT.out; omega) HZe.out ?_)
            intro v9 w9 ho hg _
            have HO9 : Hid (ON w9 B0 EN v9 ((l.take (k + 1)).foldl (childF d) [])) := by rw [HSt2.out]; exact ho.mono fun x hx => Nat.le_trans HSz.out (ho.lt x hx).1
            have hg9 := HZ8.out.grown hg HZ8.out.size (fun k hk => (HO8.out.lt k hk).1)
            have HB9 := Lib.hid (bel_tr HB.out hg9)
            have HD9 := Lib.hid (HD.out.keep hg9)
            have HS9 : Hid (B0 ≤ w9.heap.size) := Nat.le_trans HSz.out hg9.size
            clear ho hg HO8 HR8 HZ8 hg9
            go_wp2_with fail
            go_roundw
            case rel => exact ⟨k + 1, by omega, by go_num, HS9, HB9, HD9, HO9⟩
            case measure => simp [intOf]; omega
      · have hnq := neq_yes hp
        have HSt2 : Hid ((l.take (k + 1)).foldl (childF d) [] = O) := by show _ = _; rw [HSt.out]; unfold childF; rw [if_neg hp]
        go_wp2_with fail
        refine Sch.wp_region_tn (Pc w.heap.size b (o + k * 6) d q) (.val 0 (.val 1 (.val 2 (.val 3 (.val 4 (.val 5 (.val 6 .done))))))) (by kernel_rfl) (by kernel_rfl) HP.out ?_
        repeat (first
          | (refine Sch.tn_q rfl rfl rfl (fun K hK => ?_); go_big_quiet_op; (first | refine hK _ ?_ | refine ⟨_, fun _ _ => rfl, hK _ ?_⟩); clear hK K)
          | (refine Sch.tn_chk _ _ _ rfl rfl rfl rfl rfl ?_; simp only [Act.put, List.setIfInBounds_toArray, List.set_cons_zero, List.set_cons_succ])
          | (refine Sch.tn_load _ _ _ _ _ rfl rfl rfl rfl (by first | exact Pc.ldp | exact Pc.ldd) rfl ?_; simp only [Act.put, List.setIfInBounds_toArray, List.set_cons_zero, List.set_cons_succ]))
        refine Sch.tn_n ?_
        generalize wr.drew = w2 at *
        go_wp2_with fail
        go_roundw
        case rel => exact ⟨k + 1, by omega, by go_num, HSd, HBd, HP.out.2, by rw [HSt2.out]; exact HOd.out⟩
        case measure => simp [intOf]; omega
    · obtain rfl : k = l.length := by omega
      have hend : ¬ (l.length : Int) < (l.length : Int) := by omega
      rw [← HR0.out] at HO
      go_wp2_with fail
      go_ret
      exact ⟨_, rfl, HO.out.mono fun x hx => Nat.le_trans (Nat.le_of_lt HS.out) (HO.out.lt x hx).1, HB.out⟩
end Go.Proofs.YtkcbekebleodaaaGreat.Ed
end

/-
  Layer 15: the reference's order of the tree, by a stack.
-/
section
namespace Go.Proofs.YtkcbekebleodaaaGreat.Ed
set_option linter.unusedVariables false
open Go.RowKit V Go.Shelf D Nd Qs Wk Jn
attribute [local irreducible] Sch.heldN Sch.stepV Sch.stepE

def lenV : Value → Nat | .slice _ n _ => n | _ => 0
theorem child_len (l : List Nt) (d : Dt) : (childS l d).length ≤ l.length := by
  have h := fold_len d l l.length (Nat.le_refl _)
  rw [List.take_length] at h
  exact h
theorem order_len {l : List Nt} (hv : validS l = true) : (orderS l).length ≤ l.length := by
  have h := bw_len hv (rootW_path l)
  exact h
theorem nb_row {w w' : World} {b : Nat} {n : Nt} {r : Option Nat} (h : Nb w b n) (hg : w.grownBy w' r) (hne : some b ≠ r) : Nb w' b n := by
  have e : w'.heap[b]? = w.heap[b]? := hg.block b (lt_of_cell h.1) hne
  obtain ⟨h0, h1, h2, h3, h4, h5⟩ := h
  exact ⟨(World.cell?_of_block (a := ⟨b, _, none⟩) e).trans h0, (World.cell?_of_block (a := ⟨b, _, none⟩) e).trans h1, (World.cell?_of_block (a := ⟨b, _, none⟩) e).trans h2, (World.cell?_of_block (a := ⟨b, _, none⟩) e).trans h3, (World.cell?_of_block (a := ⟨b, _, none⟩) e).trans h4, (World.cell?_of_block (a := ⟨b, _, none⟩) e).trans h5⟩
theorem Kb6.ld {g : Nat} {n : Nt} : ∀ w, Kb6 g n w → (Instr.loadAt 25 (.pointer (some ⟨g, 0, none⟩))).run Tryz.prog w = .ok (dv n.1) w := fun w k => Nb.loadD k
set_option maxRecDepth 100000 in
set_option maxHeartbeats 8000000 in
theorem order_ref (l : List Nt) (hv : validS l = true) (a : Option Addr) (c : Nat) (w : World) (hx : RowN w a l) (hlx : l.length ≤ 300000) :
    Calls Tryz.prog 60 #[.slice a l.length c] w fun e w' => ∃ v, e = .returned v ∧ ON w' w.heap.size EN v (orderS l) ∧ Below w.heap.size w w' := by
  have HX := Lib.hid hx
  have HL := Lib.hid hlx
  have HOl : Hid ((orderS l).length ≤ l.length) := order_len hv
  have HC := Lib.hid (fun d w h => child_ref l d a c w h (by omega))
  have HRt : Hid (orderS l = [] ++ restW l (childS l (0, 0))) := (restW_root hv).symm
  have HRc : Hid (RchW l (childS l (0, 0))) := rchW_root hv
  have HSt : Hid (∀ x t, RchW l (x :: t) → restW l (x :: t) = x :: restW l (childS l x.1 ++ t) ∧ RchW l (childS l x.1 ++ t)) := fun x t h => ⟨restW_step hv h, rchW_step hv h⟩
  have HTl : Hid (∀ t, t.length ≤ (restW l t).length) := restW_len l
  have HCl : Hid (∀ d, (childS l d).length ≤ l.length) := child_len l
  clear hx hlx hv
  generalize hoo : orderS l = R at *
  clear hoo
  go_enter Tryz.func60, Tryz.ntmps60
  go_wp2_with fail
  refine (HC.out (0, 0) _ HX.out).mono ?_
  rintro e w2 ⟨v2, rfl, ho, hb⟩
  obtain ⟨a2, c2, rfl, hr2, hn2, hc2, hlt2⟩ := ON.row ho
  have HR2 := Lib.hid hr2
  have HN2 : Hid (a2 = none → c2 = 0) := fun h => (hn2 h).1
  have HC2 := Lib.hid hc2
  have HX2 : Hid (∀ g o, a2 = some ⟨g, o, none⟩ → w.heap.size ≤ g ∧ g < w2.heap.size) := fun g o e => by have := hlt2 _ e; exact ⟨this.2.2.1, this.2.2.2⟩
  have HB2 := Lib.hid hb
  clear ho hb hr2 hn2 hc2 hlt2
  go_wp2_with fail
  go_loopw [3, 4, 5] (fun v t5 _ wr => ∃ (P T : List Nt) (aT : Option Addr) (cT s3 s4 : Nat), t5 = .slice aT T.length cT ∧ Hid (R = P ++ restW l T) ∧ Hid (RchW l T) ∧ Hid (ON wr w.heap.size EN v P) ∧ Hid (RowN wr aT T) ∧ Hid (aT = none → cT = 0) ∧ Hid (T.length ≤ cT) ∧ Hid (∀ g o, aT = some ⟨g, o, none⟩ → s3 ≤ g ∧ g < s4) ∧ Hid (Fo.Out s3 s4 v) ∧ Hid (s4 ≤ wr.heap.size) ∧ Hid (Below w.heap.size w wr)) (fun v _ _ _ => R.length - lenV v)
  case atStart => exact ⟨[], childS l (0, 0), a2, c2, w.heap.size, w2.heap.size, rfl, HRt, HRc, ON.nil _ _ _, HR2, HN2, HC2, HX2, (fun x hx => by cases hx), Nat.le_refl _, HB2⟩
  case round =>
    clear HRt HRc HR2 HN2 HC2 HX2 HB2
    obtain ⟨P, T, aT, cT, s3, s4, rfl, HE, HRc, HO, HRT, HNT, HCT, HXT, HOu, HS4, HB⟩ := hrel
    obtain ⟨aO, cO, rfl, -⟩ := ON.row HO.out
    rcases T with _ | ⟨x, t⟩
    · have HE2 : Hid (R = P) := by show _ = _; rw [HE.out]; unfold restW; simp
      go_wp2_with fail
      go_ret
      rw [HE2.out]
      exact ⟨_, rfl, HO.out, HB.out⟩
    · have hs := HSt.out x t HRc.out
      have HE2 : Hid (R = (P ++ [x]) ++ restW l (childS l x.1 ++ t)) := by show _ = _; rw [HE.out, hs.1]; simp
      have HRc2 := Lib.hid hs.2
      have HPl : Hid (P.length + 1 + (childS l x.1 ++ t).length ≤ 300000) := by
        have h1 := congrArg List.length HE2.out
        have h2 := HTl.out (childS l x.1 ++ t)
        have h3 := HOl.out
        have h4 := HL.out
        simp only [List.length_append, List.length_cons, List.length_nil] at h1 h2 ⊢
        show _ ≤ _
        omega
      have HCh := Lib.hid (fun w h => HC.out x.1 w h)
      clear hs HRc HE
      obtain ⟨T, hT⟩ : ∃ T, T = x :: t := ⟨_, rfl⟩
      have htl : (x :: t).length = T.length := by rw [hT]
      have HTd : Hid (T.drop 1 = t) := by show _ = _; rw [hT]; rfl
      have HTn : Hid (T.length = t.length + 1) := by show _ = _; rw [hT]; rfl
      have HT0 : Hid (∃ h : 0 < T.length, T[0] = x) := by subst hT; exact ⟨by simp, rfl⟩
      rw [htl] at HCT ⊢
      rw [← hT] at HRT
      clear htl hT
      obtain ⟨b, o, rfl, hna⟩ := na_of HRT.out 0 HT0.out.1
      rw [HT0.out.2, Nat.zero_mul, Nat.add_zero] at hna
      have hx0 := ixN0 b o T.length cT HT0.out.1
      have hp0 : (0 : Int) < (T.length : Int) := by have := HT0.out.1; omega
      have hp1 : decide ((0 : Int) < (T.length : Int)) = true := decide_eq_true hp0
      have hb1 := bel_box wr (.cells (nc x) 53)
      have HK1 : Hid (Nb (wr.alloc (.cells (nc x) 53)) wr.heap.size x) := Nb.new wr x
      have HO1 := Lib.hid (HO.out.below hb1)
      have HB1 := bel_tr HB hb1
      have HR1 := Lib.hid (HRT.out.keep hb1)
      have HS1 : Hid (s4 ≤ (wr.alloc (.cells (nc x) 53)).heap.size) := Nat.le_trans HS4.out hb1.size
      obtain ⟨n0, n1, n2, n3, n4, n5⟩ := hna
      obtain ⟨⟨x1, x2⟩, ⟨x3, x4⟩, x5, x6⟩ := x
      have HOg := Lib.hid HO.out.lt
      clear hb1 HO HB HRT HS4
      go_upto_region 5 with fail
      generalize wr.alloc (.cells (nc ((x1, x2), (x3, x4), x5, x6)) 53) = w3 at *
      clear n0 n1 n2 n3 n4 n5
      obtain ⟨k0, k1, k2, k3, k4, k5⟩ := HK1.out
      obtain ⟨x, hxx⟩ : ∃ x : Nt, x = ((x1, x2), (x3, x4), x5, x6) := ⟨_, rfl⟩
      rw [← hxx] at HE2 HRc2 HPl HCh HT0 HK1
      obtain ⟨g1, hg1⟩ : ∃ g1, g1 = wr.heap.size := ⟨_, rfl⟩
      rw [← hg1] at HOg HK1 k0 k1 k2 k3 k4 k5 ⊢
      clear hg1
      have hb4 := bel_box w3 (.cells (nc ((x1, x2), (x3, x4), x5, x6)) 53)
      have HLt : Hid (RowN (w3.alloc (.cells (nc ((x1, x2), (x3, x4), x5, x6)) 53)) (some ⟨w3.heap.size, 0, none⟩) [x]) := by rw [hxx]; exact RowN.lit w3 [((x1, x2), (x3, x4), x5, x6)] _ _ _ rfl
      have HK4 := Lib.hid (HK1.out.keep hb4)
      have HO4 := Lib.hid (HO1.out.below hb4)
      have HB4 := bel_tr HB1 hb4
      have HR4 := Lib.hid (HR1.out.keep hb4)
      have HS4 : Hid (s4 ≤ (w3.alloc (.cells (nc ((x1, x2), (x3, x4), x5, x6)) 53)).heap.size) := Nat.le_trans HS1.out hb4.size
      have HPn : Hid (P.length + 1 ≤ 300000) := by have := HPl.out; show _ ≤ _; omega
      have HXX := Lib.hid hxx
      clear hb4 HO1 HB1 HR1 HS1 HK1 hxx
      go_wp2_with (at_builtin; refine wpList_appN rfl _ _ _ rfl Tryz.underlying23 infoN _ P rfl HO4.out (some ⟨w3.heap.size, 0, none⟩) [x] 1 1 rfl rfl HLt.out (fun h => by cases h) (by have := HPn.out; simp only [List.length_cons, List.length_nil]; omega) HB4.out.size ?_)
      intro v5 w5 ho hg hgr
      have HO5 := Lib.hid ho
      have HB5 := Lib.hid (HB4.out.grown hg HB4.out.size (fun k hk => (HO4.out.lt k hk).1))
      have HK5 : Hid (Kb6 g1 x w5) := nb_row HK4.out hg (fun e => by have := (HOg.out _ e.symm).2; omega)
      have HR5 := Lib.hid (HR4.out.gb hg (fun b' o' e e2 => by
        have h1 := HXT.out b' o' e
        have h2 := HOu.out _ e2.symm
        omega))
      have HOu5 := Lib.hid (HOu.out.grew hgr HS4.out)
      have HS5 : Hid (s4 ≤ w5.heap.size) := Nat.le_trans HS4.out hg.size
      have HOl5 : Hid (∀ k, v5.ownBlock = some k → k < w5.heap.size) := fun k hk => (ho.lt k hk).2
      clear ho hg hgr HO4 HR4 HK4 HLt k0 k1 k2 k3 k4 k5 HOu HB4 HOg HS4
      have hd := (Below.refl w5.heap.size w5).drew
      replace HK5 : Hid (Kb6 g1 x w5.drew) := Nb.keep (n := x) HK5.out hd
      replace HR5 := Lib.hid (HR5.out.keep hd)
      replace HB5 := bel_tr HB5 hd
      replace HO5 := Lib.hid (HO5.out.below hd)
      have HSd : Hid (w5.heap.size ≤ w5.drew.heap.size) := hd.size
      clear hd
      have s2 : ∀ wx : World, (Instr.slice 23 (.slice (some ⟨b, o, none⟩) T.length cT) (some (.int .i64 1)) none none).run Tryz.prog wx = .ok (.slice (offN (some ⟨b, o, none⟩) cT 1) t.length (cT - 1)) wx := cut_hiN _ T.length cT 1 t.length (by have := HTn.out; omega) HCT.out
      have HRd := Lib.hid (offN_row HR5.out cT 1 HCT.out (by have := HTn.out; omega))
      have HNd : Hid (offN (some ⟨b, o, none⟩) cT 1 = none → cT - 1 = 0) := fun h => by cases offN_none h
      rw [HTd.out] at HRd
      clear HR5
      generalize offN (some ⟨b, o, none⟩) cT 1 = ad at *
      generalize cT - 1 = cd at *
      have HCx := Lib.hid (HCh.out)
      go_wp2_with fail
      refine Sch.wp_region_tn (Kb6 g1 x) (.val 0 (.val 1 (.val 2 (.val 4 (.val 5 (.one 3 (.one 6 (.val 7 .done)))))))) (by kernel_rfl) (by kernel_rfl) HK5.out ?_
      repeat (first
        | (refine Sch.tn_q rfl rfl rfl (fun K hK => ?_); go_big_quiet_op; (first | refine hK _ ?_ | refine ⟨_, fun _ _ => rfl, hK _ ?_⟩); clear hK K)
        | (refine Sch.tn_chk _ _ _ rfl rfl rfl rfl rfl ?_; simp only [Act.put, List.setIfInBounds_toArray, List.set_cons_zero, List.set_cons_succ])
        | (refine Sch.tn_load _ _ _ _ _ rfl rfl rfl rfl (by first | exact Kb6.ld) rfl ?_; simp only [Act.put, List.setIfInBounds_toArray, List.set_cons_zero, List.set_cons_succ]))
      generalize w5.drew = w6 at *
      refine Sch.tn_e rfl rfl (fun K hK => ?_)
      go_wp2_with fail
      refine (HCx.out _ (HX.out.keep HB5.out)).mono ?_
      rintro e w7 ⟨v7, rfl, ho, hb⟩
      have HO7 := Lib.hid ho
      have HZ7 := Lib.hid hb
      have HR7 := Lib.hid (HRd.out.keep hb)
      have HK7 : Hid (Kb6 g1 x w7) := Nb.keep (n := x) HK5.out hb
      have HK6 := HK5
      clear ho hb HRd HK5 HCx HCh
      refine hK _ _ HK7.out ?_
      clear hK K
      refine Sch.tn_e rfl rfl (fun K hK => ?_)
      refine wp_appN _ _ _ rfl Tryz.underlying23 infoN _ (childS l x.1) rfl HO7.out ad t cd _ rfl rfl HR7.out HNd.out (by have := HPl.out; rw [List.length_append] at this; omega) HZ7.out.size ?_
      intro v8 w8 ho hg _
      have HZ8 := Lib.hid (HZ7.out.grown hg HZ7.out.size (fun k hk => (HO7.out.lt k hk).1))
      have HK8 : Hid (Kb6 g1 x w8) := Nb.keep (n := x) (w := w6) (by exact HK6.out) HZ8.out
      have HO8 : Hid (ON w8 w6.heap.size EN v8 (childS l x.1 ++ t)) := ho
      have HOm : Hid (ON w8 w.heap.size EN v5 (P ++ [x])) := HO5.out.below HZ8.out
      have HB8 := bel_tr HB5 HZ8.out
      have HS8 : Hid (w6.heap.size ≤ w8.heap.size) := HZ8.out.size
      clear ho hg HO7 HZ7 HR7 HO5 HB5 HZ8
      refine hK _ _ HK8.out ?_
      clear hK K
      simp only [Act.put, List.setIfInBounds_toArray, List.set_cons_zero, List.set_cons_succ]
      repeat (first
        | (refine Sch.tn_q rfl rfl rfl (fun K hK => ?_); go_big_quiet_op; (first | refine hK _ ?_ | refine ⟨_, fun _ _ => rfl, hK _ ?_⟩); clear hK K)
        | (refine Sch.tn_chk _ _ _ rfl rfl rfl rfl rfl ?_; simp only [Act.put, List.setIfInBounds_toArray, List.set_cons_zero, List.set_cons_succ])
        | (refine Sch.tn_load _ _ _ _ _ rfl rfl rfl rfl (by first | exact Kb6.ld) rfl ?_; simp only [Act.put, List.setIfInBounds_toArray, List.set_cons_zero, List.set_cons_succ]))
      refine Sch.tn_n ?_
      obtain ⟨a8, c8, rfl, hr8, hn8, hc8, hlt8⟩ := ON.row HO8.out
      obtain ⟨aP, cP, rfl, -⟩ := ON.row HOm.out
      have HR8 := Lib.hid hr8
      have HN8 : Hid (a8 = none → c8 = 0) := fun h => (hn8 h).1
      have HC8 := Lib.hid hc8
      have HX8 : Hid (∀ g o, a8 = some ⟨g, o, none⟩ → w6.heap.size ≤ g ∧ g < w8.heap.size) := fun g o e => by have := hlt8 _ e; exact ⟨this.2.2.1, this.2.2.2⟩
      have HOut : Hid (Fo.Out w6.heap.size w8.heap.size (.slice aP (P ++ [x]).length cP)) := fun k hk => .inl (Nat.lt_of_lt_of_le (HOl5.out k hk) HSd.out)
      have HMe : Hid (P.length < R.length) := by
        have h1 := congrArg List.length HE2.out
        simp only [List.length_append, List.length_cons, List.length_nil] at h1
        show _ < _
        omega
      clear hr8 hn8 hc8 hlt8 HO8 HSd HOl5
      go_wp2_with fail
      go_roundw
      case rel => exact ⟨P ++ [x], childS l x.1 ++ t, a8, c8, w6.heap.size, w8.heap.size, rfl, HE2, HRc2, HOm, HR8, HN8, HC8, HX8, HOut, Nat.le_refl _, HB8⟩
      case measure =>
        have h1 := HMe.out
        simp only [lenV, List.length_append, List.length_cons, List.length_nil]
        omega
end Go.Proofs.YtkcbekebleodaaaGreat.Ed
end

/-
  Parts of rows of nodes, new rows of dots.
-/
section
namespace Go.Proofs.YtkcbekebleodaaaGreat.Un
set_option linter.unusedVariables false
open Go.RowKit V Go.Shelf D Nd Qs Wk
abbrev ED : TypeId := 25
theorem bd_free {w : World} {g : Nat} {d : Dt} (h : Bd w g d) (o : Nat) : w.frozen? ⟨g, o, none⟩ = false := by unfold Bd at h; simp [World.frozen?, h]
theorem cut_loN (a : Option Addr) (len cap n : Nat) (hn : n ≤ cap) : ∀ wx : World,
    (Instr.slice 22 (.slice a len cap) none (some (.int .i64 (n : Int))) none).run Tryz.prog wx = .ok (.slice a n cap) wx := by
  obtain ⟨i, hi, hz0, hz1, hz2⟩ := G.info_of infoN
  intro wx
  have h1 : (Instr.sliceBound (.int .i64 (n : Int)) cap .sliceAcap).run Tryz.prog wx = .ok n wx := by
    rw [run_sliceBound _ _ _ _ _ (by omega) (by omega)]; rfl
  have h0 : (⟨0, 0, none⟩ : Addr).add 0 = ⟨0, 0, none⟩ := rfl
  by_cases hc : cap = 0
  · rw [hc] at h1
    simp [Instr.slice, run_underlying Tryz.underlying22, Instr.sliceBounds, h1, Result.andThen, sizeOf, typeInfo, hi, hc]
  · have : a.map (fun x => x.add 0) = a := by
      rcases a with _ | ⟨b, o, s⟩
      · rfl
      · simp [Addr.add]
    simp [Instr.slice, run_underlying Tryz.underlying22, Instr.sliceBounds, h1, Result.andThen, sizeOf, typeInfo, hi, hc, this]
def offN (a : Option Addr) (cap m : Nat) : Option Addr := if cap = m then a else a.map (·.add (m * 6))
theorem cut_hiN (a : Option Addr) (len cap m k : Nat) (hk : len = m + k) (hlc : len ≤ cap) : ∀ wx : World,
    (Instr.slice 22 (.slice a len cap) (some (.int .i64 (m : Int))) none none).run Tryz.prog wx = .ok (.slice (offN a cap m) k (cap - m)) wx := by
  obtain ⟨i, hi, hz0, hz1, hz2⟩ := G.info_of infoN
  intro wx
  have h2 : (Instr.sliceBound (.int .i64 (m : Int)) len .sliceB).run Tryz.prog wx = .ok m wx := by
    rw [run_sliceBound _ _ _ _ _ (by omega) (by omega)]; rfl
  have e : len - m = k := by omega
  simp [Instr.slice, run_underlying Tryz.underlying22, Instr.sliceBounds, h2, Result.andThen, sizeOf, typeInfo, hi, hz1, e, offN]
theorem offN_row {w : World} {a : Option Addr} {l : List Nt} (h : RowN w a l) (cap m : Nat) (hlc : l.length ≤ cap) (hm : m ≤ l.length) : RowN w (offN a cap m) (l.drop m) := by
  unfold offN
  split
  · left
    rw [List.drop_eq_nil_iff]; omega
  · rcases h with rfl | ⟨b, o, rfl, hc⟩
    · exact .inl (by simp)
    · have e : (⟨b, o, none⟩ : Addr).add (m * 6) = ⟨b, o + m * 6, none⟩ := by unfold Addr.add; split <;> simp_all
      rw [Option.map_some, e]
      exact RowN.drop (w := w) (b := b) (o := o) (l := l) (.inr ⟨b, o, rfl, hc⟩) m hm
theorem offN_none {a : Option Addr} {cap m : Nat} (h : offN a cap m = none) : a = none := by
  unfold offN at h
  split at h
  · exact h
  · simpa using h
theorem take_dots {l : List Nt} {k : Nat} (h : k < l.length) : (l.take (k + 1)).map (·.1) = (l.take k).map (·.1) ++ [l[k].1] := by
  rw [List.take_succ_eq_append_getElem h, List.map_append]
  rfl
theorem make_cap_d (c : Nat) (hc : c ≤ 1000000) (w : World) :
    ∃ w', (Instr.makeSlice 75 (.int .i64 0) (.int .i64 (c : Int))).run Tryz.prog w = .ok (.slice (some ⟨w.heap.size, 0, none⟩) 0 c) w' ∧ OD w' w.heap.size ED (.slice (some ⟨w.heap.size, 0, none⟩) 0 c) [] ∧ Below w.heap.size w w' := by
  obtain ⟨i, hi, hz0, hz1, hz2⟩ := G.info_of infoD
  obtain ⟨w', h1, h2, h3⟩ := run_make_own (P := Tryz.prog) w w.heap.size 75 25 i (.agg #[.int .i64 0, .int .i64 0]) 2 Tryz.underlying75 hi hz0 hz1 .i64 .i64 c (by rw [hz2]; omega) (by unfold maxLen; omega) (Nat.le_refl _)
  exact ⟨w', h1, h2, (Below.refl _ _).grown h3 (Nat.le_refl _) (fun k hk => by cases hk)⟩
end Go.Proofs.YtkcbekebleodaaaGreat.Un
end
