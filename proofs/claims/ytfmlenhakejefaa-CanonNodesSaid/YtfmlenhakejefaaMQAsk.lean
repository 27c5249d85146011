/-
  The library's IndexFunc and ContainsFunc at nodes, by what the function value says of the nodes of the list.
-/
import Derived.Test.YtfmlenhakejefaaQRow
import Derived.Test.YtfmlenhakejefaaMNVal
import Derived.Test.YtfmlenhakejefaaMNPure

section
namespace Go.Proofs.Ytfmlenhakejefaa.Qs
set_option linter.unusedVariables false
open Go.RowKit V Go.Sort D Nd

/-- What a function value says of the dots of a list, wherever it is asked behind w. -/
def AskN (w : World) (g : Nat) (cb : Array Value) (l : List Nt) (p : Nt → Bool) : Prop :=
  ∀ W, Below w.heap.size w W → ∀ d ∈ l, Calls Try.prog g (#[nv d] ++ cb) W fun e w' => e = .returned (.bool (p d)) ∧ Below W.heap.size W w'
theorem AskN.keep {w w' : World} {g : Nat} {cb : Array Value} {l : List Nt} {p : Nt → Bool} (h : AskN w g cb l p) (hb : Below w.heap.size w w') : AskN w' g cb l p :=
  fun W hW d hd => h W (hb.trans (hW.mono hb.size)) d hd
theorem any_here {l : List Nt} {k : Nat} {p : Nt → Bool} (hk : k < l.length) (h : p l[k] = true) : l.any p = true := by
  rw [List.any_eq_true]; exact ⟨l[k], List.getElem_mem hk, h⟩
theorem any_away {l : List Nt} {p : Nt → Bool} (h : ∀ j (hj : j < l.length), p l[j] = false) : l.any p = false := by
  rw [List.any_eq_false]
  intro x hx
  obtain ⟨j, hj, rfl⟩ := List.mem_iff_getElem.1 hx
  rw [h j hj]; simp

end Go.Proofs.Ytfmlenhakejefaa.Qs
end

/-
  Which lists are stores; the order by dots: the program's and the reference's.
-/
section
namespace Go.Proofs.Ytfmlenhakejefaa.Qs
set_option linter.unusedVariables false
open Go.RowKit V Go.Sort D Nd
attribute [local irreducible] Sch.heldN Sch.stepV Sch.stepE

/-- A node of a row. -/
def Na (w : World) (b o : Nat) (n : Nt) : Prop :=
  w.cell? ⟨b, o, none⟩ = some (.int .i64 n.1.1) ∧ w.cell? ⟨b, o + 1, none⟩ = some (.int .i64 n.1.2) ∧ w.cell? ⟨b, o + 2, none⟩ = some (.int .i64 n.2.1.1) ∧ w.cell? ⟨b, o + 3, none⟩ = some (.int .i64 n.2.1.2) ∧
  w.cell? ⟨b, o + 4, none⟩ = some (.int .i64 n.2.2.1) ∧ w.cell? ⟨b, o + 5, none⟩ = some (.int .i32 n.2.2.2)
theorem Na.keep {w w' : World} {b o : Nat} {n : Nt} (h : Na w b o n) (hb : Below w.heap.size w w') : Na w' b o n := by
  have hl : b < w.heap.size := lt_of_cell h.1
  obtain ⟨h0, h1, h2, h3, h4, h5⟩ := h
  exact ⟨(hb.cell (p := ⟨b, _, none⟩) hl).trans h0, (hb.cell (p := ⟨b, _, none⟩) hl).trans h1, (hb.cell (p := ⟨b, _, none⟩) hl).trans h2, (hb.cell (p := ⟨b, _, none⟩) hl).trans h3, (hb.cell (p := ⟨b, _, none⟩) hl).trans h4, (hb.cell (p := ⟨b, _, none⟩) hl).trans h5⟩
theorem Na.load {w : World} {b o : Nat} {n : Nt} (h : Na w b o n) : (Instr.loadAt 38 (.pointer (some ⟨b, o, none⟩))).run Try.prog w = .ok (nv n) w := by
  obtain ⟨h0, h1, h2, h3, h4, h5⟩ := h
  go_simp
theorem Na.loadD {w : World} {b o : Nat} {n : Nt} (h : Na w b o n) : (Instr.loadAt 36 (.pointer (some ⟨b, o, none⟩))).run Try.prog w = .ok (dv n.1) w := by
  obtain ⟨h0, h1, h2, h3, h4, h5⟩ := h
  go_simp
theorem na_of {w : World} {a : Option Addr} {l : List Nt} (h : RowN w a l) (k : Nat) (hk : k < l.length) : ∃ b o, a = some ⟨b, o, none⟩ ∧ Na w b (o + k * 6) l[k] := h.get k hk
theorem ixN (b o n c k : Nat) (z : Int) (hz : z = (k : Int)) (hk : k < n) : ∀ w, (Instr.indexAt 22 (.slice (some ⟨b, o, none⟩) n c) (.int .i64 z)).run Try.prog w = .ok (.pointer (some ⟨b, o + k * 6, none⟩)) w := by
  intro w
  subst hz
  have hk2 : (k : Int) < (n : Int) := by omega
  go_simp

set_option maxRecDepth 100000 in
theorem inOrder_any (a b : Nt) (w : World) : Calls Try.prog 51 #[nv a, nv b] w fun e w' => e = .returned (.int .i64 (cmpR a.1 b.1)) ∧ Lays w w' := by
  have HC := Lib.hid (fun w => compare_any a.1 b.1 w)
  obtain ⟨⟨a1, a2⟩, ⟨a3, a4⟩, a5, a6⟩ := a
  obtain ⟨⟨b1, b2⟩, ⟨b3, b4⟩, b5, b6⟩ := b
  simp only at HC ⊢
  generalize cmpR (a1, a2) (b1, b2) = c at *
  go_enter Try.func51, Try.ntmps51
  go_wp2_with fail
  refine (HC.out _).mono ?_
  rintro e w2 ⟨rfl, hl⟩
  have HL := Lib.hid (Nd.lays_tr (lays_alloc2 _ _ _) hl)
  clear hl
  go_wp2_with fail
  go_ret
  exact ⟨rfl, HL.out⟩
theorem enters_inOrder : ∀ args w, (callFunc 51 args).run Try.prog w = .ok (.enter 51 args) w := enters_of Try.func51 (by kernel_rfl) rfl
theorem any_validN (l : List Nt) : (l.any fun n => !validN n) = !(l.all validN) := by rw [← List.not_all_eq_any_not]

/-- The round's box and the node before. -/
def Vk (g b o : Nat) (n m : Nt) (w : World) : Prop := Nb w g n ∧ Na w b o m
section
variable {g b o : Nat} {n m : Nt}
theorem Vk.keep {w w' : World} (h : Vk g b o n m w) (hb : Below w.heap.size w w') : Vk g b o n m w' := ⟨h.1.keep hb, h.2.keep hb⟩
theorem Vk.ln : ∀ w, Vk g b o n m w → (Instr.loadAt 38 (.pointer (some ⟨g, 0, none⟩))).run Try.prog w = .ok (nv n) w := fun w k => k.1.load
theorem Vk.lm : ∀ w, Vk g b o n m w → (Instr.loadAt 38 (.pointer (some ⟨b, o, none⟩))).run Try.prog w = .ok (nv m) w := fun w k => k.2.load
end
theorem cmp_ge (x y : Dt) : decide ((0 : Int) ≤ cmpR x y) = !less x y := by
  rcases h : less x y with _ | _
  · simpa using cmp_neg_ge h
  · simpa using cmp_neg_lt h

set_option maxRecDepth 100000 in
set_option maxHeartbeats 2000000 in
theorem validS_any (l : List Nt) (a : Option Addr) (c : Nat) (w : World) (hx : RowN w a l) (hlx : l.length ≤ 1000000) :
    Calls Try.prog 40 #[.slice a l.length c] w fun e w' => e = .returned (.bool (validS l)) ∧ Below w.heap.size w w' := by
  have HX := Lib.hid hx
  have hli : (l.length : Int) ≤ 1000000 := by omega
  clear hx hlx
  go_enter Try.func40, Try.ntmps40
  go_wp2_with fail
  go_loopw [3, 4, 7] (fun _ _ i wr => ∃ k : Nat, k ≤ l.length ∧ i = .int .i64 (k : Int) ∧ Hid (Below w.heap.size w wr) ∧ Hid (∀ j (hj : j < l.length), j < k → validN l[j] = true) ∧ Hid (∀ j (hj : j + 1 < l.length), j + 1 < k → less l[j].1 l[j + 1].1 = true)) (fun _ _ i _ => l.length - (intOf i).toNat)
  case atStart => exact ⟨0, Nat.zero_le _, rfl, Below.refl _ _, fun j _ h => by omega, fun j _ h => by omega⟩
  case round =>
    obtain ⟨k, hk, rfl, hh, HV, HI⟩ := hrel
    by_cases hlt : k < l.length
    · have hi0 : (k : Int) < (l.length : Int) := by omega
      obtain ⟨b1, o1, rfl, hna⟩ := na_of (HX.out.keep hh.out) k hlt
      obtain ⟨q, hq⟩ : ∃ q, q = l[k] := ⟨_, rfl⟩
      rw [← hq] at hna
      have HQ := Lib.hid hq
      clear hq
      have HG := Lib.hid (fun w => validN_any q w)
      have HK0 : Hid (Vk wr.heap.size b1 (o1 + k * 6) q q (wr.alloc (.cells (nc q) 38)).drew) := ⟨(Nb.new wr q).keep (Below.refl _ _).drew, (hna.keep (bel_box _ _)).keep (Below.refl _ _).drew⟩
      have HB0 : Hid (Below w.heap.size w (wr.alloc (.cells (nc q) 38)).drew) := (bel_tr hh (bel_box _ _)).out.drew
      obtain ⟨h0, h1, h2, h3, h4, h5⟩ := hna
      rcases hb : validN q with _ | _
      · have HN : Hid (validS l = false) := validS_no1 k hlt (by rw [← HQ.out]; exact hb)
        rw [hb] at HG
        clear hb
        obtain ⟨⟨q1, q2⟩, ⟨q3, q4⟩, q5, q6⟩ := q
        go_wp2_with fail
        generalize (wr.alloc (.cells #[.int .i64 q1, .int .i64 q2, .int .i64 q3, .int .i64 q4, .int .i64 q5, .int .i32 q6] 38)) = w1 at *
        refine Sch.wp_region_tn (Vk wr.heap.size b1 (o1 + k * 6) ((q1, q2), (q3, q4), q5, q6) ((q1, q2), (q3, q4), q5, q6)) (.val 0 (.one 1 (.val 2 (.val 3 (.val 4 (.val 5 (.val 6 (.val 7 (.val 8 (.val 9 (.val 10 (.val 11 (.val 12 (.one 13 (.val 14 (.val 15 (.val 16 .done))))))))))))))))) (by kernel_rfl) (by kernel_rfl) HK0.out ?_
        repeat (first
          | (refine Sch.tn_q rfl rfl rfl (fun K hK => ?_); go_big_quiet_op; (first | refine hK _ ?_ | refine ⟨_, fun _ _ => rfl, hK _ ?_⟩); clear hK K)
          | (refine Sch.tn_chk _ _ _ rfl rfl rfl rfl rfl ?_; simp only [Act.put, List.setIfInBounds_toArray, List.set_cons_zero, List.set_cons_succ])
          | (refine Sch.tn_load _ _ _ _ _ rfl rfl rfl rfl (by first | exact Vk.ln) rfl ?_; simp only [Act.put, List.setIfInBounds_toArray, List.set_cons_zero, List.set_cons_succ]))
        generalize w1.drew = w2 at *
        refine Sch.tn_e rfl rfl (fun K hK => ?_)
        go_wp2_with fail
        refine (HG.out _).mono ?_
        rintro e w3 ⟨rfl, hb⟩
        have HB := bel_tr HB0 hb
        refine hK _ _ (HK0.out.keep hb) ?_
        clear hK K
        repeat (first
          | (refine Sch.tn_q rfl rfl rfl (fun K hK => ?_); go_big_quiet_op; (first | refine hK _ ?_ | refine ⟨_, fun _ _ => rfl, hK _ ?_⟩); clear hK K)
          | (refine Sch.tn_chk _ _ _ rfl rfl rfl rfl rfl ?_; simp only [Act.put, List.setIfInBounds_toArray, List.set_cons_zero, List.set_cons_succ])
          | (refine Sch.tn_load _ _ _ _ _ rfl rfl rfl rfl (by first | exact Vk.ln) rfl ?_; simp only [Act.put, List.setIfInBounds_toArray, List.set_cons_zero, List.set_cons_succ])
          | (refine Sch.tn_s _ rfl rfl rfl ?_; simp only [Act.put, List.setIfInBounds_toArray, List.set_cons_zero, List.set_cons_succ])
          | (refine Sch.tn_se _ rfl rfl rfl ?_; simp only [Act.put, List.setIfInBounds_toArray, List.set_cons_zero, List.set_cons_succ]))
        refine Sch.tn_n ?_
        go_wp2_with fail
        go_ret
        exact ⟨by rw [HN.out]; rfl, HB.out⟩
      · have HVq : Hid (∀ j (hj : j < l.length), j < k + 1 → validN l[j] = true) := fun j hj hjk => by
          by_cases hjk2 : j = k
          · subst hjk2; rw [← HQ.out]; exact hb
          · exact HV.out j hj (by omega)
        rw [hb] at HG
        clear hb
        rcases k with _ | k
        · simp only [Nat.zero_mul, Nat.add_zero] at h0 h1 h2 h3 h4 h5 HK0
          obtain ⟨⟨q1, q2⟩, ⟨q3, q4⟩, q5, q6⟩ := q
          go_wp2_with fail
          generalize (wr.alloc (.cells #[.int .i64 q1, .int .i64 q2, .int .i64 q3, .int .i64 q4, .int .i64 q5, .int .i32 q6] 38)) = w1 at *
          refine Sch.wp_region_tn (Vk wr.heap.size b1 o1 ((q1, q2), (q3, q4), q5, q6) ((q1, q2), (q3, q4), q5, q6)) (.val 0 (.one 1 (.val 2 (.val 3 (.val 4 (.val 5 (.val 6 (.val 7 (.val 8 (.val 9 (.val 10 (.val 11 (.val 12 (.one 13 (.val 14 (.val 15 (.val 16 .done))))))))))))))))) (by kernel_rfl) (by kernel_rfl) HK0.out ?_
          repeat (first
            | (refine Sch.tn_q rfl rfl rfl (fun K hK => ?_); go_big_quiet_op; (first | refine hK _ ?_ | refine ⟨_, fun _ _ => rfl, hK _ ?_⟩); clear hK K)
            | (refine Sch.tn_chk _ _ _ rfl rfl rfl rfl rfl ?_; simp only [Act.put, List.setIfInBounds_toArray, List.set_cons_zero, List.set_cons_succ])
            | (refine Sch.tn_load _ _ _ _ _ rfl rfl rfl rfl (by first | exact Vk.ln) rfl ?_; simp only [Act.put, List.setIfInBounds_toArray, List.set_cons_zero, List.set_cons_succ]))
          generalize w1.drew = w2 at *
          refine Sch.tn_e rfl rfl (fun K hK => ?_)
          go_wp2_with fail
          refine (HG.out _).mono ?_
          rintro e w3 ⟨rfl, hb⟩
          have HB := bel_tr HB0 hb
          refine hK _ _ (HK0.out.keep hb) ?_
          clear hK K
          repeat (first
            | (refine Sch.tn_q rfl rfl rfl (fun K hK => ?_); go_big_quiet_op; (first | refine hK _ ?_ | refine ⟨_, fun _ _ => rfl, hK _ ?_⟩); clear hK K)
            | (refine Sch.tn_chk _ _ _ rfl rfl rfl rfl rfl ?_; simp only [Act.put, List.setIfInBounds_toArray, List.set_cons_zero, List.set_cons_succ])
            | (refine Sch.tn_load _ _ _ _ _ rfl rfl rfl rfl (by first | exact Vk.ln) rfl ?_; simp only [Act.put, List.setIfInBounds_toArray, List.set_cons_zero, List.set_cons_succ])
            | (refine Sch.tn_s _ rfl rfl rfl ?_; simp only [Act.put, List.setIfInBounds_toArray, List.set_cons_zero, List.set_cons_succ])
            | (refine Sch.tn_se _ rfl rfl rfl ?_; simp only [Act.put, List.setIfInBounds_toArray, List.set_cons_zero, List.set_cons_succ]))
          refine Sch.tn_n ?_
          go_wp2_with fail
          go_roundw
          case rel => exact ⟨1, by omega, by go_num, HB, HVq, fun j hj hjk => by omega⟩
          case measure => simp [intOf]; omega
        · have hlt0 : k < l.length := by omega
          have hi3 : (0 : Int) < (k : Int) + 1 := by omega
          have hg : decide ((0 : Int) < (k : Int) + 1) = true := by rw [decide_eq_true_eq]; exact hi3
          obtain ⟨b2, o2, e2, hnb⟩ := na_of (HX.out.keep hh.out) k hlt0
          cases e2
          obtain ⟨p, hp⟩ : ∃ p, p = l[k] := ⟨_, rfl⟩
          rw [← hp] at hnb
          have HP := Lib.hid hp
          clear hp
          have hwr := wrap_nat (show (k : Int) ≤ 140737488355328 by omega)
          have hix := ixN b1 o1 l.length c k (k : Int) rfl hlt0
          have hix2 := ixN b1 o1 l.length c (k + 1) ((k : Int) + 1) (by omega) hlt
          have HK : Hid (Vk wr.heap.size b1 (o1 + k * 6) q p (wr.alloc (.cells (nc q) 38)).drew) := ⟨HK0.out.1, (hnb.keep (bel_box _ _)).keep (Below.refl _ _).drew⟩
          have HC := Lib.hid (fun w => inOrder_any p q w)
          have hcg := cmp_ge p.1 q.1
          obtain ⟨z, hz⟩ : ∃ z, z = cmpR p.1 q.1 := ⟨_, rfl⟩
          rw [← hz] at HC hcg
          clear hz HK0 hnb
          obtain ⟨t, ht⟩ : ∃ t, t = less p.1 q.1 := ⟨_, rfl⟩
          rw [← ht] at hcg
          have HT := Lib.hid ht
          clear ht
          obtain ⟨⟨q1, q2⟩, ⟨q3, q4⟩, q5, q6⟩ := q
          go_wp2_with fail
          generalize (wr.alloc (.cells #[.int .i64 q1, .int .i64 q2, .int .i64 q3, .int .i64 q4, .int .i64 q5, .int .i32 q6] 38)) = w1 at *
          refine Sch.wp_region_tn (Vk wr.heap.size b1 (o1 + k * 6) ((q1, q2), (q3, q4), q5, q6) p) (.val 0 (.one 1 (.val 2 (.val 3 (.val 4 (.val 5 (.val 6 (.val 7 (.val 8 (.val 9 (.val 10 (.val 11 (.val 12 (.one 13 (.val 14 (.val 15 (.val 16 .done))))))))))))))))) (by kernel_rfl) (by kernel_rfl) HK.out ?_
          repeat (first
            | (refine Sch.tn_q rfl rfl rfl (fun K hK => ?_); go_big_quiet_op; (first | refine hK _ ?_ | refine ⟨_, fun _ _ => rfl, hK _ ?_⟩); clear hK K)
            | (refine Sch.tn_chk _ _ _ rfl rfl rfl rfl rfl ?_; simp only [Act.put, List.setIfInBounds_toArray, List.set_cons_zero, List.set_cons_succ])
            | (refine Sch.tn_load _ _ _ _ _ rfl rfl rfl rfl (by first | exact Vk.ln | exact Vk.lm) rfl ?_; simp only [Act.put, List.setIfInBounds_toArray, List.set_cons_zero, List.set_cons_succ]))
          generalize w1.drew = w2 at *
          refine Sch.tn_e rfl rfl (fun K hK => ?_)
          go_wp2_with fail
          refine (HG.out _).mono ?_
          rintro e w3 ⟨rfl, hb⟩
          have HB := bel_tr HB0 hb
          replace HK := Lib.hid (HK.out.keep hb)
          clear hb
          refine hK _ _ HK.out ?_
          clear hK K
          repeat (first
            | (refine Sch.tn_q rfl rfl rfl (fun K hK => ?_); go_big_quiet_op; (first | refine hK _ ?_ | refine ⟨_, fun _ _ => rfl, hK _ ?_⟩); clear hK K)
            | (refine Sch.tn_chk _ _ _ rfl rfl rfl rfl rfl ?_; simp only [Act.put, List.setIfInBounds_toArray, List.set_cons_zero, List.set_cons_succ])
            | (refine Sch.tn_load _ _ _ _ _ rfl rfl rfl rfl (by first | exact Vk.ln | exact Vk.lm) rfl ?_; simp only [Act.put, List.setIfInBounds_toArray, List.set_cons_zero, List.set_cons_succ])
            | (refine Sch.tn_s _ rfl rfl rfl ?_; simp only [Act.put, List.setIfInBounds_toArray, List.set_cons_zero, List.set_cons_succ])
            | (refine Sch.tn_se _ rfl rfl rfl ?_; simp only [Act.put, List.setIfInBounds_toArray, List.set_cons_zero, List.set_cons_succ]))
          refine Sch.tn_e rfl rfl (fun K hK => ?_)
          go_wp2_with fail
          refine (HC.out _).mono ?_
          rintro e w4 ⟨rfl, hl⟩
          have hb := hl.bel
          clear hl
          replace HB := bel_tr HB hb
          replace HK := Lib.hid (HK.out.keep hb)
          clear hb
          refine hK _ _ HK.out ?_
          clear hK K
          rcases t with _ | _
          · have HN : Hid (validS l = false) := validS_no2 k hlt (by rw [← HP.out, ← HQ.out]; exact HT.out.symm)
            repeat (first
              | (refine Sch.tn_q rfl rfl rfl (fun K hK => ?_); go_big_quiet_op; (first | refine hK _ ?_ | refine ⟨_, fun _ _ => rfl, hK _ ?_⟩); clear hK K)
              | (refine Sch.tn_chk _ _ _ rfl rfl rfl rfl rfl ?_; simp only [Act.put, List.setIfInBounds_toArray, List.set_cons_zero, List.set_cons_succ])
              | (refine Sch.tn_load _ _ _ _ _ rfl rfl rfl rfl (by first | exact Vk.ln | exact Vk.lm) rfl ?_; simp only [Act.put, List.setIfInBounds_toArray, List.set_cons_zero, List.set_cons_succ])
              | (refine Sch.tn_s _ rfl rfl rfl ?_; simp only [Act.put, List.setIfInBounds_toArray, List.set_cons_zero, List.set_cons_succ])
              | (refine Sch.tn_se _ rfl rfl rfl ?_; simp only [Act.put, List.setIfInBounds_toArray, List.set_cons_zero, List.set_cons_succ]))
            refine Sch.tn_n ?_
            go_wp2_with fail
            go_ret
            exact ⟨by rw [HN.out]; rfl, HB.out⟩
          · skip
            repeat (first
              | (refine Sch.tn_q rfl rfl rfl (fun K hK => ?_); go_big_quiet_op; (first | refine hK _ ?_ | refine ⟨_, fun _ _ => rfl, hK _ ?_⟩); clear hK K)
              | (refine Sch.tn_chk _ _ _ rfl rfl rfl rfl rfl ?_; simp only [Act.put, List.setIfInBounds_toArray, List.set_cons_zero, List.set_cons_succ])
              | (refine Sch.tn_load _ _ _ _ _ rfl rfl rfl rfl (by first | exact Vk.ln | exact Vk.lm) rfl ?_; simp only [Act.put, List.setIfInBounds_toArray, List.set_cons_zero, List.set_cons_succ])
              | (refine Sch.tn_s _ rfl rfl rfl ?_; simp only [Act.put, List.setIfInBounds_toArray, List.set_cons_zero, List.set_cons_succ])
              | (refine Sch.tn_se _ rfl rfl rfl ?_; simp only [Act.put, List.setIfInBounds_toArray, List.set_cons_zero, List.set_cons_succ]))
            refine Sch.tn_n ?_
            go_wp2_with fail
            go_roundw
            case rel =>
              refine ⟨k + 2, by omega, by go_num, HB, HVq, fun j hj hjk => ?_⟩
              by_cases hjk2 : j = k
              · subst hjk2; rw [← HP.out, ← HQ.out]; exact HT.out.symm
              · exact HI.out j hj (by omega)
            case measure => simp [intOf]; omega
    · have HN : Hid (validS l = true) := validS_at (fun j hj => HV.out j hj (by omega)) (fun j hj => HI.out j hj (by omega))
      have hend : ¬ (k : Int) < (l.length : Int) := by omega
      go_wp2_with fail
      go_ret
      exact ⟨by rw [HN.out]; rfl, hh.out⟩
end Go.Proofs.Ytfmlenhakejefaa.Qs
end

/-
  Equal lists of nodes: the library's, the program's, the reference's.
-/
section
namespace Go.Proofs.Ytfmlenhakejefaa.Qs
set_option linter.unusedVariables false
open Go.RowKit V Go.Sort D Nd

theorem neqN_yes {p q : Nt} (h : ¬ p = q) : ∀ w, Sem.run Try.prog (binOp .neq 38 (nv p) (nv q)) w = .ok (.bool true) w := fun w => by rw [neq_node, decide_eq_false h]; rfl
theorem neqN_no (p : Nt) : ∀ w, Sem.run Try.prog (binOp .neq 38 (nv p) (nv p)) w = .ok (.bool false) w := fun w => by rw [neq_node, decide_eq_true rfl]; rfl
end Go.Proofs.Ytfmlenhakejefaa.Qs
end

/-
  Layer 14's reference: which dots, runes and nodes are allowed; the order of dots.
-/
section
namespace Go.Proofs.Ytfmlenhakejefaa.Jn
set_option linter.unusedVariables false
open Go.RowKit V Go.Sort D Nd Qs

set_option maxRecDepth 100000 in
set_option maxHeartbeats 1000000 in
theorem before_ref (x y : Dt) (w : World) : Calls Try.prog 33 #[dv x, dv y] w fun e w' => e = .returned (.bool (less x y)) ∧ Lays w w' := by
  have HE : Hid (less x y = (decide (x.2 < y.2) || (decide (x.2 = y.2) && decide (x.1 < y.1)))) := by
    show _ = _
    rw [Bool.eq_iff_iff, less_iff]
    simp
  obtain ⟨x1, x2⟩ := x
  obtain ⟨y1, y2⟩ := y
  generalize less (x1, x2) (y1, y2) = R at *
  simp only at HE
  by_cases h1 : x2 < y2
  · go_enter Try.func33, Try.ntmps33
    go_wp2_with fail
    go_ret
    exact ⟨by rw [HE.out, decide_eq_true h1]; rfl, lays_alloc2 _ _ _⟩
  · by_cases h2 : x2 = y2
    · subst h2
      by_cases h3 : x1 < y1
      · go_enter Try.func33, Try.ntmps33
        go_wp2_with fail
        go_ret
        exact ⟨by rw [HE.out]; simp <;> omega, lays_alloc2 _ _ _⟩
      · go_enter Try.func33, Try.ntmps33
        go_wp2_with fail
        go_ret
        exact ⟨by rw [HE.out]; simp <;> omega, lays_alloc2 _ _ _⟩
    · have hq : (x2 == y2) = false := by simpa using h2
      have HQ := Lib.hid (decide_eq_false h2)
      go_enter Try.func33, Try.ntmps33
      go_wp2_with fail
      go_ret
      exact ⟨by rw [HE.out]; simp <;> omega, lays_alloc2 _ _ _⟩
set_option maxRecDepth 100000 in
set_option maxHeartbeats 1000000 in
theorem isDot_ref (d : Dt) (w : World) : Calls Try.prog 31 #[dv d] w fun e w' => e = .returned (.bool (validR d)) ∧ Below w.heap.size w w' := by
  have HE : Hid (validR d = (decide (1 ≤ d.1) && decide (d.1 ≤ 64) && decide (1 ≤ d.2) && decide (d.2 ≤ 4294967295))) := by
    show _ = _
    rw [Bool.eq_iff_iff, valid_iff]
    simp only [Bool.and_eq_true, decide_eq_true_eq]
    omega
  obtain ⟨d1, d2⟩ := d
  generalize validR (d1, d2) = R at *
  simp only at HE
  by_cases h1 : 1 ≤ d1
  · by_cases h2 : d1 ≤ 64
    · by_cases h3 : 1 ≤ d2
      · by_cases h4 : d2 ≤ 4294967295
        · go_enter Try.func31, Try.ntmps31
          go_wp2_with fail
          go_ret
          exact ⟨by rw [HE.out, decide_eq_true h1, decide_eq_true h2, decide_eq_true h3, decide_eq_true h4]; rfl, bel_box _ _⟩
        · go_enter Try.func31, Try.ntmps31
          go_wp2_with fail
          go_ret
          exact ⟨by rw [HE.out]; simp <;> omega, bel_box _ _⟩
      · go_enter Try.func31, Try.ntmps31
        go_wp2_with fail
        go_ret
        exact ⟨by rw [HE.out]; simp <;> omega, bel_box _ _⟩
    · go_enter Try.func31, Try.ntmps31
      go_wp2_with fail
      go_ret
      exact ⟨by rw [HE.out]; simp <;> omega, bel_box _ _⟩
  · go_enter Try.func31, Try.ntmps31
    go_wp2_with fail
    go_ret
    exact ⟨by rw [HE.out]; simp <;> omega, bel_box _ _⟩
set_option maxRecDepth 100000 in
set_option maxHeartbeats 1000000 in
theorem isRune_ref (r : Int) (w : World) : Calls Try.prog 32 #[.int .i32 r] w fun e w' => e = .returned (.bool (R.vld r)) ∧ w' = w := by
  have HE : Hid (R.vld r = (decide (1 ≤ r) && decide (r ≤ 1114111) && (decide (r < 55296) || decide (57343 < r)))) := by
    show _ = _
    rw [Bool.eq_iff_iff, R.vld_iff]
    simp only [Bool.and_eq_true, Bool.or_eq_true, decide_eq_true_eq]
    omega
  generalize R.vld r = R at *
  by_cases h1 : 1 ≤ r
  · by_cases h2 : r ≤ 1114111
    · by_cases h3 : r < 55296
      · go_enter Try.func32, Try.ntmps32
        go_wp2_with fail
        go_ret
        exact ⟨by rw [HE.out, decide_eq_true h1, decide_eq_true h2, decide_eq_true h3]; rfl, rfl⟩
      · by_cases h4 : 57343 < r
        · go_enter Try.func32, Try.ntmps32
          go_wp2_with fail
          go_ret
          exact ⟨by rw [HE.out, decide_eq_true h1, decide_eq_true h2, decide_eq_true h4, Bool.or_true]; rfl, rfl⟩
        · go_enter Try.func32, Try.ntmps32
          go_wp2_with fail
          go_ret
          exact ⟨by rw [HE.out]; simp <;> omega, rfl⟩
    · go_enter Try.func32, Try.ntmps32
      go_wp2_with fail
      go_ret
      exact ⟨by rw [HE.out]; simp <;> omega, rfl⟩
  · go_enter Try.func32, Try.ntmps32
    go_wp2_with fail
    go_ret
    exact ⟨by rw [HE.out]; simp <;> omega, rfl⟩
set_option maxRecDepth 100000 in
set_option maxHeartbeats 4000000 in
theorem isNode_ref (n : Nt) (w : World) : Calls Try.prog 16 #[nv n] w fun e w' => e = .returned (.bool (validN n)) ∧ Below w.heap.size w w' := by
  have HE : Hid (validN n = (validR n.1 && (decide (n.2.1 = (0, 0)) || validR n.2.1) && !decide (n.2.1 = n.1) && decide (1 ≤ n.2.2.1) && decide (n.2.2.1 ≤ 4611686018427387904) && (decide (n.2.2.2 = 0) || R.vld n.2.2.2))) := by
    show _ = _
    unfold validN
    rw [show rootR n.2.1 = decide (n.2.1 = (0, 0)) by rw [Bool.eq_iff_iff, root_iff, decide_eq_true_eq]]
  have HVd := Lib.hid (fun w => isDot_ref n.1 w)
  have HVp := Lib.hid (fun w => isDot_ref n.2.1 w)
  have HRu := Lib.hid (fun w => isRune_ref n.2.2.2 w)
  have heq := fun w => eql_dot n.2.1 (0, 0) w
  have hne := fun w => neq_dot n.2.1 n.1 w
  generalize validR n.1 = vd at *
  generalize validR n.2.1 = vp at *
  generalize R.vld n.2.2.2 = rr at *
  generalize decide (n.2.1 = (0, 0)) = z at *
  generalize decide (n.2.1 = n.1) = b at *
  have HK := Lib.hid (Nb.new w n)
  have HB := Lib.hid (bel_box w (.cells (nc n) 38))
  obtain ⟨⟨d1, d2⟩, ⟨p1, p2⟩, t, q⟩ := n
  generalize validN ((d1, d2), (p1, p2), t, q) = R at *
  simp only at HE
  go_enter Try.func16, Try.ntmps16
  go_wp2_with fail
  generalize w.alloc (.cells #[.int .i64 d1, .int .i64 d2, .int .i64 p1, .int .i64 p2, .int .i64 t, .int .i32 q] 38) = w0 at *
  obtain ⟨k0, k1, k2, k3, k4, k5⟩ := HK.out
  refine (HVd.out _).mono ?_
  rintro e w1 ⟨rfl, hb⟩
  replace HK := Lib.hid (HK.out.keep hb)
  replace HB := bel_tr HB hb
  clear hb k0 k1 k2 k3 k4 k5 HVd
  obtain ⟨k0, k1, k2, k3, k4, k5⟩ := HK.out
  rcases vd with _ | _
  · go_wp2_with fail
    go_ret
    exact ⟨by rw [HE.out]; simp, HB.out⟩
  rcases z with _ | _
  · go_wp2_with fail
    refine (HVp.out _).mono ?_
    rintro e w2 ⟨rfl, hb⟩
    replace HK := Lib.hid (HK.out.keep hb)
    replace HB := bel_tr HB hb
    clear hb k0 k1 k2 k3 k4 k5 HVp
    obtain ⟨k0, k1, k2, k3, k4, k5⟩ := HK.out
    rcases vp with _ | _
    · go_wp2_with fail
      go_ret
      exact ⟨by rw [HE.out]; simp, HB.out⟩
    rcases b with _ | _
    · by_cases h1 : 1 ≤ t
      · by_cases h2 : t ≤ 4611686018427387904
        · by_cases h3 : q = 0
          · subst h3
            go_wp2_with fail
            go_ret
            exact ⟨by rw [HE.out, decide_eq_true h1, decide_eq_true h2]; simp, HB.out⟩
          · have hq : (q == 0) = false := by simpa using h3
            have HQ : Hid (decide (q = 0) = false) := decide_eq_false h3
            clear h3
            go_wp2_with fail
            refine (HRu.out _).mono ?_
            rintro e w4 ⟨rfl, rfl⟩
            go_wp2_with fail
            go_ret
            exact ⟨by rw [HE.out, decide_eq_true h1, decide_eq_true h2, HQ.out]; simp, HB.out⟩
        · go_wp2_with fail
          go_ret
          exact ⟨by rw [HE.out]; simp <;> omega, HB.out⟩
      · go_wp2_with fail
        go_ret
        exact ⟨by rw [HE.out]; simp <;> omega, HB.out⟩
    · go_wp2_with fail
      go_ret
      exact ⟨by rw [HE.out]; simp, HB.out⟩
  · rcases b with _ | _
    · by_cases h1 : 1 ≤ t
      · by_cases h2 : t ≤ 4611686018427387904
        · by_cases h3 : q = 0
          · subst h3
            go_wp2_with fail
            go_ret
            exact ⟨by rw [HE.out, decide_eq_true h1, decide_eq_true h2]; simp, HB.out⟩
          · have hq : (q == 0) = false := by simpa using h3
            have HQ : Hid (decide (q = 0) = false) := decide_eq_false h3
            clear h3
            go_wp2_with fail
            refine (HRu.out _).mono ?_
            rintro e w4 ⟨rfl, rfl⟩
            go_wp2_with fail
            go_ret
            exact ⟨by rw [HE.out, decide_eq_true h1, decide_eq_true h2, HQ.out]; simp, HB.out⟩
        · go_wp2_with fail
          go_ret
          exact ⟨by rw [HE.out]; simp <;> omega, HB.out⟩
      · go_wp2_with fail
        go_ret
        exact ⟨by rw [HE.out]; simp <;> omega, HB.out⟩
    · go_wp2_with fail
      go_ret
      exact ⟨by rw [HE.out]; simp, HB.out⟩
end Go.Proofs.Ytfmlenhakejefaa.Jn
end

/-
  Layer 14's reference: which states are stores, the place of a dot, equal states.
-/
section
namespace Go.Proofs.Ytfmlenhakejefaa.Jn
set_option linter.unusedVariables false
open Go.RowKit V Go.Sort D Nd Qs
attribute [local irreducible] Sch.heldN Sch.stepV Sch.stepE

theorem ixS (b o n c k : Nat) (z : Int) (hz : z = (k : Int)) (hk : k < n) : ∀ w, (Instr.indexAt 23 (.slice (some ⟨b, o, none⟩) n c) (.int .i64 z)).run Try.prog w = .ok (.pointer (some ⟨b, o + k * 6, none⟩)) w := by
  intro w
  subst hz
  have hk2 : (k : Int) < (n : Int) := by omega
  go_simp
/-- Two nodes of a row. -/
def Vr (b o o2 : Nat) (n m : Nt) (w : World) : Prop := Na w b o n ∧ Na w b o2 m
section
variable {b o o2 : Nat} {n m : Nt}
theorem Vr.keep {w w' : World} (h : Vr b o o2 n m w) (hb : Below w.heap.size w w') : Vr b o o2 n m w' := ⟨h.1.keep hb, h.2.keep hb⟩
theorem Vr.ln : ∀ w, Vr b o o2 n m w → (Instr.loadAt 38 (.pointer (some ⟨b, o, none⟩))).run Try.prog w = .ok (nv n) w := fun w k => k.1.load
theorem Vr.ld : ∀ w, Vr b o o2 n m w → (Instr.loadAt 36 (.pointer (some ⟨b, o, none⟩))).run Try.prog w = .ok (dv n.1) w := fun w k => k.1.loadD
theorem Vr.lm : ∀ w, Vr b o o2 n m w → (Instr.loadAt 36 (.pointer (some ⟨b, o2, none⟩))).run Try.prog w = .ok (dv m.1) w := fun w k => k.2.loadD
end

set_option maxRecDepth 100000 in
set_option maxHeartbeats 2000000 in
theorem store_ref (l : List Nt) (a : Option Addr) (c : Nat) (w : World) (hx : RowN w a l) (hlx : l.length ≤ 1000000) :
    Calls Try.prog 27 #[.slice a l.length c] w fun e w' => e = .returned (.bool (validS l)) ∧ Below w.heap.size w w' := by
  have HX := Lib.hid hx
  have hli : (l.length : Int) ≤ 1000000 := by omega
  clear hx hlx
  go_enter Try.func27, Try.ntmps27
  go_wp2_with fail
  go_loopw [3] (fun i wr => ∃ k : Nat, k ≤ l.length ∧ i = .int .i64 (k : Int) ∧ Hid (Below w.heap.size w wr) ∧ Hid (∀ j (hj : j < l.length), j < k → validN l[j] = true) ∧ Hid (∀ j (hj : j + 1 < l.length), j + 1 < k → less l[j].1 l[j + 1].1 = true)) (fun i _ => l.length - (intOf i).toNat)
  case atStart => exact ⟨0, Nat.zero_le _, rfl, Below.refl _ _, fun j _ h => by omega, fun j _ h => by omega⟩
  case round =>
    obtain ⟨k, hk, rfl, hh, HV, HI⟩ := hrel
    by_cases hlt : k < l.length
    · have hi0 : (k : Int) < (l.length : Int) := by omega
      obtain ⟨b1, o1, rfl, hna⟩ := na_of (HX.out.keep hh.out) k hlt
      have HG := Lib.hid (fun w => isNode_ref l[k] w)
      obtain ⟨q, hq⟩ : ∃ q, q = l[k] := ⟨_, rfl⟩
      rw [← hq] at hna HG
      have HQ := Lib.hid hq
      clear hq
      have HK0 : Hid (Vr b1 (o1 + k * 6) (o1 + k * 6) q q wr.drew) := ⟨hna.keep (Below.refl _ _).drew, hna.keep (Below.refl _ _).drew⟩
      have HB0 : Hid (Below w.heap.size w wr.drew) := hh.out.drew
      obtain ⟨h0, h1, h2, h3, h4, h5⟩ := hna
      rcases hb : validN q with _ | _
      · have HN : Hid (validS l = false) := validS_no1 k hlt (by rw [← HQ.out]; exact hb)
        rw [hb] at HG
        clear hb
        obtain ⟨⟨q1, q2⟩, ⟨q3, q4⟩, q5, q6⟩ := q
        go_wp2_with fail
        refine Sch.wp_region_tn (Vr b1 (o1 + k * 6) (o1 + k * 6) ((q1, q2), (q3, q4), q5, q6) ((q1, q2), (q3, q4), q5, q6)) (.val 0 (.val 1 (.val 2 (.val 3 (.one 4 (.val 5 (.val 6 (.val 7 (.val 8 (.val 9 (.val 10 (.val 11 (.val 12 (.val 13 (.val 14 (.val 15 (.val 16 (.val 17 (.val 18 (.val 19 (.val 20 (.one 21 (.val 22 (.val 23 (.val 24 .done))))))))))))))))))))))))) (by kernel_rfl) (by kernel_rfl) HK0.out ?_
        repeat (first
          | (refine Sch.tn_q rfl rfl rfl (fun K hK => ?_); go_big_quiet_op; (first | refine hK _ ?_ | refine ⟨_, fun _ _ => rfl, hK _ ?_⟩); clear hK K)
          | (refine Sch.tn_chk _ _ _ rfl rfl rfl rfl rfl ?_; simp only [Act.put, List.setIfInBounds_toArray, List.set_cons_zero, List.set_cons_succ])
          | (refine Sch.tn_load _ _ _ _ _ rfl rfl rfl rfl (by first | exact Vr.ln) rfl ?_; simp only [Act.put, List.setIfInBounds_toArray, List.set_cons_zero, List.set_cons_succ]))
        generalize wr.drew = w2 at *
        refine Sch.tn_e rfl rfl (fun K hK => ?_)
        go_wp2_with fail
        refine (HG.out _).mono ?_
        rintro e w3 ⟨rfl, hb⟩
        have HB := bel_tr HB0 hb
        refine hK _ _ (HK0.out.keep hb) ?_
        clear hK K
        repeat (first
          | (refine Sch.tn_q rfl rfl rfl (fun K hK => ?_); go_big_quiet_op; (first | refine hK _ ?_ | refine ⟨_, fun _ _ => rfl, hK _ ?_⟩); clear hK K)
          | (refine Sch.tn_chk _ _ _ rfl rfl rfl rfl rfl ?_; simp only [Act.put, List.setIfInBounds_toArray, List.set_cons_zero, List.set_cons_succ])
          | (refine Sch.tn_load _ _ _ _ _ rfl rfl rfl rfl (by first | exact Vr.ln) rfl ?_; simp only [Act.put, List.setIfInBounds_toArray, List.set_cons_zero, List.set_cons_succ])
          | (refine Sch.tn_s _ rfl rfl rfl ?_; simp only [Act.put, List.setIfInBounds_toArray, List.set_cons_zero, List.set_cons_succ])
          | (refine Sch.tn_se _ rfl rfl rfl ?_; simp only [Act.put, List.setIfInBounds_toArray, List.set_cons_zero, List.set_cons_succ]))
        refine Sch.tn_n ?_
        go_wp2_with fail
        go_ret
        exact ⟨by rw [HN.out]; rfl, HB.out⟩
      · have HVq : Hid (∀ j (hj : j < l.length), j < k + 1 → validN l[j] = true) := fun j hj hjk => by
          by_cases hjk2 : j = k
          · subst hjk2; rw [← HQ.out]; exact hb
          · exact HV.out j hj (by omega)
        rw [hb] at HG
        clear hb
        rcases k with _ | k
        · simp only [Nat.zero_mul, Nat.add_zero] at h0 h1 h2 h3 h4 h5 HK0
          obtain ⟨⟨q1, q2⟩, ⟨q3, q4⟩, q5, q6⟩ := q
          go_wp2_with fail
          refine Sch.wp_region_tn (Vr b1 o1 o1 ((q1, q2), (q3, q4), q5, q6) ((q1, q2), (q3, q4), q5, q6)) (.val 0 (.val 1 (.val 2 (.val 3 (.one 4 (.val 5 (.val 6 (.val 7 (.val 8 (.val 9 (.val 10 (.val 11 (.val 12 (.val 13 (.val 14 (.val 15 (.val 16 (.val 17 (.val 18 (.val 19 (.val 20 (.one 21 (.val 22 (.val 23 (.val 24 .done))))))))))))))))))))))))) (by kernel_rfl) (by kernel_rfl) HK0.out ?_
          repeat (first
            | (refine Sch.tn_q rfl rfl rfl (fun K hK => ?_); go_big_quiet_op; (first | refine hK _ ?_ | refine ⟨_, fun _ _ => rfl, hK _ ?_⟩); clear hK K)
            | (refine Sch.tn_chk _ _ _ rfl rfl rfl rfl rfl ?_; simp only [Act.put, List.setIfInBounds_toArray, List.set_cons_zero, List.set_cons_succ])
            | (refine Sch.tn_load _ _ _ _ _ rfl rfl rfl rfl (by first | exact Vr.ln) rfl ?_; simp only [Act.put, List.setIfInBounds_toArray, List.set_cons_zero, List.set_cons_succ]))
          generalize wr.drew = w2 at *
          refine Sch.tn_e rfl rfl (fun K hK => ?_)
          go_wp2_with fail
          refine (HG.out _).mono ?_
          rintro e w3 ⟨rfl, hb⟩
          have HB := bel_tr HB0 hb
          refine hK _ _ (HK0.out.keep hb) ?_
          clear hK K
          repeat (first
            | (refine Sch.tn_q rfl rfl rfl (fun K hK => ?_); go_big_quiet_op; (first | refine hK _ ?_ | refine ⟨_, fun _ _ => rfl, hK _ ?_⟩); clear hK K)
            | (refine Sch.tn_chk _ _ _ rfl rfl rfl rfl rfl ?_; simp only [Act.put, List.setIfInBounds_toArray, List.set_cons_zero, List.set_cons_succ])
            | (refine Sch.tn_load _ _ _ _ _ rfl rfl rfl rfl (by first | exact Vr.ln) rfl ?_; simp only [Act.put, List.setIfInBounds_toArray, List.set_cons_zero, List.set_cons_succ])
            | (refine Sch.tn_s _ rfl rfl rfl ?_; simp only [Act.put, List.setIfInBounds_toArray, List.set_cons_zero, List.set_cons_succ])
            | (refine Sch.tn_se _ rfl rfl rfl ?_; simp only [Act.put, List.setIfInBounds_toArray, List.set_cons_zero, List.set_cons_succ]))
          refine Sch.tn_n ?_
          go_wp2_with fail
          go_roundw
          case rel => exact ⟨1, by omega, by go_num, HB, HVq, fun j hj hjk => by omega⟩
          case measure => simp [intOf]; omega
        · have hlt0 : k < l.length := by omega
          have hi3 : (0 : Int) < (k : Int) + 1 := by omega
          have hg : decide ((0 : Int) < (k : Int) + 1) = true := by rw [decide_eq_true_eq]; exact hi3
          obtain ⟨b2, o2, e2, hnb⟩ := na_of (HX.out.keep hh.out) k hlt0
          cases e2
          obtain ⟨p, hp⟩ : ∃ p, p = l[k] := ⟨_, rfl⟩
          rw [← hp] at hnb
          have HP := Lib.hid hp
          clear hp
          have hwr := wrap_nat (show (k : Int) ≤ 140737488355328 by omega)
          have hix := ixS b1 o1 l.length c k (k : Int) rfl hlt0
          have hix2 := ixS b1 o1 l.length c (k + 1) ((k : Int) + 1) (by omega) hlt
          have HK : Hid (Vr b1 (o1 + (k + 1) * 6) (o1 + k * 6) q p wr.drew) := ⟨HK0.out.1, hnb.keep (Below.refl _ _).drew⟩
          have HC := Lib.hid (fun w => before_ref p.1 q.1 w)
          clear HK0 hnb
          obtain ⟨t, ht⟩ : ∃ t, t = less p.1 q.1 := ⟨_, rfl⟩
          rw [← ht] at HC
          have HT := Lib.hid ht
          clear ht
          obtain ⟨⟨q1, q2⟩, ⟨q3, q4⟩, q5, q6⟩ := q
          go_wp2_with fail
          refine Sch.wp_region_tn (Vr b1 (o1 + (k + 1) * 6) (o1 + k * 6) ((q1, q2), (q3, q4), q5, q6) p) (.val 0 (.val 1 (.val 2 (.val 3 (.one 4 (.val 5 (.val 6 (.val 7 (.val 8 (.val 9 (.val 10 (.val 11 (.val 12 (.val 13 (.val 14 (.val 15 (.val 16 (.val 17 (.val 18 (.val 19 (.val 20 (.one 21 (.val 22 (.val 23 (.val 24 .done))))))))))))))))))))))))) (by kernel_rfl) (by kernel_rfl) HK.out ?_
          repeat (first
            | (refine Sch.tn_q rfl rfl rfl (fun K hK => ?_); go_big_quiet_op; (first | refine hK _ ?_ | refine ⟨_, fun _ _ => rfl, hK _ ?_⟩); clear hK K)
            | (refine Sch.tn_chk _ _ _ rfl rfl rfl rfl rfl ?_; simp only [Act.put, List.setIfInBounds_toArray, List.set_cons_zero, List.set_cons_succ])
            | (refine Sch.tn_load _ _ _ _ _ rfl rfl rfl rfl (by first | exact Vr.ln | exact Vr.ld | exact Vr.lm) rfl ?_; simp only [Act.put, List.setIfInBounds_toArray, List.set_cons_zero, List.set_cons_succ]))
          generalize wr.drew = w2 at *
          refine Sch.tn_e rfl rfl (fun K hK => ?_)
          go_wp2_with fail
          refine (HG.out _).mono ?_
          rintro e w3 ⟨rfl, hb⟩
          have HB := bel_tr HB0 hb
          replace HK := Lib.hid (HK.out.keep hb)
          clear hb
          refine hK _ _ HK.out ?_
          clear hK K
          repeat (first
            | (refine Sch.tn_q rfl rfl rfl (fun K hK => ?_); go_big_quiet_op; (first | refine hK _ ?_ | refine ⟨_, fun _ _ => rfl, hK _ ?_⟩); clear hK K)
            | (refine Sch.tn_chk _ _ _ rfl rfl rfl rfl rfl ?_; simp only [Act.put, List.setIfInBounds_toArray, List.set_cons_zero, List.set_cons_succ])
            | (refine Sch.tn_load _ _ _ _ _ rfl rfl rfl rfl (by first | exact Vr.ln | exact Vr.ld | exact Vr.lm) rfl ?_; simp only [Act.put, List.setIfInBounds_toArray, List.set_cons_zero, List.set_cons_succ])
            | (refine Sch.tn_s _ rfl rfl rfl ?_; simp only [Act.put, List.setIfInBounds_toArray, List.set_cons_zero, List.set_cons_succ])
            | (refine Sch.tn_se _ rfl rfl rfl ?_; simp only [Act.put, List.setIfInBounds_toArray, List.set_cons_zero, List.set_cons_succ]))
          refine Sch.tn_e rfl rfl (fun K hK => ?_)
          go_wp2_with fail
          refine (HC.out _).mono ?_
          rintro e w4 ⟨rfl, hl⟩
          have hb := hl.bel
          clear hl
          replace HB := bel_tr HB hb
          replace HK := Lib.hid (HK.out.keep hb)
          clear hb
          refine hK _ _ HK.out ?_
          clear hK K
          rcases t with _ | _
          · have HN : Hid (validS l = false) := validS_no2 k hlt (by rw [← HP.out, ← HQ.out]; exact HT.out.symm)
            repeat (first
              | (refine Sch.tn_q rfl rfl rfl (fun K hK => ?_); go_big_quiet_op; (first | refine hK _ ?_ | refine ⟨_, fun _ _ => rfl, hK _ ?_⟩); clear hK K)
              | (refine Sch.tn_chk _ _ _ rfl rfl rfl rfl rfl ?_; simp only [Act.put, List.setIfInBounds_toArray, List.set_cons_zero, List.set_cons_succ])
              | (refine Sch.tn_load _ _ _ _ _ rfl rfl rfl rfl (by first | exact Vr.ln | exact Vr.ld | exact Vr.lm) rfl ?_; simp only [Act.put, List.setIfInBounds_toArray, List.set_cons_zero, List.set_cons_succ])
              | (refine Sch.tn_s _ rfl rfl rfl ?_; simp only [Act.put, List.setIfInBounds_toArray, List.set_cons_zero, List.set_cons_succ])
              | (refine Sch.tn_se _ rfl rfl rfl ?_; simp only [Act.put, List.setIfInBounds_toArray, List.set_cons_zero, List.set_cons_succ]))
            refine Sch.tn_n ?_
            go_wp2_with fail
            go_ret
            exact ⟨by rw [HN.out]; rfl, HB.out⟩
          · skip
            repeat (first
              | (refine Sch.tn_q rfl rfl rfl (fun K hK => ?_); go_big_quiet_op; (first | refine hK _ ?_ | refine ⟨_, fun _ _ => rfl, hK _ ?_⟩); clear hK K)
              | (refine Sch.tn_chk _ _ _ rfl rfl rfl rfl rfl ?_; simp only [Act.put, List.setIfInBounds_toArray, List.set_cons_zero, List.set_cons_succ])
              | (refine Sch.tn_load _ _ _ _ _ rfl rfl rfl rfl (by first | exact Vr.ln | exact Vr.ld | exact Vr.lm) rfl ?_; simp only [Act.put, List.setIfInBounds_toArray, List.set_cons_zero, List.set_cons_succ])
              | (refine Sch.tn_s _ rfl rfl rfl ?_; simp only [Act.put, List.setIfInBounds_toArray, List.set_cons_zero, List.set_cons_succ])
              | (refine Sch.tn_se _ rfl rfl rfl ?_; simp only [Act.put, List.setIfInBounds_toArray, List.set_cons_zero, List.set_cons_succ]))
            refine Sch.tn_n ?_
            go_wp2_with fail
            go_roundw
            case rel =>
              refine ⟨k + 2, by omega, by go_num, HB, HVq, fun j hj hjk => ?_⟩
              by_cases hjk2 : j = k
              · subst hjk2; rw [← HP.out, ← HQ.out]; exact HT.out.symm
              · exact HI.out j hj (by omega)
            case measure => simp [intOf]; omega
    · have HN : Hid (validS l = true) := validS_at (fun j hj => HV.out j hj (by omega)) (fun j hj => HI.out j hj (by omega))
      have hend : ¬ (k : Int) < (l.length : Int) := by omega
      go_wp2_with fail
      go_ret
      exact ⟨by rw [HN.out]; rfl, hh.out⟩

theorem eqlD_yes (p : Dt) : ∀ w, Sem.run Try.prog (binOp .eql 36 (.agg #[.int .i64 p.1, .int .i64 p.2]) (.agg #[.int .i64 p.1, .int .i64 p.2])) w = .ok (.bool true) w := fun w => by
  have := eql_dot p p w
  rwa [decide_eq_true rfl] at this
set_option maxRecDepth 100000 in
set_option maxHeartbeats 1000000 in
theorem same_ref (xs ys : List Nt) (a b : Option Addr) (c d : Nat) (w : World) (hx : RowN w a xs) (hy : RowN w b ys) (hlx : xs.length ≤ 1000000) (hly : ys.length ≤ 1000000) :
    Calls Try.prog 15 #[.slice a xs.length c, .slice b ys.length d] w fun e w' => e = .returned (.bool (decide (xs = ys))) ∧ Below w.heap.size w w' := by
  have HX := Lib.hid hx
  have HY := Lib.hid hy
  have hli : (xs.length : Int) ≤ 1000000 := by omega
  clear hx hy hlx hly
  by_cases hl : xs.length = ys.length
  · have q0 : ((xs.length : Int) != (ys.length : Int)) = false := by rw [bne_eq_false_iff_eq]; omega
    go_enter Try.func15, Try.ntmps15
    go_wp2_with fail
    go_loopw [5] (fun i wr => ∃ k : Nat, k ≤ xs.length ∧ i = .int .i64 k ∧ Hid (Below w.heap.size w wr) ∧ Hid (∀ j (hj : j < xs.length) (hj2 : j < ys.length), j < k → xs[j] = ys[j])) (fun i _ => xs.length - (intOf i).toNat)
    case atStart => exact ⟨0, Nat.zero_le _, rfl, Below.refl _ _, fun j _ _ h => by omega⟩
    case round =>
      obtain ⟨k, hk, rfl, hh, HV⟩ := hrel
      by_cases hlt : k < xs.length
      · have hlt2 : k < ys.length := by omega
        obtain ⟨b1, o1, rfl, p0, p1, p2, p3, p4, p5⟩ := (HX.out.keep hh.out).get k hlt
        obtain ⟨b2, o2, rfl, q0, q1, q2, q3, q4, q5⟩ := (HY.out.keep hh.out).get k hlt2
        obtain ⟨p, hp⟩ : ∃ p, p = xs[k] := ⟨_, rfl⟩
        obtain ⟨q, hq⟩ : ∃ q, q = ys[k] := ⟨_, rfl⟩
        rw [← hp] at p0 p1 p2 p3 p4 p5
        rw [← hq] at q0 q1 q2 q3 q4 q5
        have HP := Lib.hid hp
        have HQ := Lib.hid hq
        clear hp hq
        by_cases hpq : p = q
        · subst hpq
          have hne := neqN_no p
          go_wp2_with fail
          go_quiet (fail)
          go_wp2_with fail
          go_roundw
          case rel =>
            refine ⟨k + 1, by omega, by go_num, bel_drewN hh.out _, fun j hj hj2 hjk => ?_⟩
            by_cases hjk2 : j = k
            · subst hjk2; rw [← HP.out, ← HQ.out]
            · exact HV.out j hj hj2 (by omega)
          case measure => simp [intOf]; omega
        · have hne := neqN_yes hpq
          have HN : Hid (decide (xs = ys) = false) := by
            show _ = _
            rw [decide_eq_false_iff_not]
            rintro rfl
            exact hpq (by rw [HP.out, HQ.out])
          clear hpq
          go_wp2_with fail
          go_quiet (fail)
          go_wp2_with fail
          go_ret
          exact ⟨by rw [HN.out]; rfl, bel_drewN hh.out _⟩
      · obtain rfl : k = xs.length := by omega
        have HN : Hid (decide (xs = ys) = true) := by
          show _ = _
          rw [decide_eq_true_eq]
          exact List.ext_getElem hl fun j hj hj2 => HV.out j hj hj2 hj
        have hend : ¬ (xs.length : Int) < (xs.length : Int) := by omega
        go_wp2_with fail
        go_ret
        exact ⟨by rw [HN.out]; rfl, hh.out⟩
  · have q0 : ((xs.length : Int) != (ys.length : Int)) = true := by rw [bne_iff_ne]; omega
    have HN : Hid (decide (xs = ys) = false) := by
      show _ = _
      rw [decide_eq_false_iff_not]
      rintro rfl
      exact hl rfl
    go_enter Try.func15, Try.ntmps15
    go_wp2_with fail
    go_ret
    exact ⟨by rw [HN.out]; rfl, Below.refl _ _⟩


end Go.Proofs.Ytfmlenhakejefaa.Jn
end
