/-
  Trees of entries: one entry more, one entry less.
-/
import Derived.Test.YtmmcnpcijeahcaaTAt
namespace Go.Proofs.Ytmmcnpcijeahcaa.Jt
set_option linter.unusedVariables false
open Go.RowKit V

theorem take_lt {l m : List Pr} {p : Pr} {n : Nat} (h : n ≤ l.length) : (l ++ p :: m).take n = l.take n := by rw [List.take_append_of_le_length h]
theorem drop_lt {l m : List Pr} {p : Pr} {n : Nat} (h : n ≤ l.length) : (l ++ p :: m).drop n = l.drop n ++ p :: m := by rw [List.drop_append_of_le_length h]
theorem take_gt {l m : List Pr} {p : Pr} {n : Nat} : (l ++ p :: m).take (l.length + 1 + n) = l ++ p :: m.take n := by
  rw [List.take_append, List.take_of_length_le (by omega), show l.length + 1 + n - l.length = n + 1 by omega, List.take_succ_cons]
theorem drop_gt {l m : List Pr} {p : Pr} {n : Nat} : (l ++ p :: m).drop (l.length + 1 + n) = m.drop n := by
  rw [List.drop_append, List.drop_eq_nil_of_le (by omega), show l.length + 1 + n - l.length = n + 1 by omega, List.drop_succ_cons, List.nil_append]
/-- The list with an entry more. -/
def insAt (L : List Pr) (n : Nat) (k : Ky) (v : Sl) : List Pr := L.take n ++ (k, v) :: L.drop n
theorem insAt_len (L : List Pr) (n : Nat) (k : Ky) (v : Sl) : (insAt L n k v).length = L.length + 1 := by
  unfold insAt
  rw [List.length_append, List.length_cons, List.length_take, List.length_drop]
  omega
theorem ins_len {T l : Tr} {n : Nat} {k : Ky} {v : Sl} (h : T.list = insAt l.list n k v) : T.len = l.len + 1 := (congrArg List.length h).trans (insAt_len _ _ _ _)
theorem insAt_lt {l m : List Pr} {p : Pr} {n : Nat} (h : n ≤ l.length) (k : Ky) (v : Sl) : insAt (l ++ p :: m) n k v = insAt l n k v ++ p :: m := by
  unfold insAt
  rw [take_lt h, drop_lt h]
  simp
theorem insAt_gt {l m : List Pr} {p : Pr} {n : Nat} (k : Ky) (v : Sl) : insAt (l ++ p :: m) (l.length + 1 + n) k v = l ++ p :: insAt m n k v := by
  unfold insAt
  rw [take_gt, drop_gt]
  simp

set_option maxRecDepth 100000 in
set_option maxHeartbeats 4000000 in
theorem with_any (t : Tr) : ∀ (n : Nat) (k : Ky) (v : Sl) (w : World), t.In w → t.len < 1000000 → n ≤ t.len →
    Calls Try.prog 52 #[.pointer t.ad, .int .i64 (n : Int), .string k.s, .slice v.a v.n v.c] w fun e w' => Made w e w' (insAt t.list n k v) := by
  induction t with
  | nil =>
    intro n k v w h hs hn
    have hn : n = 0 := by rw [Tr.len_nil] at hn; omega
    subst hn
    simp only [Tr.ad, Tr.list, insAt, List.take_nil, List.drop_nil, List.nil_append]
    clear h hs hn
    go_enter Try.func52, Try.ntmps52
    go_wp2_with fail
    go_ret
    exact ⟨_, k, v, .nil, .nil, rfl, ⟨nd_new w k v none none _ _ (by rfl) _, trivial, trivial⟩, rfl, bel_box _ _⟩
  | node b bk bv l r ihl ihr =>
    intro n k v w h hs hn
    have HS : Hid ((Tr.node b bk bv l r).In w) := h
    rw [Tr.len_node] at hs hn
    have HL := Lib.hid (fun (w : World) (h : (Tr.node b bk bv l r).In w) => len_any l w h.2.1)
    have k2 := h.1.2.2.1
    have L1 : ∀ w, (Tr.node b bk bv l r).In w → _ := fun w h => nd_l (w := w) h.1
    have L2 : ∀ w, (Tr.node b bk bv l r).In w → _ := fun w h => nd_r (w := w) h.1
    have M1 := Lib.hid L1
    have M2 := Lib.hid L2
    have hl : (l.len : Int) ≤ 1000000 := by omega
    have hn1 : (n : Int) ≤ 1000000 := by omega
    rw [Tr.ad_node]
    by_cases hlt : n ≤ l.len
    · have HW := Lib.hid (fun (w : World) (h : (Tr.node b bk bv l r).In w) => ihl n k v w h.2.1 (by omega) hlt)
      have OV := Lib.hid (fun (T : Tr) (w : World) (h : (Tr.node b bk bv l r).In w) (hT : T.In w) (he : T.list = insAt l.list n k v) => over_any b bk bv _ _ T r w h hT h.2.2 (by have e2 := ins_len he; omega))
      have BA := Lib.hid (fun (c : Nat) (T : Tr) (w : World) (h : (Tr.node c bk bv T r).In w) (he : T.list = insAt l.list n k v) => balanced_any c bk bv T r w h (by have e2 := ins_len he; rw [Tr.len_node]; omega))
      have HE : Hid (insAt (Tr.node b bk bv l r).list n k v = insAt l.list n k v ++ (bk, bv) :: r.list) := insAt_lt hlt k v
      generalize insAt (Tr.node b bk bv l r).list n k v = R at *
      have hc : (n : Int) ≤ (l.len : Int) := by omega
      have HB : Hid (Below w.heap.size w w.drew) := (Below.refl _ w).drew
      clear h hs hn L1 L2 hlt ihl ihr
      go_enter Try.func52, Try.ntmps52
      go_wp2_with fail
      refine (HL.out _ HS.out).mono ?_
      rintro e w' ⟨rfl, rfl⟩
      go_wp2_with fail
      refine Sch.wp_region_tn ((Tr.node b bk bv l r).In) (.val 0 (.val 1 (.val 2 (.val 3 (.val 4 (.val 5 (.val 6 (.val 7 (.val 9 (.val 10 (.val 11 (.val 12 (.one 8 (.one 13 (.one 14 (.val 15 .done)))))))))))))))) (by kernel_rfl) (by kernel_rfl) HS.out.drew ?_
      repeat (first
        | (refine Sch.tn_q rfl rfl rfl (fun K hK => ?_); go_big_quiet_op; (first | refine hK _ ?_ | refine ⟨_, fun _ _ => rfl, hK _ ?_⟩); clear hK K)
        | (refine Sch.tn_chk _ _ _ rfl rfl rfl rfl rfl ?_; simp only [Act.put, List.setIfInBounds_toArray, List.set_cons_zero, List.set_cons_succ])
        | (refine Sch.tn_load _ _ _ _ _ rfl rfl rfl rfl (by first | exact M1.out | exact M2.out) rfl ?_; simp only [Act.put, List.setIfInBounds_toArray, List.set_cons_zero, List.set_cons_succ]))
      clear M1 M2 HL
      replace HS : Hid ((Tr.node b bk bv l r).In w'.drew) := HS.out.drew
      clear k2
      generalize w'.drew = w0 at *
      refine Sch.tn_e rfl rfl (fun K hK => ?_)
      go_wp2_with fail
      refine (HW.out _ HS.out).mono ?_
      rintro e w1 ⟨c, ck, cv, cl, cr, rfl, hi, he, hb⟩
      have HI := Lib.hid hi
      have HC := Lib.hid he
      replace HB : Hid (Below w'.heap.size w' w1) := bel_tr HB.out hb
      replace HS : Hid ((Tr.node b bk bv l r).In w1) := HS.out.keep hb
      clear hi he hb HW
      refine hK _ _ HS.out ?_
      clear hK K
      have OW := Lib.hid (OV.out _ _ HS.out HI.out HC.out)
      rw [Tr.ad_node] at OW
      refine Sch.tn_e rfl rfl (fun K hK => ?_)
      go_wp2_with fail
      refine OW.out.mono ?_
      rintro e w2 ⟨d, rfl, -, hi, hb⟩
      have HJ := Lib.hid hi
      replace HB : Hid (Below w'.heap.size w' w2) := bel_tr HB.out hb
      replace HS : Hid ((Tr.node b bk bv l r).In w2) := HS.out.keep hb
      clear hi hb OV OW
      refine hK _ _ HS.out ?_
      clear hK K
      refine Sch.tn_e rfl rfl (fun K hK => ?_)
      go_wp2_with fail
      refine (BA.out _ _ _ HJ.out HC.out).mono ?_
      rintro e w3 hm
      have hb := hm.below
      replace HS : Hid ((Tr.node b bk bv l r).In w3) := HS.out.keep hb
      obtain ⟨c', k', v', l', r', rfl, hi, he, hb⟩ := Made.trans HB.out hm
      have HI2 := Lib.hid hi
      have HL2 := Lib.hid he
      have HB4 := Lib.hid hb
      clear hm hi he hb
      refine hK _ _ HS.out ?_
      clear hK K
      repeat (first
        | (refine Sch.tn_q rfl rfl rfl (fun K hK => ?_); go_big_quiet_op; (first | refine hK _ ?_ | refine ⟨_, fun _ _ => rfl, hK _ ?_⟩); clear hK K)
        | (refine Sch.tn_chk _ _ _ rfl rfl rfl rfl rfl ?_; simp only [Act.put, List.setIfInBounds_toArray, List.set_cons_zero, List.set_cons_succ]))
      refine Sch.tn_n ?_
      go_wp2_with fail
      go_ret
      refine ⟨_, _, _, _, _, rfl, HI2.out, ?_, HB4.out⟩
      have e2 := HC.out
      rw [HL2.out, list_node d, e2, HE.out]
    · obtain ⟨m, rfl⟩ : ∃ m, n = l.len + 1 + m := ⟨n - (l.len + 1), by omega⟩
      have HW := Lib.hid (fun (w : World) (h : (Tr.node b bk bv l r).In w) => ihr m k v w h.2.2 (by omega) (by omega))
      have OV := Lib.hid (fun (T : Tr) (w : World) (h : (Tr.node b bk bv l r).In w) (hT : T.In w) (he : T.list = insAt r.list m k v) => over_any b bk bv _ _ l T w h h.2.1 hT (by have e2 := ins_len he; omega))
      have BA := Lib.hid (fun (c : Nat) (T : Tr) (w : World) (h : (Tr.node c bk bv l T).In w) (he : T.list = insAt r.list m k v) => balanced_any c bk bv l T w h (by have e2 := ins_len he; rw [Tr.len_node]; omega))
      have HE : Hid (insAt (Tr.node b bk bv l r).list (l.len + 1 + m) k v = l.list ++ (bk, bv) :: insAt r.list m k v) := insAt_gt k v
      generalize insAt (Tr.node b bk bv l r).list (l.len + 1 + m) k v = R at *
      have HB : Hid (Below w.heap.size w w.drew) := (Below.refl _ w).drew
      have hz : ((l.len + 1 + m : Nat) : Int) - (l.len : Int) - 1 = (m : Int) := by omega
      have hz2 : (l.len : Int) < ((l.len + 1 + m : Nat) : Int) := by omega
      obtain ⟨N, hN⟩ : ∃ N : Int, N = ((l.len + 1 + m : Nat) : Int) := ⟨_, rfl⟩
      rw [← hN] at hz hz2 hn1 ⊢
      clear h hs hn L1 L2 hlt ihl ihr hN
      go_enter Try.func52, Try.ntmps52
      go_wp2_with fail
      refine (HL.out _ HS.out).mono ?_
      rintro e w' ⟨rfl, rfl⟩
      go_wp2_with fail
      refine Sch.wp_region_tn ((Tr.node b bk bv l r).In) (.val 0 (.val 1 (.val 2 (.val 3 (.val 4 (.val 5 (.val 6 (.val 7 (.val 8 (.val 9 (.val 10 (.val 11 (.val 12 (.val 13 (.val 17 (.val 18 (.one 14 (.val 15 (.val 16 (.one 19 (.one 20 (.one 21 (.val 22 .done))))))))))))))))))))))) (by kernel_rfl) (by kernel_rfl) HS.out.drew ?_
      repeat (first
        | (refine Sch.tn_q rfl rfl rfl (fun K hK => ?_); go_big_quiet_op; (first | refine hK _ ?_ | refine ⟨_, fun _ _ => rfl, hK _ ?_⟩); clear hK K)
        | (refine Sch.tn_chk _ _ _ rfl rfl rfl rfl rfl ?_; simp only [Act.put, List.setIfInBounds_toArray, List.set_cons_zero, List.set_cons_succ])
        | (refine Sch.tn_load _ _ _ _ _ rfl rfl rfl rfl (by first | exact M1.out | exact M2.out) rfl ?_; simp only [Act.put, List.setIfInBounds_toArray, List.set_cons_zero, List.set_cons_succ]))
      clear M1 M2
      replace HS : Hid ((Tr.node b bk bv l r).In w'.drew) := HS.out.drew
      clear k2
      generalize w'.drew = w0 at *
      refine Sch.tn_e rfl rfl (fun K hK => ?_)
      go_wp2_with fail
      refine (HL.out _ HS.out).mono ?_
      rintro e w1 ⟨rfl, rfl⟩
      refine hK _ _ HS.out ?_
      clear hK K
      repeat (first
        | (refine Sch.tn_q rfl rfl rfl (fun K hK => ?_); go_big_quiet_op; (first | refine hK _ ?_ | refine ⟨_, fun _ _ => rfl, hK _ ?_⟩); clear hK K)
        | (refine Sch.tn_chk _ _ _ rfl rfl rfl rfl rfl ?_; simp only [Act.put, List.setIfInBounds_toArray, List.set_cons_zero, List.set_cons_succ]))
      try rw [hz]
      refine Sch.tn_e rfl rfl (fun K hK => ?_)
      go_wp2_with fail
      refine (HW.out _ HS.out).mono ?_
      rintro e w1 ⟨c, ck, cv, cl, cr, rfl, hi, he, hb⟩
      have HI := Lib.hid hi
      have HC := Lib.hid he
      replace HB : Hid (Below w'.heap.size w' w1) := bel_tr HB.out hb
      replace HS : Hid ((Tr.node b bk bv l r).In w1) := HS.out.keep hb
      clear hi he hb HW
      refine hK _ _ HS.out ?_
      clear hK K
      have OW := Lib.hid (OV.out _ _ HS.out HI.out HC.out)
      rw [Tr.ad_node] at OW
      refine Sch.tn_e rfl rfl (fun K hK => ?_)
      go_wp2_with fail
      refine OW.out.mono ?_
      rintro e w2 ⟨d, rfl, -, hi, hb⟩
      have HJ := Lib.hid hi
      replace HB : Hid (Below w'.heap.size w' w2) := bel_tr HB.out hb
      replace HS : Hid ((Tr.node b bk bv l r).In w2) := HS.out.keep hb
      clear hi hb OV OW
      refine hK _ _ HS.out ?_
      clear hK K
      refine Sch.tn_e rfl rfl (fun K hK => ?_)
      go_wp2_with fail
      refine (BA.out _ _ _ HJ.out HC.out).mono ?_
      rintro e w3 hm
      have hb := hm.below
      replace HS : Hid ((Tr.node b bk bv l r).In w3) := HS.out.keep hb
      obtain ⟨c', k', v', l', r', rfl, hi, he, hb⟩ := Made.trans HB.out hm
      have HI2 := Lib.hid hi
      have HL2 := Lib.hid he
      have HB4 := Lib.hid hb
      clear hm hi he hb
      refine hK _ _ HS.out ?_
      clear hK K
      repeat (first
        | (refine Sch.tn_q rfl rfl rfl (fun K hK => ?_); go_big_quiet_op; (first | refine hK _ ?_ | refine ⟨_, fun _ _ => rfl, hK _ ?_⟩); clear hK K)
        | (refine Sch.tn_chk _ _ _ rfl rfl rfl rfl rfl ?_; simp only [Act.put, List.setIfInBounds_toArray, List.set_cons_zero, List.set_cons_succ]))
      refine Sch.tn_n ?_
      go_wp2_with fail
      go_ret
      refine ⟨_, _, _, _, _, rfl, HI2.out, ?_, HB4.out⟩
      have e2 := HC.out
      rw [HL2.out, list_node d, e2, HE.out]
end Go.Proofs.Ytmmcnpcijeahcaa.Jt
