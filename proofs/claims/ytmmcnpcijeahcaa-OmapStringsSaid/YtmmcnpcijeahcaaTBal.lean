/-
  Trees of entries: balanced.
-/
import Derived.Test.YtmmcnpcijeahcaaTTree
namespace Go.Proofs.Ytmmcnpcijeahcaa.Jt
set_option linter.unusedVariables false
open Go.RowKit V

theorem Made.trans {w w1 w2 : World} {e : Ending} {L : List Pr} (h : Below w.heap.size w w1) (k : Made w1 e w2 L) : Made w e w2 L := by
  obtain ⟨b, k1, v, l, r, he, hi, hl, hb⟩ := k
  exact ⟨b, k1, v, l, r, he, hi, hl, bel_tr h hb⟩
theorem Made.below {w w1 : World} {e : Ending} {L : List Pr} (h : Made w e w1 L) : Below w.heap.size w w1 := by
  obtain ⟨b, k1, v, l, r, he, hi, hl, hb⟩ := h
  exact hb
theorem len_eq {t u : Tr} (h : t.list = u.list) : t.len = u.len := congrArg List.length h
theorem list_node (b : Nat) (k : Ky) (v : Sl) (l r : Tr) : (Tr.node b k v l r).list = l.list ++ (k, v) :: r.list := rfl
theorem node_of_len {t : Tr} (h : 0 < t.len) : ∃ b k v l r, t = .node b k v l r := by
  cases t with
  | nil => simp [Tr.len_nil] at h
  | node b k v l r => exact ⟨_, _, _, _, _, rfl⟩

set_option maxRecDepth 100000 in
set_option maxHeartbeats 2000000 in
theorem bal_no (b : Nat) (k : Ky) (v : Sl) (l r : Tr) (w : World) (h : (Tr.node b k v l r).In w) (hs : (Tr.node b k v l r).len ≤ 1000000) (h1 : ¬ 3 * ((l.len : Int) + 1) < (r.len : Int) + 1) (h2 : ¬ 3 * ((r.len : Int) + 1) < (l.len : Int) + 1) :
    Calls Try.prog 74 #[.pointer (some ⟨b, 0, none⟩)] w fun e w' => Made w e w' (Tr.node b k v l r).list := by
  have HT : Hid ((Tr.node b k v l r).len ≤ 1000000) := hs
  rw [Tr.len_node] at hs
  have HS : Hid ((Tr.node b k v l r).In w.drew) := h.drew
  have HB : Hid (Below w.heap.size w w.drew) := (Below.refl _ w).drew
  have L1 : ∀ w, (Tr.node b k v l r).In w → _ := fun w h => nd_l (w := w) h.1
  have L2 : ∀ w, (Tr.node b k v l r).In w → _ := fun w h => nd_r (w := w) h.1
  have WL := Lib.hid (fun (w : World) (h : (Tr.node b k v l r).In w) => weight_any l w h.2.1 (by omega))
  have WR := Lib.hid (fun (w : World) (h : (Tr.node b k v l r).In w) => weight_any r w h.2.2 (by omega))
  have s1 : ((l).len : Int) ≤ 1000000 := by omega
  have s2 : ((r).len : Int) ≤ 1000000 := by omega
  have M1 := Lib.hid L1
  have M2 := Lib.hid L2
  clear h hs L1 L2
  go_enter Try.func74, Try.ntmps74
  go_wp2_with fail
  refine Sch.wp_region_tn ((Tr.node b k v l r).In) (.val 0 (.val 1 (.val 2 (.val 3 (.val 4 (.val 5 (.val 6 (.val 7 (.val 8 (.val 9 .done)))))))))) (by kernel_rfl) (by kernel_rfl) HS.out ?_
  repeat (first
    | (refine Sch.tn_q rfl rfl rfl (fun K hK => ?_); go_big_quiet_op; (first | refine hK _ ?_ | refine ⟨_, fun _ _ => rfl, hK _ ?_⟩); clear hK K)
    | (refine Sch.tn_chk _ _ _ rfl rfl rfl rfl rfl ?_; simp only [Act.put, List.setIfInBounds_toArray, List.set_cons_zero, List.set_cons_succ])
    | (refine Sch.tn_load _ _ _ _ _ rfl rfl rfl rfl (by first | exact M1.out | exact M2.out) rfl ?_; simp only [Act.put, List.setIfInBounds_toArray, List.set_cons_zero, List.set_cons_succ]))
  clear M1 M2
  generalize w.drew = w0 at *
  refine Sch.tn_n ?_
  go_wp2_with fail
  refine (WR.out _ HS.out).mono ?_
  rintro e w1 ⟨rfl, rfl⟩
  go_wp2_with fail
  refine (WL.out _ HS.out).mono ?_
  rintro e w1 ⟨rfl, rfl⟩
  go_wp2_with fail
  refine (WL.out _ HS.out).mono ?_
  rintro e w1 ⟨rfl, rfl⟩
  go_wp2_with fail
  refine (WR.out _ HS.out).mono ?_
  rintro e w1 ⟨rfl, rfl⟩
  go_wp2_with fail
  go_ret
  exact ⟨b, k, v, l, r, rfl, HS.out, rfl, HB.out⟩
set_option maxRecDepth 100000 in
set_option maxHeartbeats 2000000 in
theorem bal_r2 (b : Nat) (k : Ky) (v : Sl) (b2 : Nat) (k2 : Ky) (v2 : Sl) (l2 r2 l : Tr) (w : World) (h : (Tr.node b k v l (Tr.node b2 k2 v2 l2 r2)).In w) (hs : (Tr.node b k v l (Tr.node b2 k2 v2 l2 r2)).len ≤ 1000000) (h1 : 3 * ((l.len : Int) + 1) < ((Tr.node b2 k2 v2 l2 r2).len : Int) + 1) (h2 : ¬ 2 * ((r2.len : Int) + 1) ≤ (l2.len : Int) + 1) :
    Calls Try.prog 74 #[.pointer (some ⟨b, 0, none⟩)] w fun e w' => Made w e w' (Tr.node b k v l (Tr.node b2 k2 v2 l2 r2)).list := by
  have HT : Hid ((Tr.node b k v l (Tr.node b2 k2 v2 l2 r2)).len ≤ 1000000) := hs
  rw [Tr.len_node] at hs
  have HS : Hid ((Tr.node b k v l (Tr.node b2 k2 v2 l2 r2)).In w.drew) := h.drew
  have HB : Hid (Below w.heap.size w w.drew) := (Below.refl _ w).drew
  have L1 : ∀ w, (Tr.node b k v l (Tr.node b2 k2 v2 l2 r2)).In w → _ := fun w h => nd_l (w := w) h.1
  have L2 : ∀ w, (Tr.node b k v l (Tr.node b2 k2 v2 l2 r2)).In w → _ := fun w h => nd_r (w := w) h.1
  have WL := Lib.hid (fun (w : World) (h : (Tr.node b k v l (Tr.node b2 k2 v2 l2 r2)).In w) => weight_any l w h.2.1 (by omega))
  have WR := Lib.hid (fun (w : World) (h : (Tr.node b k v l (Tr.node b2 k2 v2 l2 r2)).In w) => weight_any (Tr.node b2 k2 v2 l2 r2) w h.2.2 (by omega))
  have s1 : ((l).len : Int) ≤ 1000000 := by omega
  have s2 : (((Tr.node b2 k2 v2 l2 r2)).len : Int) ≤ 1000000 := by omega
  have s3 : (l2.len : Int) ≤ 1000000 := by rw [Tr.len_node] at s2; omega
  have s4 : (r2.len : Int) ≤ 1000000 := by rw [Tr.len_node] at s2; omega
  have L3 : ∀ w, (Tr.node b k v l (Tr.node b2 k2 v2 l2 r2)).In w → _ := fun w h => nd_l (w := w) h.2.2.1
  have L4 : ∀ w, (Tr.node b k v l (Tr.node b2 k2 v2 l2 r2)).In w → _ := fun w h => nd_r (w := w) h.2.2.1
  have WI := Lib.hid (fun (w : World) (h : (Tr.node b k v l (Tr.node b2 k2 v2 l2 r2)).In w) => weight_any l2 w h.2.2.2.1 (by omega))
  have WO := Lib.hid (fun (w : World) (h : (Tr.node b k v l (Tr.node b2 k2 v2 l2 r2)).In w) => weight_any r2 w h.2.2.2.2 (by omega))
  have RU := Lib.hid (fun (w : World) (h : (Tr.node b k v l (Tr.node b2 k2 v2 l2 r2)).In w) => rightUp_any b k v b2 k2 v2 l l2 r2 w h HT.out)
  try simp only [Tr.ad_node] at WL
  try simp only [Tr.ad_node] at WR
  try simp only [Tr.ad_node] at L1
  try simp only [Tr.ad_node] at L2
  try simp only [Tr.ad_node] at L3
  try simp only [Tr.ad_node] at L4
  try simp only [Tr.ad_node] at WI
  have M3 := Lib.hid L3
  have M4 := Lib.hid L4
  clear L3 L4
  have M1 := Lib.hid L1
  have M2 := Lib.hid L2
  clear h hs L1 L2
  go_enter Try.func74, Try.ntmps74
  go_wp2_with fail
  refine Sch.wp_region_tn ((Tr.node b k v l (Tr.node b2 k2 v2 l2 r2)).In) (.val 0 (.val 1 (.val 2 (.val 3 (.val 4 (.val 5 (.val 6 (.val 7 (.val 8 (.val 9 .done)))))))))) (by kernel_rfl) (by kernel_rfl) HS.out ?_
  repeat (first
    | (refine Sch.tn_q rfl rfl rfl (fun K hK => ?_); go_big_quiet_op; (first | refine hK _ ?_ | refine ⟨_, fun _ _ => rfl, hK _ ?_⟩); clear hK K)
    | (refine Sch.tn_chk _ _ _ rfl rfl rfl rfl rfl ?_; simp only [Act.put, List.setIfInBounds_toArray, List.set_cons_zero, List.set_cons_succ])
    | (refine Sch.tn_load _ _ _ _ _ rfl rfl rfl rfl (by first | exact M1.out | exact M2.out) rfl ?_; simp only [Act.put, List.setIfInBounds_toArray, List.set_cons_zero, List.set_cons_succ]))
  clear M1 M2
  generalize w.drew = w0 at *
  refine Sch.tn_n ?_
  go_wp2_with fail
  refine (WR.out _ HS.out).mono ?_
  rintro e w1 ⟨rfl, rfl⟩
  go_wp2_with fail
  refine (WL.out _ HS.out).mono ?_
  rintro e w1 ⟨rfl, rfl⟩
  go_wp2_with fail
  clear WL WR
  refine Sch.wp_region_tn ((Tr.node b k v l (Tr.node b2 k2 v2 l2 r2)).In) (.val 0 (.val 1 (.val 2 (.val 3 (.val 5 (.val 6 (.val 7 (.val 8 (.one 4 (.one 9 (.val 10 (.val 11 .done)))))))))))) (by kernel_rfl) (by kernel_rfl) HS.out.drew ?_
  repeat (first
    | (refine Sch.tn_q rfl rfl rfl (fun K hK => ?_); go_big_quiet_op; (first | refine hK _ ?_ | refine ⟨_, fun _ _ => rfl, hK _ ?_⟩); clear hK K)
    | (refine Sch.tn_chk _ _ _ rfl rfl rfl rfl rfl ?_; simp only [Act.put, List.setIfInBounds_toArray, List.set_cons_zero, List.set_cons_succ])
    | (refine Sch.tn_load _ _ _ _ _ rfl rfl rfl rfl (by first | exact M3.out | exact M4.out) rfl ?_; simp only [Act.put, List.setIfInBounds_toArray, List.set_cons_zero, List.set_cons_succ]))
  clear M3 M4
  replace HS : Hid ((Tr.node b k v l (Tr.node b2 k2 v2 l2 r2)).In w1.drew) := HS.out.drew
  replace HB : Hid (Below w.heap.size w w1.drew) := HB.out.drew
  generalize w1.drew = w2 at *
  refine Sch.tn_e rfl rfl (fun K hK => ?_)
  go_wp2_with fail
  refine (WI.out _ HS.out).mono ?_
  rintro e w3 ⟨rfl, rfl⟩
  refine hK _ _ HS.out ?_
  clear hK K
  refine Sch.tn_e rfl rfl (fun K hK => ?_)
  go_wp2_with fail
  refine (WO.out _ HS.out).mono ?_
  rintro e w3 ⟨rfl, rfl⟩
  refine hK _ _ HS.out ?_
  clear hK K
  repeat (first
    | (refine Sch.tn_q rfl rfl rfl (fun K hK => ?_); go_big_quiet_op; (first | refine hK _ ?_ | refine ⟨_, fun _ _ => rfl, hK _ ?_⟩); clear hK K)
    | (refine Sch.tn_chk _ _ _ rfl rfl rfl rfl rfl ?_; simp only [Act.put, List.setIfInBounds_toArray, List.set_cons_zero, List.set_cons_succ]))
  clear WI WO
  refine Sch.tn_n ?_
  go_wp2_with fail
  refine (RU.out _ HS.out).mono ?_
  rintro e w4 hm
  obtain ⟨b', k', v', l', r', rfl, hi, hl, hb⟩ := Made.trans HB.out hm
  have HI := Lib.hid hi
  have HL := Lib.hid hl
  have HB4 := Lib.hid hb
  clear hm hi hl hb
  go_wp2_with fail
  go_ret
  exact ⟨_, _, _, _, _, rfl, HI.out, HL.out, HB4.out⟩
set_option maxRecDepth 100000 in
set_option maxHeartbeats 2000000 in
theorem bal_r1 (b : Nat) (k : Ky) (v : Sl) (b2 : Nat) (k2 : Ky) (v2 : Sl) (b3 : Nat) (k3 : Ky) (v3 : Sl) (l3 r3 r2 l : Tr) (w : World) (h : (Tr.node b k v l (Tr.node b2 k2 v2 (Tr.node b3 k3 v3 l3 r3) r2)).In w) (hs : (Tr.node b k v l (Tr.node b2 k2 v2 (Tr.node b3 k3 v3 l3 r3) r2)).len ≤ 1000000) (h1 : 3 * ((l.len : Int) + 1) < ((Tr.node b2 k2 v2 (Tr.node b3 k3 v3 l3 r3) r2).len : Int) + 1) (h2 : 2 * ((r2.len : Int) + 1) ≤ ((Tr.node b3 k3 v3 l3 r3).len : Int) + 1) :
    Calls Try.prog 74 #[.pointer (some ⟨b, 0, none⟩)] w fun e w' => Made w e w' (Tr.node b k v l (Tr.node b2 k2 v2 (Tr.node b3 k3 v3 l3 r3) r2)).list := by
  have HT : Hid ((Tr.node b k v l (Tr.node b2 k2 v2 (Tr.node b3 k3 v3 l3 r3) r2)).len ≤ 1000000) := hs
  rw [Tr.len_node] at hs
  have HS : Hid ((Tr.node b k v l (Tr.node b2 k2 v2 (Tr.node b3 k3 v3 l3 r3) r2)).In w.drew) := h.drew
  have HB : Hid (Below w.heap.size w w.drew) := (Below.refl _ w).drew
  have L1 : ∀ w, (Tr.node b k v l (Tr.node b2 k2 v2 (Tr.node b3 k3 v3 l3 r3) r2)).In w → _ := fun w h => nd_l (w := w) h.1
  have L2 : ∀ w, (Tr.node b k v l (Tr.node b2 k2 v2 (Tr.node b3 k3 v3 l3 r3) r2)).In w → _ := fun w h => nd_r (w := w) h.1
  have WL := Lib.hid (fun (w : World) (h : (Tr.node b k v l (Tr.node b2 k2 v2 (Tr.node b3 k3 v3 l3 r3) r2)).In w) => weight_any l w h.2.1 (by omega))
  have WR := Lib.hid (fun (w : World) (h : (Tr.node b k v l (Tr.node b2 k2 v2 (Tr.node b3 k3 v3 l3 r3) r2)).In w) => weight_any (Tr.node b2 k2 v2 (Tr.node b3 k3 v3 l3 r3) r2) w h.2.2 (by omega))
  have s1 : ((l).len : Int) ≤ 1000000 := by omega
  have s2 : (((Tr.node b2 k2 v2 (Tr.node b3 k3 v3 l3 r3) r2)).len : Int) ≤ 1000000 := by omega
  have s3 : ((Tr.node b3 k3 v3 l3 r3).len : Int) ≤ 1000000 := by rw [Tr.len_node] at s2; omega
  have s4 : (r2.len : Int) ≤ 1000000 := by rw [Tr.len_node] at s2; omega
  have L3 : ∀ w, (Tr.node b k v l (Tr.node b2 k2 v2 (Tr.node b3 k3 v3 l3 r3) r2)).In w → _ := fun w h => nd_l (w := w) h.2.2.1
  have L4 : ∀ w, (Tr.node b k v l (Tr.node b2 k2 v2 (Tr.node b3 k3 v3 l3 r3) r2)).In w → _ := fun w h => nd_r (w := w) h.2.2.1
  have WI := Lib.hid (fun (w : World) (h : (Tr.node b k v l (Tr.node b2 k2 v2 (Tr.node b3 k3 v3 l3 r3) r2)).In w) => weight_any (Tr.node b3 k3 v3 l3 r3) w h.2.2.2.1 (by omega))
  have WO := Lib.hid (fun (w : World) (h : (Tr.node b k v l (Tr.node b2 k2 v2 (Tr.node b3 k3 v3 l3 r3) r2)).In w) => weight_any r2 w h.2.2.2.2 (by omega))
  have LU := Lib.hid (fun (w : World) (h : (Tr.node b k v l (Tr.node b2 k2 v2 (Tr.node b3 k3 v3 l3 r3) r2)).In w) => leftUp_any b2 k2 v2 b3 k3 v3 l3 r3 r2 w h.2.2 (by omega))
  have OV := Lib.hid (fun (c' : Nat) (ck : Ky) (cv : Sl) (cl cr : Tr) (w : World) (h : (Tr.node b k v l (Tr.node b2 k2 v2 (Tr.node b3 k3 v3 l3 r3) r2)).In w) (hc : (Tr.node c' ck cv cl cr).In w) (he : (Tr.node c' ck cv cl cr).list = (Tr.node b2 k2 v2 (Tr.node b3 k3 v3 l3 r3) r2).list) =>
    over_any b k v _ _ l (Tr.node c' ck cv cl cr) w h h.2.1 hc (by have e2 := len_eq he; omega))
  have RU := Lib.hid (fun (b' c' : Nat) (ck : Ky) (cv : Sl) (cl cr : Tr) (w : World) (h : (Tr.node b' k v l (Tr.node c' ck cv cl cr)).In w) (he : (Tr.node c' ck cv cl cr).list = (Tr.node b2 k2 v2 (Tr.node b3 k3 v3 l3 r3) r2).list) =>
    rightUp_any b' k v c' ck cv l cl cr w h (by have e2 := len_eq he; rw [Tr.len_node]; omega))
  try simp only [Tr.ad_node] at WL
  try simp only [Tr.ad_node] at WR
  try simp only [Tr.ad_node] at L1
  try simp only [Tr.ad_node] at L2
  try simp only [Tr.ad_node] at L3
  try simp only [Tr.ad_node] at L4
  try simp only [Tr.ad_node] at WI
  have M3 := Lib.hid L3
  have M4 := Lib.hid L4
  clear L3 L4
  have M1 := Lib.hid L1
  have M2 := Lib.hid L2
  clear h hs L1 L2
  go_enter Try.func74, Try.ntmps74
  go_wp2_with fail
  refine Sch.wp_region_tn ((Tr.node b k v l (Tr.node b2 k2 v2 (Tr.node b3 k3 v3 l3 r3) r2)).In) (.val 0 (.val 1 (.val 2 (.val 3 (.val 4 (.val 5 (.val 6 (.val 7 (.val 8 (.val 9 .done)))))))))) (by kernel_rfl) (by kernel_rfl) HS.out ?_
  repeat (first
    | (refine Sch.tn_q rfl rfl rfl (fun K hK => ?_); go_big_quiet_op; (first | refine hK _ ?_ | refine ⟨_, fun _ _ => rfl, hK _ ?_⟩); clear hK K)
    | (refine Sch.tn_chk _ _ _ rfl rfl rfl rfl rfl ?_; simp only [Act.put, List.setIfInBounds_toArray, List.set_cons_zero, List.set_cons_succ])
    | (refine Sch.tn_load _ _ _ _ _ rfl rfl rfl rfl (by first | exact M1.out | exact M2.out) rfl ?_; simp only [Act.put, List.setIfInBounds_toArray, List.set_cons_zero, List.set_cons_succ]))
  clear M1 M2
  generalize w.drew = w0 at *
  refine Sch.tn_n ?_
  go_wp2_with fail
  refine (WR.out _ HS.out).mono ?_
  rintro e w1 ⟨rfl, rfl⟩
  go_wp2_with fail
  refine (WL.out _ HS.out).mono ?_
  rintro e w1 ⟨rfl, rfl⟩
  go_wp2_with fail
  clear WL WR
  refine Sch.wp_region_tn ((Tr.node b k v l (Tr.node b2 k2 v2 (Tr.node b3 k3 v3 l3 r3) r2)).In) (.val 0 (.val 1 (.val 2 (.val 3 (.val 5 (.val 6 (.val 7 (.val 8 (.one 4 (.one 9 (.val 10 (.val 11 .done)))))))))))) (by kernel_rfl) (by kernel_rfl) HS.out.drew ?_
  repeat (first
    | (refine Sch.tn_q rfl rfl rfl (fun K hK => ?_); go_big_quiet_op; (first | refine hK _ ?_ | refine ⟨_, fun _ _ => rfl, hK _ ?_⟩); clear hK K)
    | (refine Sch.tn_chk _ _ _ rfl rfl rfl rfl rfl ?_; simp only [Act.put, List.setIfInBounds_toArray, List.set_cons_zero, List.set_cons_succ])
    | (refine Sch.tn_load _ _ _ _ _ rfl rfl rfl rfl (by first | exact M3.out | exact M4.out) rfl ?_; simp only [Act.put, List.setIfInBounds_toArray, List.set_cons_zero, List.set_cons_succ]))
  clear M3 M4
  replace HS : Hid ((Tr.node b k v l (Tr.node b2 k2 v2 (Tr.node b3 k3 v3 l3 r3) r2)).In w1.drew) := HS.out.drew
  replace HB : Hid (Below w.heap.size w w1.drew) := HB.out.drew
  generalize w1.drew = w2 at *
  refine Sch.tn_e rfl rfl (fun K hK => ?_)
  go_wp2_with fail
  refine (WI.out _ HS.out).mono ?_
  rintro e w3 ⟨rfl, rfl⟩
  refine hK _ _ HS.out ?_
  clear hK K
  refine Sch.tn_e rfl rfl (fun K hK => ?_)
  go_wp2_with fail
  refine (WO.out _ HS.out).mono ?_
  rintro e w3 ⟨rfl, rfl⟩
  refine hK _ _ HS.out ?_
  clear hK K
  repeat (first
    | (refine Sch.tn_q rfl rfl rfl (fun K hK => ?_); go_big_quiet_op; (first | refine hK _ ?_ | refine ⟨_, fun _ _ => rfl, hK _ ?_⟩); clear hK K)
    | (refine Sch.tn_chk _ _ _ rfl rfl rfl rfl rfl ?_; simp only [Act.put, List.setIfInBounds_toArray, List.set_cons_zero, List.set_cons_succ]))
  clear WI WO
  refine Sch.tn_n ?_
  go_wp2_with fail
  refine (LU.out _ HS.out).mono ?_
  rintro e w4 hm
  obtain ⟨c', ck, cv, cl, cr, rfl, hc, hl, hb⟩ := hm
  have HC := Lib.hid hc
  have HL := Lib.hid hl
  replace HB : Hid (Below w.heap.size w w4) := bel_tr HB.out hb
  replace HS : Hid ((Tr.node b k v l (Tr.node b2 k2 v2 (Tr.node b3 k3 v3 l3 r3) r2)).In w4) := HS.out.keep hb
  clear hc hl hb LU
  have OW := Lib.hid (OV.out _ _ _ _ _ _ HS.out HC.out HL.out)
  try simp only [Tr.ad_node] at OW
  clear OV
  go_wp2_with fail
  refine OW.out.mono ?_
  rintro e w5 ⟨b', rfl, -, hi, hb⟩
  have HI := Lib.hid hi
  replace HB : Hid (Below w.heap.size w w5) := bel_tr HB.out hb
  clear hi hb OW HC HS
  go_wp2_with fail
  refine (RU.out _ _ _ _ _ _ _ HI.out HL.out).mono ?_
  rintro e w6 hm
  obtain ⟨b'', k', v', l', r', rfl, hi, hl, hb⟩ := Made.trans HB.out hm
  have HI := Lib.hid hi
  have HL2 := Lib.hid hl
  have HB4 := Lib.hid hb
  clear hm hi hl hb
  go_wp2_with fail
  go_ret
  refine ⟨_, _, _, _, _, rfl, HI.out, ?_, HB4.out⟩
  have e2 := HL.out
  rw [HL2.out, list_node b', e2, list_node b]
set_option maxRecDepth 100000 in
set_option maxHeartbeats 2000000 in
theorem bal_l2 (b : Nat) (k : Ky) (v : Sl) (b2 : Nat) (k2 : Ky) (v2 : Sl) (l2 r2 r : Tr) (w : World) (h : (Tr.node b k v (Tr.node b2 k2 v2 l2 r2) r).In w) (hs : (Tr.node b k v (Tr.node b2 k2 v2 l2 r2) r).len ≤ 1000000) (h1 : 3 * ((r.len : Int) + 1) < ((Tr.node b2 k2 v2 l2 r2).len : Int) + 1) (h2 : ¬ 2 * ((l2.len : Int) + 1) ≤ (r2.len : Int) + 1) :
    Calls Try.prog 74 #[.pointer (some ⟨b, 0, none⟩)] w fun e w' => Made w e w' (Tr.node b k v (Tr.node b2 k2 v2 l2 r2) r).list := by
  have HT : Hid ((Tr.node b k v (Tr.node b2 k2 v2 l2 r2) r).len ≤ 1000000) := hs
  rw [Tr.len_node] at hs
  have HS : Hid ((Tr.node b k v (Tr.node b2 k2 v2 l2 r2) r).In w.drew) := h.drew
  have HB : Hid (Below w.heap.size w w.drew) := (Below.refl _ w).drew
  have L1 : ∀ w, (Tr.node b k v (Tr.node b2 k2 v2 l2 r2) r).In w → _ := fun w h => nd_l (w := w) h.1
  have L2 : ∀ w, (Tr.node b k v (Tr.node b2 k2 v2 l2 r2) r).In w → _ := fun w h => nd_r (w := w) h.1
  have WL := Lib.hid (fun (w : World) (h : (Tr.node b k v (Tr.node b2 k2 v2 l2 r2) r).In w) => weight_any (Tr.node b2 k2 v2 l2 r2) w h.2.1 (by omega))
  have WR := Lib.hid (fun (w : World) (h : (Tr.node b k v (Tr.node b2 k2 v2 l2 r2) r).In w) => weight_any r w h.2.2 (by omega))
  have s1 : (((Tr.node b2 k2 v2 l2 r2)).len : Int) ≤ 1000000 := by omega
  have s2 : ((r).len : Int) ≤ 1000000 := by omega
  have s3 : (r2.len : Int) ≤ 1000000 := by rw [Tr.len_node] at s1; omega
  have s4 : (l2.len : Int) ≤ 1000000 := by rw [Tr.len_node] at s1; omega
  have L3 : ∀ w, (Tr.node b k v (Tr.node b2 k2 v2 l2 r2) r).In w → _ := fun w h => nd_l (w := w) h.2.1.1
  have L4 : ∀ w, (Tr.node b k v (Tr.node b2 k2 v2 l2 r2) r).In w → _ := fun w h => nd_r (w := w) h.2.1.1
  have WI := Lib.hid (fun (w : World) (h : (Tr.node b k v (Tr.node b2 k2 v2 l2 r2) r).In w) => weight_any r2 w h.2.1.2.2 (by omega))
  have WO := Lib.hid (fun (w : World) (h : (Tr.node b k v (Tr.node b2 k2 v2 l2 r2) r).In w) => weight_any l2 w h.2.1.2.1 (by omega))
  have RU := Lib.hid (fun (w : World) (h : (Tr.node b k v (Tr.node b2 k2 v2 l2 r2) r).In w) => leftUp_any b k v b2 k2 v2 l2 r2 r w h HT.out)
  try simp only [Tr.ad_node] at WL
  try simp only [Tr.ad_node] at WR
  try simp only [Tr.ad_node] at L1
  try simp only [Tr.ad_node] at L2
  try simp only [Tr.ad_node] at L3
  try simp only [Tr.ad_node] at L4
  try simp only [Tr.ad_node] at WI
  have M3 := Lib.hid L3
  have M4 := Lib.hid L4
  clear L3 L4
  have M1 := Lib.hid L1
  have M2 := Lib.hid L2
  clear h hs L1 L2
  go_enter Try.func74, Try.ntmps74
  go_wp2_with fail
  refine Sch.wp_region_tn ((Tr.node b k v (Tr.node b2 k2 v2 l2 r2) r).In) (.val 0 (.val 1 (.val 2 (.val 3 (.val 4 (.val 5 (.val 6 (.val 7 (.val 8 (.val 9 .done)))))))))) (by kernel_rfl) (by kernel_rfl) HS.out ?_
  repeat (first
    | (refine Sch.tn_q rfl rfl rfl (fun K hK => ?_); go_big_quiet_op; (first | refine hK _ ?_ | refine ⟨_, fun _ _ => rfl, hK _ ?_⟩); clear hK K)
    | (refine Sch.tn_chk _ _ _ rfl rfl rfl rfl rfl ?_; simp only [Act.put, List.setIfInBounds_toArray, List.set_cons_zero, List.set_cons_succ])
    | (refine Sch.tn_load _ _ _ _ _ rfl rfl rfl rfl (by first | exact M1.out | exact M2.out) rfl ?_; simp only [Act.put, List.setIfInBounds_toArray, List.set_cons_zero, List.set_cons_succ]))
  clear M1 M2
  generalize w.drew = w0 at *
  refine Sch.tn_n ?_
  go_wp2_with fail
  refine (WR.out _ HS.out).mono ?_
  rintro e w1 ⟨rfl, rfl⟩
  go_wp2_with fail
  refine (WL.out _ HS.out).mono ?_
  rintro e w1 ⟨rfl, rfl⟩
  go_wp2_with fail
  refine (WL.out _ HS.out).mono ?_
  rintro e w1 ⟨rfl, rfl⟩
  go_wp2_with fail
  refine (WR.out _ HS.out).mono ?_
  rintro e w1 ⟨rfl, rfl⟩
  go_wp2_with fail
  clear WL WR
  refine Sch.wp_region_tn ((Tr.node b k v (Tr.node b2 k2 v2 l2 r2) r).In) (.val 0 (.val 1 (.val 2 (.val 3 (.val 5 (.val 6 (.val 7 (.val 8 (.one 4 (.one 9 (.val 10 (.val 11 .done)))))))))))) (by kernel_rfl) (by kernel_rfl) HS.out.drew ?_
  repeat (first
    | (refine Sch.tn_q rfl rfl rfl (fun K hK => ?_); go_big_quiet_op; (first | refine hK _ ?_ | refine ⟨_, fun _ _ => rfl, hK _ ?_⟩); clear hK K)
    | (refine Sch.tn_chk _ _ _ rfl rfl rfl rfl rfl ?_; simp only [Act.put, List.setIfInBounds_toArray, List.set_cons_zero, List.set_cons_succ])
    | (refine Sch.tn_load _ _ _ _ _ rfl rfl rfl rfl (by first | exact M3.out | exact M4.out) rfl ?_; simp only [Act.put, List.setIfInBounds_toArray, List.set_cons_zero, List.set_cons_succ]))
  clear M3 M4
  replace HS : Hid ((Tr.node b k v (Tr.node b2 k2 v2 l2 r2) r).In w1.drew) := HS.out.drew
  replace HB : Hid (Below w.heap.size w w1.drew) := HB.out.drew
  generalize w1.drew = w2 at *
  refine Sch.tn_e rfl rfl (fun K hK => ?_)
  go_wp2_with fail
  refine (WI.out _ HS.out).mono ?_
  rintro e w3 ⟨rfl, rfl⟩
  refine hK _ _ HS.out ?_
  clear hK K
  refine Sch.tn_e rfl rfl (fun K hK => ?_)
  go_wp2_with fail
  refine (WO.out _ HS.out).mono ?_
  rintro e w3 ⟨rfl, rfl⟩
  refine hK _ _ HS.out ?_
  clear hK K
  repeat (first
    | (refine Sch.tn_q rfl rfl rfl (fun K hK => ?_); go_big_quiet_op; (first | refine hK _ ?_ | refine ⟨_, fun _ _ => rfl, hK _ ?_⟩); clear hK K)
    | (refine Sch.tn_chk _ _ _ rfl rfl rfl rfl rfl ?_; simp only [Act.put, List.setIfInBounds_toArray, List.set_cons_zero, List.set_cons_succ]))
  clear WI WO
  refine Sch.tn_n ?_
  go_wp2_with fail
  refine (RU.out _ HS.out).mono ?_
  rintro e w4 hm
  obtain ⟨b', k', v', l', r', rfl, hi, hl, hb⟩ := Made.trans HB.out hm
  have HI := Lib.hid hi
  have HL := Lib.hid hl
  have HB4 := Lib.hid hb
  clear hm hi hl hb
  go_wp2_with fail
  go_ret
  exact ⟨_, _, _, _, _, rfl, HI.out, HL.out, HB4.out⟩
set_option maxRecDepth 100000 in
set_option maxHeartbeats 2000000 in
theorem bal_l1 (b : Nat) (k : Ky) (v : Sl) (b2 : Nat) (k2 : Ky) (v2 : Sl) (b3 : Nat) (k3 : Ky) (v3 : Sl) (l3 r3 l2 r : Tr) (w : World) (h : (Tr.node b k v (Tr.node b2 k2 v2 l2 (Tr.node b3 k3 v3 l3 r3)) r).In w) (hs : (Tr.node b k v (Tr.node b2 k2 v2 l2 (Tr.node b3 k3 v3 l3 r3)) r).len ≤ 1000000) (h1 : 3 * ((r.len : Int) + 1) < ((Tr.node b2 k2 v2 l2 (Tr.node b3 k3 v3 l3 r3)).len : Int) + 1) (h2 : 2 * ((l2.len : Int) + 1) ≤ ((Tr.node b3 k3 v3 l3 r3).len : Int) + 1) :
    Calls Try.prog 74 #[.pointer (some ⟨b, 0, none⟩)] w fun e w' => Made w e w' (Tr.node b k v (Tr.node b2 k2 v2 l2 (Tr.node b3 k3 v3 l3 r3)) r).list := by
  have HT : Hid ((Tr.node b k v (Tr.node b2 k2 v2 l2 (Tr.node b3 k3 v3 l3 r3)) r).len ≤ 1000000) := hs
  rw [Tr.len_node] at hs
  have HS : Hid ((Tr.node b k v (Tr.node b2 k2 v2 l2 (Tr.node b3 k3 v3 l3 r3)) r).In w.drew) := h.drew
  have HB : Hid (Below w.heap.size w w.drew) := (Below.refl _ w).drew
  have L1 : ∀ w, (Tr.node b k v (Tr.node b2 k2 v2 l2 (Tr.node b3 k3 v3 l3 r3)) r).In w → _ := fun w h => nd_l (w := w) h.1
  have L2 : ∀ w, (Tr.node b k v (Tr.node b2 k2 v2 l2 (Tr.node b3 k3 v3 l3 r3)) r).In w → _ := fun w h => nd_r (w := w) h.1
  have WL := Lib.hid (fun (w : World) (h : (Tr.node b k v (Tr.node b2 k2 v2 l2 (Tr.node b3 k3 v3 l3 r3)) r).In w) => weight_any (Tr.node b2 k2 v2 l2 (Tr.node b3 k3 v3 l3 r3)) w h.2.1 (by omega))
  have WR := Lib.hid (fun (w : World) (h : (Tr.node b k v (Tr.node b2 k2 v2 l2 (Tr.node b3 k3 v3 l3 r3)) r).In w) => weight_any r w h.2.2 (by omega))
  have s1 : (((Tr.node b2 k2 v2 l2 (Tr.node b3 k3 v3 l3 r3))).len : Int) ≤ 1000000 := by omega
  have s2 : ((r).len : Int) ≤ 1000000 := by omega
  have s3 : ((Tr.node b3 k3 v3 l3 r3).len : Int) ≤ 1000000 := by rw [Tr.len_node] at s1; omega
  have s4 : (l2.len : Int) ≤ 1000000 := by rw [Tr.len_node] at s1; omega
  have L3 : ∀ w, (Tr.node b k v (Tr.node b2 k2 v2 l2 (Tr.node b3 k3 v3 l3 r3)) r).In w → _ := fun w h => nd_l (w := w) h.2.1.1
  have L4 : ∀ w, (Tr.node b k v (Tr.node b2 k2 v2 l2 (Tr.node b3 k3 v3 l3 r3)) r).In w → _ := fun w h => nd_r (w := w) h.2.1.1
  have WI := Lib.hid (fun (w : World) (h : (Tr.node b k v (Tr.node b2 k2 v2 l2 (Tr.node b3 k3 v3 l3 r3)) r).In w) => weight_any (Tr.node b3 k3 v3 l3 r3) w h.2.1.2.2 (by omega))
  have WO := Lib.hid (fun (w : World) (h : (Tr.node b k v (Tr.node b2 k2 v2 l2 (Tr.node b3 k3 v3 l3 r3)) r).In w) => weight_any l2 w h.2.1.2.1 (by omega))
  have LU := Lib.hid (fun (w : World) (h : (Tr.node b k v (Tr.node b2 k2 v2 l2 (Tr.node b3 k3 v3 l3 r3)) r).In w) => rightUp_any b2 k2 v2 b3 k3 v3 l2 l3 r3 w h.2.1 (by omega))
  have OV := Lib.hid (fun (c' : Nat) (ck : Ky) (cv : Sl) (cl cr : Tr) (w : World) (h : (Tr.node b k v (Tr.node b2 k2 v2 l2 (Tr.node b3 k3 v3 l3 r3)) r).In w) (hc : (Tr.node c' ck cv cl cr).In w) (he : (Tr.node c' ck cv cl cr).list = (Tr.node b2 k2 v2 l2 (Tr.node b3 k3 v3 l3 r3)).list) =>
    over_any b k v _ _ (Tr.node c' ck cv cl cr) r w h hc h.2.2 (by have e2 := len_eq he; omega))
  have RU := Lib.hid (fun (b' c' : Nat) (ck : Ky) (cv : Sl) (cl cr : Tr) (w : World) (h : (Tr.node b' k v (Tr.node c' ck cv cl cr) r).In w) (he : (Tr.node c' ck cv cl cr).list = (Tr.node b2 k2 v2 l2 (Tr.node b3 k3 v3 l3 r3)).list) =>
    leftUp_any b' k v c' ck cv cl cr r w h (by have e2 := len_eq he; rw [Tr.len_node]; omega))
  try simp only [Tr.ad_node] at WL
  try simp only [Tr.ad_node] at WR
  try simp only [Tr.ad_node] at L1
  try simp only [Tr.ad_node] at L2
  try simp only [Tr.ad_node] at L3
  try simp only [Tr.ad_node] at L4
  try simp only [Tr.ad_node] at WI
  have M3 := Lib.hid L3
  have M4 := Lib.hid L4
  clear L3 L4
  have M1 := Lib.hid L1
  have M2 := Lib.hid L2
  clear h hs L1 L2
  go_enter Try.func74, Try.ntmps74
  go_wp2_with fail
  refine Sch.wp_region_tn ((Tr.node b k v (Tr.node b2 k2 v2 l2 (Tr.node b3 k3 v3 l3 r3)) r).In) (.val 0 (.val 1 (.val 2 (.val 3 (.val 4 (.val 5 (.val 6 (.val 7 (.val 8 (.val 9 .done)))))))))) (by kernel_rfl) (by kernel_rfl) HS.out ?_
  repeat (first
    | (refine Sch.tn_q rfl rfl rfl (fun K hK => ?_); go_big_quiet_op; (first | refine hK _ ?_ | refine ⟨_, fun _ _ => rfl, hK _ ?_⟩); clear hK K)
    | (refine Sch.tn_chk _ _ _ rfl rfl rfl rfl rfl ?_; simp only [Act.put, List.setIfInBounds_toArray, List.set_cons_zero, List.set_cons_succ])
    | (refine Sch.tn_load _ _ _ _ _ rfl rfl rfl rfl (by first | exact M1.out | exact M2.out) rfl ?_; simp only [Act.put, List.setIfInBounds_toArray, List.set_cons_zero, List.set_cons_succ]))
  clear M1 M2
  generalize w.drew = w0 at *
  refine Sch.tn_n ?_
  go_wp2_with fail
  refine (WR.out _ HS.out).mono ?_
  rintro e w1 ⟨rfl, rfl⟩
  go_wp2_with fail
  refine (WL.out _ HS.out).mono ?_
  rintro e w1 ⟨rfl, rfl⟩
  go_wp2_with fail
  refine (WL.out _ HS.out).mono ?_
  rintro e w1 ⟨rfl, rfl⟩
  go_wp2_with fail
  refine (WR.out _ HS.out).mono ?_
  rintro e w1 ⟨rfl, rfl⟩
  go_wp2_with fail
  clear WL WR
  refine Sch.wp_region_tn ((Tr.node b k v (Tr.node b2 k2 v2 l2 (Tr.node b3 k3 v3 l3 r3)) r).In) (.val 0 (.val 1 (.val 2 (.val 3 (.val 5 (.val 6 (.val 7 (.val 8 (.one 4 (.one 9 (.val 10 (.val 11 .done)))))))))))) (by kernel_rfl) (by kernel_rfl) HS.out.drew ?_
  repeat (first
    | (refine Sch.tn_q rfl rfl rfl (fun K hK => ?_); go_big_quiet_op; (first | refine hK _ ?_ | refine ⟨_, fun _ _ => rfl, hK _ ?_⟩); clear hK K)
    | (refine Sch.tn_chk _ _ _ rfl rfl rfl rfl rfl ?_; simp only [Act.put, List.setIfInBounds_toArray, List.set_cons_zero, List.set_cons_succ])
    | (refine Sch.tn_load _ _ _ _ _ rfl rfl rfl rfl (by first | exact M3.out | exact M4.out) rfl ?_; simp only [Act.put, List.setIfInBounds_toArray, List.set_cons_zero, List.set_cons_succ]))
  clear M3 M4
  replace HS : Hid ((Tr.node b k v (Tr.node b2 k2 v2 l2 (Tr.node b3 k3 v3 l3 r3)) r).In w1.drew) := HS.out.drew
  replace HB : Hid (Below w.heap.size w w1.drew) := HB.out.drew
  generalize w1.drew = w2 at *
  refine Sch.tn_e rfl rfl (fun K hK => ?_)
  go_wp2_with fail
  refine (WI.out _ HS.out).mono ?_
  rintro e w3 ⟨rfl, rfl⟩
  refine hK _ _ HS.out ?_
  clear hK K
  refine Sch.tn_e rfl rfl (fun K hK => ?_)
  go_wp2_with fail
  refine (WO.out _ HS.out).mono ?_
  rintro e w3 ⟨rfl, rfl⟩
  refine hK _ _ HS.out ?_
  clear hK K
  repeat (first
    | (refine Sch.tn_q rfl rfl rfl (fun K hK => ?_); go_big_quiet_op; (first | refine hK _ ?_ | refine ⟨_, fun _ _ => rfl, hK _ ?_⟩); clear hK K)
    | (refine Sch.tn_chk _ _ _ rfl rfl rfl rfl rfl ?_; simp only [Act.put, List.setIfInBounds_toArray, List.set_cons_zero, List.set_cons_succ]))
  clear WI WO
  refine Sch.tn_n ?_
  go_wp2_with fail
  refine (LU.out _ HS.out).mono ?_
  rintro e w4 hm
  obtain ⟨c', ck, cv, cl, cr, rfl, hc, hl, hb⟩ := hm
  have HC := Lib.hid hc
  have HL := Lib.hid hl
  replace HB : Hid (Below w.heap.size w w4) := bel_tr HB.out hb
  replace HS : Hid ((Tr.node b k v (Tr.node b2 k2 v2 l2 (Tr.node b3 k3 v3 l3 r3)) r).In w4) := HS.out.keep hb
  clear hc hl hb LU
  have OW := Lib.hid (OV.out _ _ _ _ _ _ HS.out HC.out HL.out)
  try simp only [Tr.ad_node] at OW
  clear OV
  go_wp2_with fail
  refine OW.out.mono ?_
  rintro e w5 ⟨b', rfl, -, hi, hb⟩
  have HI := Lib.hid hi
  replace HB : Hid (Below w.heap.size w w5) := bel_tr HB.out hb
  clear hi hb OW HC HS
  go_wp2_with fail
  refine (RU.out _ _ _ _ _ _ _ HI.out HL.out).mono ?_
  rintro e w6 hm
  obtain ⟨b'', k', v', l', r', rfl, hi, hl, hb⟩ := Made.trans HB.out hm
  have HI := Lib.hid hi
  have HL2 := Lib.hid hl
  have HB4 := Lib.hid hb
  clear hm hi hl hb
  go_wp2_with fail
  go_ret
  refine ⟨_, _, _, _, _, rfl, HI.out, ?_, HB4.out⟩
  have e2 := HL.out
  rw [HL2.out, list_node b', e2, list_node b]
/-- balanced, whatever the tree is. -/
theorem balanced_any (b : Nat) (k : Ky) (v : Sl) (l r : Tr) (w : World) (h : (Tr.node b k v l r).In w) (hs : (Tr.node b k v l r).len ≤ 1000000) :
    Calls Try.prog 74 #[.pointer (some ⟨b, 0, none⟩)] w fun e w' => Made w e w' (Tr.node b k v l r).list := by
  by_cases h1 : 3 * ((l.len : Int) + 1) < (r.len : Int) + 1
  · obtain ⟨b2, k2, v2, l2, r2, rfl⟩ := node_of_len (t := r) (by omega)
    by_cases h2 : 2 * ((r2.len : Int) + 1) ≤ (l2.len : Int) + 1
    · obtain ⟨b3, k3, v3, l3, r3, rfl⟩ := node_of_len (t := l2) (by omega)
      exact bal_r1 b k v b2 k2 v2 b3 k3 v3 l3 r3 r2 l w h hs h1 h2
    · exact bal_r2 b k v b2 k2 v2 l2 r2 l w h hs h1 h2
  · by_cases h2 : 3 * ((r.len : Int) + 1) < (l.len : Int) + 1
    · obtain ⟨b2, k2, v2, l2, r2, rfl⟩ := node_of_len (t := l) (by omega)
      by_cases h3 : 2 * ((l2.len : Int) + 1) ≤ (r2.len : Int) + 1
      · obtain ⟨b3, k3, v3, l3, r3, rfl⟩ := node_of_len (t := r2) (by omega)
        exact bal_l1 b k v b2 k2 v2 b3 k3 v3 l3 r3 l2 r w h hs h2 h3
      · exact bal_l2 b k v b2 k2 v2 l2 r2 r w h hs h2 h3
    · exact bal_no b k v l r w h hs h1 h2

end Go.Proofs.Ytmmcnpcijeahcaa.Jt
