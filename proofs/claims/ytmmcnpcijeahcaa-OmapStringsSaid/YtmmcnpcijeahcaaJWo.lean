/-
  Trees of entries: one entry less.
-/
import Derived.Test.YtmmcnpcijeahcaaJWith
namespace Go.Proofs.Ytmmcnpcijeahcaa.J
set_option linter.unusedVariables false
open Go.RowKit V

/-- The list with an entry less. -/
def delAt (L : List Pr) (n : Nat) : List Pr := L.take n ++ L.drop (n + 1)
theorem delAt_len {L : List Pr} {n : Nat} (h : n < L.length) : (delAt L n).length + 1 = L.length := by
  unfold delAt
  rw [List.length_append, List.length_take, List.length_drop]
  omega
theorem delAt_lt {l m : List Pr} {p : Pr} {n : Nat} (h : n < l.length) : delAt (l ++ p :: m) n = delAt l n ++ p :: m := by
  unfold delAt
  rw [take_lt (by omega), drop_lt (by omega)]
  simp
theorem delAt_eq {l m : List Pr} {p : Pr} : delAt (l ++ p :: m) l.length = l ++ m := by
  unfold delAt
  rw [take_lt (Nat.le_refl _), List.take_length, show l.length + 1 = l.length + 1 + 0 from rfl, drop_gt, List.drop_zero]
theorem delAt_gt {l m : List Pr} {p : Pr} {n : Nat} : delAt (l ++ p :: m) (l.length + 1 + n) = l ++ p :: delAt m n := by
  unfold delAt
  rw [take_gt, show l.length + 1 + n + 1 = l.length + 1 + (n + 1) by omega, drop_gt]
  simp
theorem del_len {T l : Tr} {n : Nat} (hn : n < l.len) (h : T.list = delAt l.list n) : T.len + 1 = l.len := by
  unfold Tr.len
  rw [h]
  exact delAt_len hn
theorem nil_of_len {t : Tr} (h : t.len = 0) : t = .nil := by
  cases t with
  | nil => rfl
  | node b k v l r => rw [Tr.len_node] at h; omega
/-- A tree that has these entries, and is there. -/
def Made0 (w : World) (e : Ending) (w' : World) (L : List Pr) : Prop := ∃ T : Tr, e = .returned (.pointer T.ad) ∧ T.In w' ∧ T.list = L ∧ Below w.heap.size w w'
theorem Made.made0 {w w' : World} {e : Ending} {L : List Pr} (h : Made w e w' L) : Made0 w e w' L := by
  obtain ⟨b, k, v, l, r, he, hi, hl, hb⟩ := h
  exact ⟨.node b k v l r, he, hi, hl, hb⟩

set_option maxRecDepth 100000 in
set_option maxHeartbeats 4000000 in
theorem without_any (t : Tr) : ∀ (n : Nat) (w : World), t.In w → t.len ≤ 1000000 → n < t.len →
    Calls Try.prog 41 #[.pointer t.ad, .int .i64 (n : Int)] w fun e w' => Made0 w e w' (delAt t.list n) := by
  induction t with
  | nil =>
    intro n w h hs hn
    rw [Tr.len_nil] at hn
    omega
  | node b bk bv l r ihl ihr =>
    intro n w h hs hn
    have HS : Hid ((Tr.node b bk bv l r).In w) := h
    rw [Tr.len_node] at hs hn
    have HL := Lib.hid (fun (w : World) (h : (Tr.node b bk bv l r).In w) => len_any l w h.2.1)
    have k2 := h.1.2.2.1
    have k3 := h.1.2.2.2.1
    have L1 : ∀ w, (Tr.node b bk bv l r).In w → _ := fun w h => nd_l (w := w) h.1
    have L2 : ∀ w, (Tr.node b bk bv l r).In w → _ := fun w h => nd_r (w := w) h.1
    have M1 := Lib.hid L1
    have M2 := Lib.hid L2
    have hl : (l.len : Int) ≤ 1000000 := by omega
    have hn1 : (n : Int) ≤ 1000000 := by omega
    have HB : Hid (Below w.heap.size w w.drew) := (Below.refl _ w).drew
    rw [Tr.ad_node]
    by_cases hlt : n < l.len
    · have HW := Lib.hid (fun (w : World) (h : (Tr.node b bk bv l r).In w) => ihl n w h.2.1 (by omega) hlt)
      have OV := Lib.hid (fun (T : Tr) (w : World) (h : (Tr.node b bk bv l r).In w) (hT : T.In w) (he : T.list = delAt l.list n) => over_any b bk bv _ _ T r w h hT h.2.2 (by have e2 := del_len hlt he; omega))
      have BA := Lib.hid (fun (c : Nat) (T : Tr) (w : World) (h : (Tr.node c bk bv T r).In w) (he : T.list = delAt l.list n) => balanced_any c bk bv T r w h (by have e2 := del_len hlt he; rw [Tr.len_node]; omega))
      have HE : Hid (delAt (Tr.node b bk bv l r).list n = delAt l.list n ++ (bk, bv) :: r.list) := delAt_lt hlt
      generalize delAt (Tr.node b bk bv l r).list n = R at *
      have hc : (n : Int) < (l.len : Int) := by omega
      clear h hs hn L1 L2 hlt ihl ihr
      go_enter Try.func41, Try.ntmps41
      go_wp2_with fail
      refine (HL.out _ HS.out).mono ?_
      rintro e w' ⟨rfl, rfl⟩
      go_wp2_with fail
      refine Sch.wp_region_tn ((Tr.node b bk bv l r).In) (.val 0 (.val 1 (.val 2 (.val 3 (.val 4 (.val 5 (.val 7 (.val 8 (.val 9 (.val 10 (.one 6 (.one 11 (.one 12 (.val 13 .done)))))))))))))) (by kernel_rfl) (by kernel_rfl) HS.out.drew ?_
      repeat (first
        | (refine Sch.tn_q rfl rfl rfl (fun K hK => ?_); go_big_quiet_op; (first | refine hK _ ?_ | refine ⟨_, fun _ _ => rfl, hK _ ?_⟩); clear hK K)
        | (refine Sch.tn_chk _ _ _ rfl rfl rfl rfl rfl ?_; simp only [Act.put, List.setIfInBounds_toArray, List.set_cons_zero, List.set_cons_succ])
        | (refine Sch.tn_load _ _ _ _ _ rfl rfl rfl rfl (by first | exact M1.out | exact M2.out) rfl ?_; simp only [Act.put, List.setIfInBounds_toArray, List.set_cons_zero, List.set_cons_succ]))
      clear M1 M2
      replace HS : Hid ((Tr.node b bk bv l r).In w'.drew) := HS.out.drew
      clear k2 k3
      generalize w'.drew = w0 at *
      refine Sch.tn_e rfl rfl (fun K hK => ?_)
      go_wp2_with fail
      refine (HW.out _ HS.out).mono ?_
      rintro e w1 ⟨C, rfl, hi, he, hb⟩
      have HI := Lib.hid hi
      have HC := Lib.hid he
      replace HB : Hid (Below w'.heap.size w' w1) := bel_tr HB.out hb
      replace HS : Hid ((Tr.node b bk bv l r).In w1) := HS.out.keep hb
      clear hi he hb HW
      refine hK _ _ HS.out ?_
      clear hK K
      have OW := Lib.hid (OV.out _ _ HS.out HI.out HC.out)
      try rw [Tr.ad_node] at OW
      refine Sch.tn_e rfl rfl (fun K hK => ?_)
      go_wp2_with fail
      refine OW.out.mono ?_
      rintro e w2 ⟨d, rfl, -, hi, hb⟩
      have HJ := Lib.hid hi
      replace HB : Hid (Below w'.heap.size w' w2) := bel_tr HB.out hb
      replace HS : Hid ((Tr.node b bk bv l r).In w2) := HS.out.keep hb
      clear hi hb OV OW
      refine hK _ _ HS.out ?_
      clear hK K
      refine Sch.tn_e rfl rfl (fun K hK => ?_)
      go_wp2_with fail
      refine (BA.out _ _ _ HJ.out HC.out).mono ?_
      rintro e w3 hm
      have hb := hm.below
      replace HS : Hid ((Tr.node b bk bv l r).In w3) := HS.out.keep hb
      obtain ⟨c', k', v', l', r', rfl, hi, he, hb⟩ := Made.trans HB.out hm
      have HI2 := Lib.hid hi
      have HL2 := Lib.hid he
      have HB4 := Lib.hid hb
      clear hm hi he hb
      refine hK _ _ HS.out ?_
      clear hK K
      repeat (first
        | (refine Sch.tn_q rfl rfl rfl (fun K hK => ?_); go_big_quiet_op; (first | refine hK _ ?_ | refine ⟨_, fun _ _ => rfl, hK _ ?_⟩); clear hK K)
        | (refine Sch.tn_chk _ _ _ rfl rfl rfl rfl rfl ?_; simp only [Act.put, List.setIfInBounds_toArray, List.set_cons_zero, List.set_cons_succ]))
      refine Sch.tn_n ?_
      go_wp2_with fail
      go_ret
      refine ⟨.node c' k' v' l' r', rfl, HI2.out, ?_, HB4.out⟩
      have e2 := HC.out
      rw [HL2.out, list_node d, e2, HE.out]
    by_cases hgt : l.len < n
    · obtain ⟨m, rfl⟩ : ∃ m, n = l.len + 1 + m := ⟨n - (l.len + 1), by omega⟩
      have HW := Lib.hid (fun (w : World) (h : (Tr.node b bk bv l r).In w) => ihr m w h.2.2 (by omega) (by omega))
      have hm : m < r.len := by omega
      have OV := Lib.hid (fun (T : Tr) (w : World) (h : (Tr.node b bk bv l r).In w) (hT : T.In w) (he : T.list = delAt r.list m) => over_any b bk bv _ _ l T w h h.2.1 hT (by have e2 := del_len hm he; omega))
      have BA := Lib.hid (fun (c : Nat) (T : Tr) (w : World) (h : (Tr.node c bk bv l T).In w) (he : T.list = delAt r.list m) => balanced_any c bk bv l T w h (by have e2 := del_len hm he; rw [Tr.len_node]; omega))
      have HE : Hid (delAt (Tr.node b bk bv l r).list (l.len + 1 + m) = l.list ++ (bk, bv) :: delAt r.list m) := delAt_gt
      generalize delAt (Tr.node b bk bv l r).list (l.len + 1 + m) = R at *
      have hz : ((l.len + 1 + m : Nat) : Int) - (l.len : Int) - 1 = (m : Int) := by omega
      have hz2 : (l.len : Int) < ((l.len + 1 + m : Nat) : Int) := by omega
      obtain ⟨N, hN⟩ : ∃ N : Int, N = ((l.len + 1 + m : Nat) : Int) := ⟨_, rfl⟩
      rw [← hN] at hz hz2 hn1 ⊢
      clear h hs hn L1 L2 hlt ihl ihr hN hm hgt
      go_enter Try.func41, Try.ntmps41
      go_wp2_with fail
      refine (HL.out _ HS.out).mono ?_
      rintro e w' ⟨rfl, rfl⟩
      go_wp2_with fail
      refine Sch.wp_region_tn ((Tr.node b bk bv l r).In) (.val 0 (.val 1 (.val 2 (.val 3 (.val 4 (.val 5 (.val 6 (.val 7 (.val 8 (.val 9 (.val 10 (.val 11 (.val 12 (.one 13 (.one 14 (.one 15 (.val 16 .done))))))))))))))))) (by kernel_rfl) (by kernel_rfl) HS.out.drew ?_
      repeat (first
        | (refine Sch.tn_q rfl rfl rfl (fun K hK => ?_); go_big_quiet_op; (first | refine hK _ ?_ | refine ⟨_, fun _ _ => rfl, hK _ ?_⟩); clear hK K)
        | (refine Sch.tn_chk _ _ _ rfl rfl rfl rfl rfl ?_; simp only [Act.put, List.setIfInBounds_toArray, List.set_cons_zero, List.set_cons_succ])
        | (refine Sch.tn_load _ _ _ _ _ rfl rfl rfl rfl (by first | exact M1.out | exact M2.out) rfl ?_; simp only [Act.put, List.setIfInBounds_toArray, List.set_cons_zero, List.set_cons_succ]))
      clear M1 M2
      replace HS : Hid ((Tr.node b bk bv l r).In w'.drew) := HS.out.drew
      clear k2 k3
      generalize w'.drew = w0 at *
      try rw [hz]
      refine Sch.tn_e rfl rfl (fun K hK => ?_)
      go_wp2_with fail
      refine (HW.out _ HS.out).mono ?_
      rintro e w1 ⟨C, rfl, hi, he, hb⟩
      have HI := Lib.hid hi
      have HC := Lib.hid he
      replace HB : Hid (Below w'.heap.size w' w1) := bel_tr HB.out hb
      replace HS : Hid ((Tr.node b bk bv l r).In w1) := HS.out.keep hb
      clear hi he hb HW
      refine hK _ _ HS.out ?_
      clear hK K
      have OW := Lib.hid (OV.out _ _ HS.out HI.out HC.out)
      try rw [Tr.ad_node] at OW
      refine Sch.tn_e rfl rfl (fun K hK => ?_)
      go_wp2_with fail
      refine OW.out.mono ?_
      rintro e w2 ⟨d, rfl, -, hi, hb⟩
      have HJ := Lib.hid hi
      replace HB : Hid (Below w'.heap.size w' w2) := bel_tr HB.out hb
      replace HS : Hid ((Tr.node b bk bv l r).In w2) := HS.out.keep hb
      clear hi hb OV OW
      refine hK _ _ HS.out ?_
      clear hK K
      refine Sch.tn_e rfl rfl (fun K hK => ?_)
      go_wp2_with fail
      refine (BA.out _ _ _ HJ.out HC.out).mono ?_
      rintro e w3 hm
      have hb := hm.below
      replace HS : Hid ((Tr.node b bk bv l r).In w3) := HS.out.keep hb
      obtain ⟨c', k', v', l', r', rfl, hi, he, hb⟩ := Made.trans HB.out hm
      have HI2 := Lib.hid hi
      have HL2 := Lib.hid he
      have HB4 := Lib.hid hb
      clear hm hi he hb
      refine hK _ _ HS.out ?_
      clear hK K
      repeat (first
        | (refine Sch.tn_q rfl rfl rfl (fun K hK => ?_); go_big_quiet_op; (first | refine hK _ ?_ | refine ⟨_, fun _ _ => rfl, hK _ ?_⟩); clear hK K)
        | (refine Sch.tn_chk _ _ _ rfl rfl rfl rfl rfl ?_; simp only [Act.put, List.setIfInBounds_toArray, List.set_cons_zero, List.set_cons_succ]))
      refine Sch.tn_n ?_
      go_wp2_with fail
      go_ret
      refine ⟨.node c' k' v' l' r', rfl, HI2.out, ?_, HB4.out⟩
      have e2 := HC.out
      rw [HL2.out, list_node d, e2, HE.out]
    obtain rfl : n = l.len := by omega
    have HE : Hid (delAt (Tr.node b bk bv l r).list l.len = l.list ++ r.list) := delAt_eq
    generalize delAt (Tr.node b bk bv l r).list l.len = R at *
    rcases Nat.eq_zero_or_pos r.len with hr0 | hr0
    · obtain rfl := nil_of_len hr0
      clear h hs hn L1 L2 hlt ihl ihr hgt M1 M2 HB hr0
      simp only [Tr.ad] at k3
      go_enter Try.func41, Try.ntmps41
      go_wp2_with fail
      refine (HL.out _ HS.out).mono ?_
      rintro e w' ⟨rfl, rfl⟩
      go_wp2_with fail
      go_ret
      exact ⟨l, rfl, HS.out.2.1, by rw [HE.out]; simp [Tr.list], Below.refl _ _⟩
    · have hra : ∃ ad, r.ad = some ad := by
        obtain ⟨b2, k2, v2, l2, r2, rfl⟩ := node_of_len hr0
        exact ⟨_, rfl⟩
      obtain ⟨p, hp⟩ : ∃ p, atL r.list 0 = some p := ⟨_, List.getElem?_eq_getElem hr0⟩
      obtain ⟨q, hq⟩ : ∃ q, r.list = p :: q := by
        unfold atL at hp
        rcases hrl : r.list with _ | ⟨x, q⟩
        · rw [hrl] at hp; simp at hp
        · rw [hrl] at hp
          have : x = p := by simpa using hp
          exact ⟨q, by rw [this]⟩
      have HA := Lib.hid (fun (w : World) (h : (Tr.node b bk bv l r).In w) => at_any r 0 w h.2.2 (by omega) (by decide) (by decide))
      rw [hp] at HA
      have HW := Lib.hid (fun (w : World) (h : (Tr.node b bk bv l r).In w) => ihr 0 w h.2.2 (by omega) hr0)
      rw [show ((0 : Nat) : Int) = 0 from rfl] at HW
      have OV := Lib.hid (fun (ub : Nat) (ul ur T : Tr) (w : World) (h : (Tr.node b bk bv l r).In w) (hu : (Tr.node ub p.1 p.2 ul ur).In w) (hT : T.In w) (he : T.list = delAt r.list 0) => over_any ub p.1 p.2 _ _ l T w hu h.2.1 hT (by have e2 := del_len hr0 he; omega))
      have BA := Lib.hid (fun (c : Nat) (T : Tr) (w : World) (h : (Tr.node c p.1 p.2 l T).In w) (he : T.list = delAt r.list 0) => balanced_any c p.1 p.2 l T w h (by have e2 := del_len hr0 he; rw [Tr.len_node]; omega))
      have HQ : Hid (r.list = p :: delAt r.list 0) := by show _ = _; rw [hq]; simp [delAt]
      obtain ⟨ad, had⟩ := hra
      have k4 := k3
      rw [had] at k3
      have HAD := Lib.hid had
      clear h hs hn L1 L2 hlt ihl ihr hgt hp hq had k4
      go_enter Try.func41, Try.ntmps41
      go_wp2_with fail
      refine (HL.out _ HS.out).mono ?_
      rintro e w' ⟨rfl, rfl⟩
      go_wp2_with fail
      refine Sch.wp_region_tn ((Tr.node b bk bv l r).In) (.val 0 (.val 1 (.val 2 (.val 3 (.val 5 (.val 6 (.val 7 (.val 8 (.val 9 (.val 10 (.val 11 (.val 12 (.one 4 (.one 13 (.one 14 (.one 15 (.val 16 .done))))))))))))))))) (by kernel_rfl) (by kernel_rfl) HS.out.drew ?_
      repeat (first
        | (refine Sch.tn_q rfl rfl rfl (fun K hK => ?_); go_big_quiet_op; (first | refine hK _ ?_ | refine ⟨_, fun _ _ => rfl, hK _ ?_⟩); clear hK K)
        | (refine Sch.tn_chk _ _ _ rfl rfl rfl rfl rfl ?_; simp only [Act.put, List.setIfInBounds_toArray, List.set_cons_zero, List.set_cons_succ])
        | (refine Sch.tn_load _ _ _ _ _ rfl rfl rfl rfl (by first | exact M1.out | exact M2.out) rfl ?_; simp only [Act.put, List.setIfInBounds_toArray, List.set_cons_zero, List.set_cons_succ]))
      clear M1 M2
      replace HS : Hid ((Tr.node b bk bv l r).In w'.drew) := HS.out.drew
      clear k2
      generalize w'.drew = w0 at *
      clear k3
      refine Sch.tn_e rfl rfl (fun K hK => ?_)
      go_wp2_with fail
      refine (HA.out _ HS.out).mono ?_
      rintro e w9 ⟨U, rfl, hu, ⟨ub, ul, ur, rfl⟩, rfl⟩
      have HU := Lib.hid hu
      clear hu HA
      refine hK _ _ HS.out ?_
      clear hK K
      refine Sch.tn_e rfl rfl (fun K hK => ?_)
      go_wp2_with fail
      refine (HW.out _ HS.out).mono ?_
      rintro e w1 ⟨C, rfl, hi, he, hb⟩
      have HI := Lib.hid hi
      have HC := Lib.hid he
      replace HB : Hid (Below w'.heap.size w' w1) := bel_tr HB.out hb
      replace HS : Hid ((Tr.node b bk bv l r).In w1) := HS.out.keep hb
      replace HU := Lib.hid (HU.out.keep hb)
      clear hi he hb HW
      refine hK _ _ HS.out ?_
      clear hK K
      have OW := Lib.hid (OV.out _ _ _ _ _ HS.out HU.out HI.out HC.out)
      try rw [Tr.ad_node] at OW
      refine Sch.tn_e rfl rfl (fun K hK => ?_)
      go_wp2_with fail
      refine OW.out.mono ?_
      rintro e w2 ⟨d, rfl, -, hi, hb⟩
      have HJ := Lib.hid hi
      replace HB : Hid (Below w'.heap.size w' w2) := bel_tr HB.out hb
      replace HS : Hid ((Tr.node b bk bv l r).In w2) := HS.out.keep hb
      clear hi hb OV OW
      refine hK _ _ HS.out ?_
      clear hK K
      refine Sch.tn_e rfl rfl (fun K hK => ?_)
      go_wp2_with fail
      refine (BA.out _ _ _ HJ.out HC.out).mono ?_
      rintro e w3 hm
      have hb := hm.below
      replace HS : Hid ((Tr.node b bk bv l r).In w3) := HS.out.keep hb
      obtain ⟨c', k', v', l', r', rfl, hi, he, hb⟩ := Made.trans HB.out hm
      have HI2 := Lib.hid hi
      have HL2 := Lib.hid he
      have HB4 := Lib.hid hb
      clear hm hi he hb
      refine hK _ _ HS.out ?_
      clear hK K
      repeat (first
        | (refine Sch.tn_q rfl rfl rfl (fun K hK => ?_); go_big_quiet_op; (first | refine hK _ ?_ | refine ⟨_, fun _ _ => rfl, hK _ ?_⟩); clear hK K)
        | (refine Sch.tn_chk _ _ _ rfl rfl rfl rfl rfl ?_; simp only [Act.put, List.setIfInBounds_toArray, List.set_cons_zero, List.set_cons_succ]))
      refine Sch.tn_n ?_
      go_wp2_with fail
      go_ret
      refine ⟨.node c' k' v' l' r', rfl, HI2.out, ?_, HB4.out⟩
      have e2 := HC.out
      have e3 := HQ.out
      rw [HL2.out, list_node d, e2, HE.out, ← e3]
end Go.Proofs.Ytmmcnpcijeahcaa.J
