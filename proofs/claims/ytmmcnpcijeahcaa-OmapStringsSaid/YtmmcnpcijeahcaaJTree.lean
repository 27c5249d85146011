/-
  Trees of entries: over, the two ways to turn a tree, balanced.
-/
import Derived.Test.YtmmcnpcijeahcaaJMem
namespace Go.Proofs.Ytmmcnpcijeahcaa.J
set_option linter.unusedVariables false
open Go.RowKit V

/-- What the loads of a node's cells yield. -/
theorem nd_k {b n : Nat} {k : Int} {v : ByteArray} {l r : Option Addr} {w : World} (h : Nd w b k v l r n) : (Instr.loadAt 3 (.pointer (some ⟨b, 0, none⟩))).run Try.prog w = .ok (.int .i64 k) w := load_int h.1
theorem nd_v {b n : Nat} {k : Int} {v : ByteArray} {l r : Option Addr} {w : World} (h : Nd w b k v l r n) : (Instr.loadAt 9 (.pointer (some ⟨b, 1, none⟩))).run Try.prog w = .ok (.string v) w := load_str h.2.1
theorem nd_l {b n : Nat} {k : Int} {v : ByteArray} {l r : Option Addr} {w : World} (h : Nd w b k v l r n) : (Instr.loadAt 68 (.pointer (some ⟨b, 2, none⟩))).run Try.prog w = .ok (.pointer l) w := load_tree h.2.2.1
theorem nd_r {b n : Nat} {k : Int} {v : ByteArray} {l r : Option Addr} {w : World} (h : Nd w b k v l r n) : (Instr.loadAt 68 (.pointer (some ⟨b, 3, none⟩))).run Try.prog w = .ok (.pointer r) w := load_tree h.2.2.2.1
/-- A class of worlds: one tree is there. -/
def Sx (t l r : Tr) (w : World) : Prop := t.In w ∧ l.In w ∧ r.In w
theorem Sx.keep {t l r : Tr} {w w' : World} (h : Sx t l r w) (hb : Below w.heap.size w w') : Sx t l r w' := ⟨h.1.keep hb, h.2.1.keep hb, h.2.2.keep hb⟩

set_option maxRecDepth 100000 in
set_option maxHeartbeats 1000000 in
theorem over_any (b : Nat) (k : Int) (v : ByteArray) (tl tr l r : Tr) (w : World) (h : (Tr.node b k v tl tr).In w) (hl : l.In w) (hr : r.In w) (hs : l.len + r.len ≤ 1000000) :
    Calls Try.prog 66 #[.pointer (some ⟨b, 0, none⟩), .pointer l.ad, .pointer r.ad] w fun e w' => ∃ b', e = .returned (.pointer (some ⟨b', 0, none⟩)) ∧ w.heap.size ≤ b' ∧ (Tr.node b' k v l r).In w' ∧ Below w.heap.size w w' := by
  have HS : Hid (Sx (.node b k v tl tr) l r w.drew) := ⟨h.drew, hl.drew, hr.drew⟩
  have HL := Lib.hid (fun (w : World) (h : l.In w) => len_any l w h)
  have HR := Lib.hid (fun (w : World) (h : r.In w) => len_any r w h)
  have HB : Hid (Below w.heap.size w w.drew) := (Below.refl _ w).drew
  have h5 : (l.len : Int) ≤ 1000000 := by omega
  have h6 : (r.len : Int) ≤ 1000000 := by omega
  clear h hl hr hs
  have HK : ∀ w, Sx (.node b k v tl tr) l r w → _ := fun w h => nd_k (w := w) h.1.1
  have HV : ∀ w, Sx (.node b k v tl tr) l r w → _ := fun w h => nd_v (w := w) h.1.1
  have HK := Lib.hid HK
  have HV := Lib.hid HV
  rename_i HK0 HV0
  clear HK0 HV0
  go_enter Try.func66, Try.ntmps66
  go_wp2_with fail
  refine Sch.wp_region_tn (Sx (.node b k v tl tr) l r) (.val 0 (.val 1 (.val 2 (.val 3 (.val 4 (.val 5 (.val 6 (.val 7 (.val 8 (.val 9 (.val 10 (.val 13 (.one 11 (.val 12 (.one 14 (.val 15 (.one 16 (.one 17 (.val 18 .done))))))))))))))))))) (by kernel_rfl) (by kernel_rfl) HS.out ?_
  repeat (first
    | (refine Sch.tn_q rfl rfl rfl (fun K hK => ?_); go_big_quiet_op; (first | refine hK _ ?_ | refine ⟨_, fun _ _ => rfl, hK _ ?_⟩); clear hK K)
    | (refine Sch.tn_chk _ _ _ rfl rfl rfl rfl rfl ?_; simp only [Act.put, List.setIfInBounds_toArray, List.set_cons_zero, List.set_cons_succ])
    | (refine Sch.tn_load _ _ _ _ _ rfl rfl rfl rfl (by first | exact HK.out | exact HV.out) rfl ?_; simp only [Act.put, List.setIfInBounds_toArray, List.set_cons_zero, List.set_cons_succ]))
  clear HK HV
  generalize w.drew = w0 at *
  refine Sch.tn_e rfl rfl (fun K hK => ?_)
  go_wp2_with fail
  refine (HL.out _ HS.out.2.1).mono ?_
  rintro e w1 ⟨rfl, rfl⟩
  refine hK _ _ HS.out ?_
  clear hK K
  repeat (first
    | (refine Sch.tn_q rfl rfl rfl (fun K hK => ?_); go_big_quiet_op; (first | refine hK _ ?_ | refine ⟨_, fun _ _ => rfl, hK _ ?_⟩); clear hK K)
    | (refine Sch.tn_chk _ _ _ rfl rfl rfl rfl rfl ?_; simp only [Act.put, List.setIfInBounds_toArray, List.set_cons_zero, List.set_cons_succ]))
  refine Sch.tn_e rfl rfl (fun K hK => ?_)
  go_wp2_with fail
  refine (HR.out _ HS.out.2.2).mono ?_
  rintro e w1 ⟨rfl, rfl⟩
  refine hK _ _ HS.out ?_
  clear hK K
  repeat (first
    | (refine Sch.tn_q rfl rfl rfl (fun K hK => ?_); go_big_quiet_op; (first | refine hK _ ?_ | refine ⟨_, fun _ _ => rfl, hK _ ?_⟩); clear hK K)
    | (refine Sch.tn_chk _ _ _ rfl rfl rfl rfl rfl ?_; simp only [Act.put, List.setIfInBounds_toArray, List.set_cons_zero, List.set_cons_succ]))
  refine Sch.tn_e rfl rfl (fun K hK => ?_)
  go_wp2_with fail
  refine hK _ _ HS.out ?_
  clear hK K
  refine Sch.tn_e rfl rfl (fun K hK => ?_)
  go_wp2_with fail
  refine hK _ _ (HS.out.keep (bel_box _ _)) ?_
  clear hK K
  repeat (first
    | (refine Sch.tn_q rfl rfl rfl (fun K hK => ?_); go_big_quiet_op; (first | refine hK _ ?_ | refine ⟨_, fun _ _ => rfl, hK _ ?_⟩); clear hK K)
    | (refine Sch.tn_chk _ _ _ rfl rfl rfl rfl rfl ?_; simp only [Act.put, List.setIfInBounds_toArray, List.set_cons_zero, List.set_cons_succ]))
  refine Sch.tn_n ?_
  go_wp2_with fail
  go_ret
  exact ⟨_, rfl, HB.out.size, ⟨nd_new w1 k v l.ad r.ad _ _ (by omega) _, HS.out.2.1.keep (bel_box _ _), HS.out.2.2.keep (bel_box _ _)⟩, HB.out.alloc HB.out.size _⟩
theorem node_in {w : World} {b : Nat} {k : Int} {v : ByteArray} {l r : Tr} (h : (Tr.node b k v l r).In w) : Nd w b k v l.ad r.ad (l.len + 1 + r.len) ∧ l.In w ∧ r.In w := h
/-- What a tree that is made anew is like: the entries are these, on top is one. -/
def Made (w : World) (e : Ending) (w' : World) (L : List Pr) : Prop := ∃ b k v l r, e = .returned (.pointer (some ⟨b, 0, none⟩)) ∧ (Tr.node b k v l r).In w' ∧ (Tr.node b k v l r).list = L ∧ Below w.heap.size w w'

set_option maxRecDepth 100000 in
set_option maxHeartbeats 1000000 in
theorem leftUp_any (b : Nat) (k : Int) (v : ByteArray) (b2 : Nat) (k2 : Int) (v2 : ByteArray) (l2 r2 r : Tr) (w : World) (h : (Tr.node b k v (.node b2 k2 v2 l2 r2) r).In w) (hs : (Tr.node b k v (.node b2 k2 v2 l2 r2) r).len ≤ 1000000) :
    Calls Try.prog 78 #[.pointer (some ⟨b, 0, none⟩)] w fun e w' => Made w e w' (Tr.node b k v (.node b2 k2 v2 l2 r2) r).list := by
  have e : (Tr.node b k v (.node b2 k2 v2 l2 r2) r).list = l2.list ++ (k2, v2) :: (r2.list ++ (k, v) :: r.list) := by simp [Tr.list]
  rw [e]
  rw [Tr.len_node, Tr.len_node] at hs
  clear e
  have HS : Hid ((Tr.node b k v (.node b2 k2 v2 l2 r2) r).In w.drew) := h.drew
  have HB : Hid (Below w.heap.size w w.drew) := (Below.refl _ w).drew
  have O1 := Lib.hid (fun (w : World) (h : (Tr.node b k v (.node b2 k2 v2 l2 r2) r).In w) => over_any b k v _ _ r2 r w h h.2.1.2.2 h.2.2 (by omega))
  have O2 := Lib.hid (fun (b' : Nat) (w : World) (h : (Tr.node b k v (.node b2 k2 v2 l2 r2) r).In w) (h' : (Tr.node b' k v r2 r).In w) => over_any b2 k2 v2 _ _ l2 (.node b' k v r2 r) w h.2.1 h.2.1.2.1 h' (by rw [Tr.len_node]; omega))
  have L1 : ∀ w, (Tr.node b k v (.node b2 k2 v2 l2 r2) r).In w → _ := fun w h => nd_l (w := w) h.1
  have L2 : ∀ w, (Tr.node b k v (.node b2 k2 v2 l2 r2) r).In w → _ := fun w h => nd_l (w := w) h.2.1.1
  have L3 : ∀ w, (Tr.node b k v (.node b2 k2 v2 l2 r2) r).In w → _ := fun w h => nd_r (w := w) h.2.1.1
  have L4 : ∀ w, (Tr.node b k v (.node b2 k2 v2 l2 r2) r).In w → _ := fun w h => nd_r (w := w) h.1
  simp only [Tr.ad] at L1
  have M1 := Lib.hid L1
  have M2 := Lib.hid L2
  have M3 := Lib.hid L3
  have M4 := Lib.hid L4
  clear h hs L1 L2 L3 L4
  go_enter Try.func78, Try.ntmps78
  go_wp2_with fail
  refine Sch.wp_region_tn ((Tr.node b k v (.node b2 k2 v2 l2 r2) r).In) (.val 0 (.val 1 (.val 2 (.val 3 (.val 4 (.val 5 (.val 6 (.val 7 (.val 8 (.val 9 (.val 10 (.val 11 (.val 12 (.val 13 (.val 14 (.val 15 (.val 16 (.val 17 (.val 18 (.val 19 (.val 20 (.val 21 (.val 22 (.one 23 (.one 24 (.val 25 .done)))))))))))))))))))))))))) (by kernel_rfl) (by kernel_rfl) HS.out ?_
  repeat (first
    | (refine Sch.tn_q rfl rfl rfl (fun K hK => ?_); go_big_quiet_op; (first | refine hK _ ?_ | refine ⟨_, fun _ _ => rfl, hK _ ?_⟩); clear hK K)
    | (refine Sch.tn_chk _ _ _ rfl rfl rfl rfl rfl ?_; simp only [Act.put, List.setIfInBounds_toArray, List.set_cons_zero, List.set_cons_succ])
    | (refine Sch.tn_load _ _ _ _ _ rfl rfl rfl rfl (by first | exact M1.out | exact M2.out | exact M3.out | exact M4.out) rfl ?_; simp only [Act.put, List.setIfInBounds_toArray, List.set_cons_zero, List.set_cons_succ]))
  clear M1 M2 M3 M4
  generalize w.drew = w0 at *
  refine Sch.tn_e rfl rfl (fun K hK => ?_)
  go_wp2_with fail
  refine (O1.out _ HS.out).mono ?_
  rintro e w1 ⟨b', rfl, hb', hi, hbel⟩
  have HI := Lib.hid hi
  have HB1 : Hid (Below w.heap.size w w1) := HB.out.trans (hbel.mono HB.out.size)
  have HS1 : Hid ((Tr.node b k v (.node b2 k2 v2 l2 r2) r).In w1) := HS.out.keep hbel
  clear hi hbel hb' O1 HS HB
  refine hK _ _ HS1.out ?_
  clear hK K
  refine Sch.tn_e rfl rfl (fun K hK => ?_)
  go_wp2_with fail
  refine (O2.out _ _ HS1.out HI.out).mono ?_
  rintro e w2 ⟨b'', rfl, hb', hi, hbel⟩
  have HI2 := Lib.hid hi
  have HB2 : Hid (Below w.heap.size w w2) := HB1.out.trans (hbel.mono HB1.out.size)
  have HS2 : Hid ((Tr.node b k v (.node b2 k2 v2 l2 r2) r).In w2) := HS1.out.keep hbel
  clear hi hbel hb' O2
  refine hK _ _ HS2.out ?_
  clear hK K
  repeat (first
    | (refine Sch.tn_q rfl rfl rfl (fun K hK => ?_); go_big_quiet_op; (first | refine hK _ ?_ | refine ⟨_, fun _ _ => rfl, hK _ ?_⟩); clear hK K)
    | (refine Sch.tn_chk _ _ _ rfl rfl rfl rfl rfl ?_; simp only [Act.put, List.setIfInBounds_toArray, List.set_cons_zero, List.set_cons_succ]))
  refine Sch.tn_n ?_
  go_wp2_with fail
  go_ret
  exact ⟨_, _, _, _, _, rfl, HI2.out, rfl, HB2.out⟩

set_option maxRecDepth 100000 in
set_option maxHeartbeats 1000000 in
theorem rightUp_any (b : Nat) (k : Int) (v : ByteArray) (b2 : Nat) (k2 : Int) (v2 : ByteArray) (l l2 r2 : Tr) (w : World) (h : (Tr.node b k v l (.node b2 k2 v2 l2 r2)).In w) (hs : (Tr.node b k v l (.node b2 k2 v2 l2 r2)).len ≤ 1000000) :
    Calls Try.prog 79 #[.pointer (some ⟨b, 0, none⟩)] w fun e w' => Made w e w' (Tr.node b k v l (.node b2 k2 v2 l2 r2)).list := by
  have e : (Tr.node b k v l (.node b2 k2 v2 l2 r2)).list = (l.list ++ (k, v) :: l2.list) ++ (k2, v2) :: r2.list := by simp [Tr.list]
  rw [e]
  rw [Tr.len_node, Tr.len_node] at hs
  clear e
  have HS : Hid ((Tr.node b k v l (.node b2 k2 v2 l2 r2)).In w.drew) := h.drew
  have HB : Hid (Below w.heap.size w w.drew) := (Below.refl _ w).drew
  have O1 := Lib.hid (fun (w : World) (h : (Tr.node b k v l (.node b2 k2 v2 l2 r2)).In w) => over_any b k v _ _ l l2 w h h.2.1 h.2.2.2.1 (by omega))
  have O2 := Lib.hid (fun (b' : Nat) (w : World) (h : (Tr.node b k v l (.node b2 k2 v2 l2 r2)).In w) (h' : (Tr.node b' k v l l2).In w) => over_any b2 k2 v2 _ _ (.node b' k v l l2) r2 w h.2.2 h' h.2.2.2.2 (by rw [Tr.len_node]; omega))
  have L1 : ∀ w, (Tr.node b k v l (.node b2 k2 v2 l2 r2)).In w → _ := fun w h => nd_r (w := w) h.1
  have L2 : ∀ w, (Tr.node b k v l (.node b2 k2 v2 l2 r2)).In w → _ := fun w h => nd_l (w := w) h.2.2.1
  have L3 : ∀ w, (Tr.node b k v l (.node b2 k2 v2 l2 r2)).In w → _ := fun w h => nd_r (w := w) h.2.2.1
  have L4 : ∀ w, (Tr.node b k v l (.node b2 k2 v2 l2 r2)).In w → _ := fun w h => nd_l (w := w) h.1
  simp only [Tr.ad] at L1
  have M1 := Lib.hid L1
  have M2 := Lib.hid L2
  have M3 := Lib.hid L3
  have M4 := Lib.hid L4
  clear h hs L1 L2 L3 L4
  go_enter Try.func79, Try.ntmps79
  go_wp2_with fail
  refine Sch.wp_region_tn ((Tr.node b k v l (.node b2 k2 v2 l2 r2)).In) (.val 0 (.val 1 (.val 2 (.val 3 (.val 4 (.val 5 (.val 6 (.val 7 (.val 8 (.val 9 (.val 10 (.val 11 (.val 12 (.val 13 (.val 14 (.val 15 (.val 17 (.val 18 (.val 19 (.val 20 (.val 21 (.val 22 (.val 23 (.one 16 (.one 24 (.val 25 .done)))))))))))))))))))))))))) (by kernel_rfl) (by kernel_rfl) HS.out ?_
  repeat (first
    | (refine Sch.tn_q rfl rfl rfl (fun K hK => ?_); go_big_quiet_op; (first | refine hK _ ?_ | refine ⟨_, fun _ _ => rfl, hK _ ?_⟩); clear hK K)
    | (refine Sch.tn_chk _ _ _ rfl rfl rfl rfl rfl ?_; simp only [Act.put, List.setIfInBounds_toArray, List.set_cons_zero, List.set_cons_succ])
    | (refine Sch.tn_load _ _ _ _ _ rfl rfl rfl rfl (by first | exact M1.out | exact M2.out | exact M3.out | exact M4.out) rfl ?_; simp only [Act.put, List.setIfInBounds_toArray, List.set_cons_zero, List.set_cons_succ]))
  clear M1 M2 M3 M4
  generalize w.drew = w0 at *
  refine Sch.tn_e rfl rfl (fun K hK => ?_)
  go_wp2_with fail
  refine (O1.out _ HS.out).mono ?_
  rintro e w1 ⟨b', rfl, hb', hi, hbel⟩
  have HI := Lib.hid hi
  have HB1 : Hid (Below w.heap.size w w1) := HB.out.trans (hbel.mono HB.out.size)
  have HS1 : Hid ((Tr.node b k v l (.node b2 k2 v2 l2 r2)).In w1) := HS.out.keep hbel
  clear hi hbel hb' O1 HS HB
  refine hK _ _ HS1.out ?_
  clear hK K
  refine Sch.tn_e rfl rfl (fun K hK => ?_)
  go_wp2_with fail
  refine (O2.out _ _ HS1.out HI.out).mono ?_
  rintro e w2 ⟨b'', rfl, hb', hi, hbel⟩
  have HI2 := Lib.hid hi
  have HB2 : Hid (Below w.heap.size w w2) := HB1.out.trans (hbel.mono HB1.out.size)
  have HS2 : Hid ((Tr.node b k v l (.node b2 k2 v2 l2 r2)).In w2) := HS1.out.keep hbel
  clear hi hbel hb' O2
  refine hK _ _ HS2.out ?_
  clear hK K
  repeat (first
    | (refine Sch.tn_q rfl rfl rfl (fun K hK => ?_); go_big_quiet_op; (first | refine hK _ ?_ | refine ⟨_, fun _ _ => rfl, hK _ ?_⟩); clear hK K)
    | (refine Sch.tn_chk _ _ _ rfl rfl rfl rfl rfl ?_; simp only [Act.put, List.setIfInBounds_toArray, List.set_cons_zero, List.set_cons_succ]))
  refine Sch.tn_n ?_
  go_wp2_with fail
  go_ret
  exact ⟨_, _, _, _, _, rfl, HI2.out, rfl, HB2.out⟩
end Go.Proofs.Ytmmcnpcijeahcaa.J
