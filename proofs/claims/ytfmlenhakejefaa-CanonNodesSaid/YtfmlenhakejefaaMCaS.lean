/-
  Layer 17: the law CanonStates.
-/
import Derived.Test.YtfmlenhakejefaaMCaF
import Derived.Laws.CopyOwn
import Derived.Test.YtfmlenhakejefaaMJnC
import Derived.Test.YtfmlenhakejefaaMNPure

section
namespace Go.Proofs.Ytfmlenhakejefaa.Ca
set_option linter.unusedVariables false
open Go.RowKit V Go.Sort D Nd Qs Jn Dg
open F (Ct cv cbox Bc Sb)
attribute [local irreducible] Sch.heldN Sch.stepV Sch.stepE

theorem state_len {l : List Nt} (hv : validS l = true) (hll : l.length ≤ 100000) : (stateB l).length ≤ 10000000 := by
  obtain ⟨lp, lx⟩ := nodesB_len l 0 (Int.le_refl 0) (valid_up hv)
  have k1 := num_ten (n := l.length) (by omega)
  have k2 := num_ten (n := (textB l).length) (by omega)
  unfold stateB
  simp only [List.length_append]
  omega

/-! ### Room behind bytes -/
/-- Six hundred bytes 0. -/
def nought : List Value := List.replicate 600 (Value.int .u8 0)
theorem nought_at (i : Nat) (hi : i < 600) : nought[i]? = some (Value.int .u8 0) := by unfold nought; rw [List.getElem?_replicate, if_pos hi]
/-- A row of bytes, and room for 600 more behind it. -/
def Rm (w : World) (g : Nat) (p : List UInt8) : Prop := w.heap[g]? = some (.cells (cells8 p ++ nought).toArray 5 (0, 0))
theorem Rm.lt {w : World} {g : Nat} {p : List UInt8} (h : Rm w g p) : g < w.heap.size := (Array.getElem?_eq_some_iff.1 h).1
theorem Rm.keep {w w' : World} {g : Nat} {p : List UInt8} (h : Rm w g p) (hb : Below w.heap.size w w') : Rm w' g p := by
  unfold Rm
  rw [hb.block g h.lt]
  exact h
theorem Rm.cell {w : World} {g : Nat} {p : List UInt8} (h : Rm w g p) (i : Nat) : w.cell? ⟨g, i, none⟩ = (cells8 p ++ nought)[i]? := by
  unfold World.cell?
  rw [show (⟨g, i, none⟩ : Addr).block = g from rfl, h]
  simp
theorem Rm.row {w : World} {g : Nat} {p : List UInt8} (h : Rm w g p) : Row8 w (some ⟨g, 0, none⟩) p := by
  by_cases hp : p = []
  · exact .inl hp
  refine .inr ⟨_, _, rfl, fun i hi => ?_⟩
  rw [h.cell, Nat.zero_add, List.getElem?_append_left (by rw [cells8_length]; exact hi)]
  simp [cells8, hi]
theorem Rm.zero {w : World} {g : Nat} {p : List UInt8} (h : Rm w g p) (i : Nat) (hi : i < 600) : w.cell? ⟨g, p.length + i, none⟩ = some (.int .u8 0) := by
  rw [h.cell, List.getElem?_append_right (by rw [cells8_length]; omega), cells8_length, Nat.add_sub_cancel_left, nought_at i hi]
theorem mk_room (w : World) (n : Nat) (hn : n ≤ 1000) :
    (Instr.makeSlice 24 (.int .i64 (n : Int)) (.int .i64 ((n : Int) + 600))).run Try.prog w = .ok (.slice (some ⟨w.heap.size, 0, none⟩) n (n + 600)) (w.alloc (.cells (List.replicate (n + 600) (Value.int .u8 0)).toArray 5)) := by
  obtain ⟨i, hi, hz0, hz1, hz2⟩ := G.info_of (show (Try.prog.info? 5).map (fun i => (i.zero, i.size, i.bytes)) = some (some (.int .u8 0), 1, 1) by kernel_rfl)
  have h := run_make (P := Try.prog) w 24 5 i (.int .u8 0) Try.underlying24 hi hz0 .i64 .i64 (n : Int) ((n : Int) + 600) (by omega) (by omega) (by rw [hz2]; omega) (by omega)
  have e : madeCells (Value.cells (.int .u8 0)) (((n : Int) + 600).toNat * i.size) = (List.replicate (n + 600) (Value.int .u8 0)).toArray := by
    rw [hz1, Nat.mul_one, show ((n : Int) + 600).toNat = n + 600 by omega]
    apply Array.toList_inj.1
    rw [List.toList_toArray]
    exact toList_madeCells_one _ _
  rw [e] at h
  rw [h, Int.toNat_natCast, show ((n : Int) + 600).toNat = n + 600 by omega]
theorem room_of (p : List UInt8) : splice (List.replicate (p.length + 600) (Value.int .u8 0)) 0 (cells8 p) = cells8 p ++ nought := by
  unfold splice
  rw [List.take_zero, List.nil_append, Nat.zero_add, cells8_length, List.drop_replicate, Nat.add_sub_cancel_left]
  rfl
theorem row8_src {w : World} {b : Option Addr} {p : List UInt8} (h : Row8 w b p) : 0 < (cells8 p).length → ∃ ad, b = some ad ∧ ∀ j v, (cells8 p)[j]? = some v → w.cell? (ad.add j) = some v := by
  intro hl
  rw [cells8_length] at hl
  obtain ⟨b', o, rfl, hc⟩ := h.resolve_left (by intro e; rw [e] at hl; simp at hl)
  refine ⟨_, rfl, fun j v hj => ?_⟩
  have hjl : j < p.length := by
    have := (List.getElem?_eq_some_iff.1 hj).1
    rwa [cells8_length] at this
  have e2 : (⟨b', o, none⟩ : Addr).add j = ⟨b', o + j, none⟩ := by unfold Addr.add; split <;> simp_all
  rw [e2, hc j hjl, ← hj]
  simp [cells8, hjl]
theorem cut_all (g n m : Nat) (hm : m = n + 600) (hn : n ≤ 1000) (z : Int) (hz : z = (m : Int)) : ∀ w, (Instr.slice 24 (.slice (some ⟨g, 0, none⟩) n m) none (some (.int .i64 z)) none).run Try.prog w = .ok (.slice (some ⟨g, 0, none⟩) m m) w := by
  intro w
  subst hz
  have h1 : ¬ ((m : Int) < 0) := by omega
  have h2 : (m : Int) ≤ (m : Int) := Int.le_refl _
  go_simp
  rw [if_pos (by omega)]
  rw [show ((n : Int) + 600).toNat = n + 600 by omega]
theorem cut_back (g n m : Nat) (hm : m = n + 600) (hn : n ≤ 1000) (z : Int) (hz : z = (n : Int)) : ∀ w, (Instr.slice 24 (.slice (some ⟨g, 0, none⟩) m m) (some (.int .i64 z)) none none).run Try.prog w = .ok (.slice (some ⟨g, n, none⟩) 600 600) w := by
  intro w
  subst hz
  have h1 : ¬ ((n : Int) < 0) := by omega
  have h2 : (n : Int) ≤ (m : Int) := by omega
  have h3 : m - n = 600 := by omega
  have h4 : n ≠ m := by omega
  go_simp
  intro h
  omega
theorem ix8 (b o n c k : Nat) (z : Int) (hz : z = (k : Int)) (hk : k < n) : ∀ w, (Instr.indexAt 24 (.slice (some ⟨b, o, none⟩) n c) (.int .i64 z)).run Try.prog w = .ok (.pointer (some ⟨b, o + k, none⟩)) w := by
  intro w
  subst hz
  have hk2 : (k : Int) < (n : Int) := by omega
  go_simp
set_option maxRecDepth 100000 in
set_option maxHeartbeats 4000000 in
theorem states_law (l : List Nt) (p : List UInt8) (a b : Option Addr) (c n : Nat) (w : World) (hx : RowN w a l) (hp : Row8 w b p) (hbn : b = none → n = 0) (hna : a = none → c = 0) :
    Calls Try.prog 3 #[.slice a l.length c, .slice b p.length n] w fun e w' => e = .returned (.bool true) ∧ Below w.heap.size w w' := by
  have HB := Lib.hid (Below.refl w.heap.size w)
  by_cases hl : 60 < l.length
  · have hl2 : (60 : Int) < (l.length : Int) := by omega
    clear hl hx hp hbn
    go_enter Try.func3, Try.ntmps3
    go_wp2_with fail
    refine (known_any _).mono ?_
    rintro e w99 ⟨rfl, hb⟩
    replace HB := bel_tr HB hb
    clear hb
    go_wp2_with fail
    go_ret
    exact ⟨rfl, HB.out⟩
  have hl2 : ¬ (60 : Int) < (l.length : Int) := by omega
  by_cases hq : 60 < p.length
  · have hq2 : (60 : Int) < (p.length : Int) := by omega
    clear hl hq hx hp hbn
    go_enter Try.func3, Try.ntmps3
    go_wp2_with fail
    refine (known_any _).mono ?_
    rintro e w99 ⟨rfl, hb⟩
    replace HB := bel_tr HB hb
    clear hb
    go_wp2_with fail
    go_ret
    exact ⟨rfl, HB.out⟩
  have hq2 : ¬ (60 : Int) < (p.length : Int) := by omega
  have HX := Lib.hid hx
  have HP := Lib.hid hp
  have HPn := Lib.hid hbn
  have HRi := Lib.hid (fun w h => right_ref l a c w h (by omega))
  rw [show (validS l && decide (l.length ≤ 65536)) = validS l by rw [decide_eq_true (by omega : l.length ≤ 65536), Bool.and_true]] at HRi
  have HN := Lib.hid (fun q h => appB_no (p := q) (l := l) h)
  have HY := Lib.hid (fun q h => appB_yes (p := q) (l := l) h (by omega))
  have HBy := Lib.hid (fun hv w hx => bytes_ref l hv a c w hx (by omega))
  have HTe := Lib.hid (fun m z p k c j d (w : World) h hk hj hx hp => encodes_true (l := l) (m := m) (z := z) (a := a) (p := p) (k := k) (c := c) (j := j) (d := d) (w := w) h hk hj (by omega) hx hp)
  have HTa := Lib.hid (fun m z s p' i n k c j d (w : World) h hi hk hj hs hsn hx hp => appends_true (q := p) (l := l) (m := m) (z := z) (s := s) (a := a) (p := p') (i := i) (n := n) (k := k) (c := c) (j := j) (d := d) (w := w) h hi hk hj (by omega) (by omega) hs hsn hx hp)
  have HTs := Lib.hid (fun x z k c (w : World) h hk hx => sizes_true (l := l) (x := x) (z := z) (a := a) (k := k) (c := c) (w := w) h hk (by omega) hx)
  have HLn := Lib.hid (fun h => state_len (l := l) h (by omega))
  have HCo := Lib.hid (fun w h => copy_ref l a c w h hna (by omega))
  clear hx hp hbn
  have HPl : Hid (p.length ≤ 60) := Nat.le_of_not_lt hq
  have HLl : Hid (l.length ≤ 60) := Nat.le_of_not_lt hl
  clear hl hq
  go_enter Try.func3, Try.ntmps3
  go_wp2_with fail
  refine (HRi.out _ HX.out).mono ?_
  rintro e w1 ⟨rfl, hb⟩
  replace HB := bel_tr HB hb
  replace HX := Lib.hid (HX.out.keep hb)
  replace HP := Lib.hid (HP.out.keep hb)
  clear hb HRi
  rcases hv : validS l with _ | _
  · have HT1 := Lib.hid (fun w hx => HTe.out [] 2 none l.length c 0 0 w (HN.out [] hv) rfl rfl hx (.inl rfl))
    have HT2 := Lib.hid (fun w hx hp => HTa.out [] 2 b none p.length n l.length c 0 0 w (HN.out p hv) rfl rfl rfl hp HPn.out hx (.inl rfl))
    have HT3 := Lib.hid (fun w hx => HTs.out 0 2 l.length c w (by rw [HN.out [] hv]; exact ⟨rfl, rfl⟩) rfl hx)
    clear hv HN HY HBy HTe HTa HTs HLn HCo
    go_wp2_with fail
    refine (HT1.out _ HX.out).mono ?_
    rintro e w2 ⟨rfl, hb⟩
    replace HB := bel_tr HB hb
    replace HX := Lib.hid (HX.out.keep hb)
    replace HP := Lib.hid (HP.out.keep hb)
    clear hb HT1
    go_wp2_with fail
    refine (HT2.out _ HX.out HP.out).mono ?_
    rintro e w3 ⟨rfl, hb⟩
    replace HB := bel_tr HB hb
    replace HX := Lib.hid (HX.out.keep hb)
    clear hb HT2 HP
    go_wp2_with fail
    refine (HT3.out _ HX.out).mono ?_
    rintro e w4 ⟨rfl, hb⟩
    replace HB := bel_tr HB hb
    clear hb HT3 HX
    go_wp2_with fail
    refine (known_any _).mono ?_
    rintro e w99 ⟨rfl, hb⟩
    replace HB := bel_tr HB hb
    clear hb
    go_wp2_with fail
    go_ret
    exact ⟨rfl, HB.out⟩
  have HT1 := Lib.hid (fun w p j d (hj : j = (stateB l).length) hx hp => HTe.out (stateB l) 0 p l.length c j d w (HY.out [] hv) rfl hj hx hp)
  have HT2 := Lib.hid (fun w s i m p' j d (hi : i = p.length) (hj : j = (p ++ stateB l).length) hs hsn hx hp => HTa.out (p ++ stateB l) 0 s p' i m l.length c j d w (HY.out p hv) hi rfl hj hs hsn hx hp)
  have HT3 := Lib.hid (fun w hx => HTs.out ((stateB l).length : Int) 0 l.length c w (by rw [HY.out [] hv]; exact ⟨rfl, rfl⟩) rfl hx)
  have HBt := Lib.hid (HBy.out hv)
  have HZl := Lib.hid (HLn.out hv)
  clear hv HN HY HBy HTe HTa HTs HLn
  generalize stateB l = Z at *
  go_wp2_with fail
  refine (HCo.out _ HX.out).mono ?_
  rintro e w2 ⟨v2, rfl, ho, hb⟩
  obtain ⟨a2, c2, rfl, hr, -⟩ := ON.row ho
  have HW := Lib.hid hr
  replace HB := bel_tr HB hb
  replace HX := Lib.hid (HX.out.keep hb)
  replace HP := Lib.hid (HP.out.keep hb)
  clear hb ho hr HCo
  have hmk := mk_room w2 p.length (by have := HPl.out; omega)
  have hb := bel_box w2 (.cells (List.replicate (p.length + 600) (Value.int .u8 0)).toArray 5)
  have HRm0 : Hid ((w2.alloc (.cells (List.replicate (p.length + 600) (Value.int .u8 0)).toArray 5)).heap[w2.heap.size]? = some (.cells (List.replicate (p.length + 600) (Value.int .u8 0)).toArray 5 (0, 0))) := by
    show (w2.heap.push _)[w2.heap.size]? = _
    simp
  have HP3 := Lib.hid (HP.out.keep hb)
  obtain ⟨g, hg⟩ : ∃ g, g = w2.heap.size := ⟨_, rfl⟩
  have HK : Hid (∀ w4, Below g (w2.alloc (.cells (List.replicate (p.length + 600) (Value.int .u8 0)).toArray 5)) w4 → Below w2.heap.size w2 w4) := fun w4 h => hb.trans (hg ▸ h)
  rw [← hg] at hmk HRm0
  generalize w2.alloc (.cells (List.replicate (p.length + 600) (Value.int .u8 0)).toArray 5) = w3 at *
  clear hb hg
  go_upto_region 7 with fail
  clear hmk
  obtain ⟨L0, hL0⟩ : ∃ L0, L0 = List.replicate (p.length + 600) (Value.int .u8 0) := ⟨_, rfl⟩
  rw [← hL0] at HRm0
  have HL0 : Hid (splice L0 0 (cells8 p) = cells8 p ++ nought) := by show _ = _; rw [hL0]; exact room_of p
  have HL1 : Hid (L0.length = p.length + 600) := by show _ = _; rw [hL0, List.length_replicate]
  have HSr := Lib.hid (row8_src HP3.out)
  clear hL0 HP3
  obtain ⟨C8, hC8⟩ : ∃ C8, C8 = cells8 p := ⟨_, rfl⟩
  have HC1 : Hid (C8.length = p.length) := by show _ = _; rw [hC8, cells8_length]
  have HC2 : Hid (∀ v ∈ C8, v.oneCell' = true) := by
    intro u hu
    rw [hC8] at hu
    simp only [cells8, List.mem_map] at hu
    obtain ⟨x, _, rfl⟩ := hu
    rfl
  have HCo8 := Lib.hid hC8
  rw [← hC8] at HSr HL0
  clear hC8
  go_upto_region 8 with (refine wpList_copy_splice rfl (.tmp 44) (.tmp 45) _ _ rfl 5 Try.underlying24 (by kernel_rfl) _ _ _ _ _ _ rfl rfl g 0 L0 5 HRm0.out C8 (by rw [HC1.out]; exact (Nat.min_self _).symm) (fun h => ⟨rfl, HSr.out h⟩) (by rw [HC1.out, HL1.out]; omega) HC2.out g w3 (Below.refl _ _) (Nat.le_refl _) ?_; intro w4 hg4 hb4)
  have HRm : Hid (Rm w4 g p) := by
    show w4.heap[g]? = _
    have h := hg4.out
    rw [HL0.out, HCo8.out] at h
    exact h
  have hb := HK.out w4 hb4
  replace HB := bel_tr HB hb
  replace HX := Lib.hid (HX.out.keep hb)
  replace HP := Lib.hid (HP.out.keep hb)
  replace HW := Lib.hid (HW.out.keep hb)
  clear hb hb4 hg4 HL0 HCo8 HC1 HC2 HSr HL1 HRm0 HK
  go_wp2_with (at_builtin; refine wpList_app8 rfl _ (.tmp 47) rfl w4.heap.size (.slice none 0 0) [] rfl (O8.nil _ _) b p n rfl HP.out HPn.out (by have := HPl.out; simp only [List.length_nil]; omega) (Nat.le_refl _) ?_; intro v5 w5 ho5 hg5 hgr5; rw [List.nil_append] at ho5; have HO := Lib.hid ho5; have hb5 := (Below.refl w4.heap.size w4).grown hg5 (Nat.le_refl _) (fun k hk => by cases hk); clear ho5 hg5 hgr5)
  refine (HBt.out _ (HX.out.keep hb5)).mono ?_
  rintro e w6 ⟨v6, rfl, ho, hb6⟩
  obtain ⟨a6, c6, rfl, hr6, hn6, -⟩ := ho.row
  replace HO := Lib.hid (HO.out.below hb6)
  have HR6 := Lib.hid hr6
  have HN6 := Lib.hid (fun h => (hn6 h).1)
  have HB6 : Hid (Below w4.heap.size w4 w6) := hb5.trans (hb6.mono hb5.size)
  clear ho hr6 hn6 hb6 hb5
  obtain ⟨M, hM⟩ : ∃ M, M = p ++ Z := ⟨_, rfl⟩
  rw [← hM] at HT2
  have HM := Lib.hid hM
  clear hM
  go_upto_region 9 with (at_builtin; refine wpList_app8 rfl (.tmp 48) (.tmp 50) rfl w4.heap.size v5 p rfl HO.out a6 Z c6 rfl HR6.out HN6.out (by have := HPl.out; have := HZl.out; omega) HB6.out.size ?_; intro v7 w7 ho7 hg7 hgr7; rw [← HM.out] at ho7; have HO7 := Lib.hid ho7; have HB7 := Lib.hid (HB6.out.grown hg7 HB6.out.size (fun k hk => (HO.out.lt k hk).1)); clear ho7 hg7 hgr7)
  have hb := HB7.out
  obtain ⟨a7, c7, rfl, hr7, -⟩ := HO7.out.row
  have HA := Lib.hid hr7
  replace HB := bel_tr HB hb
  replace HX := Lib.hid (HX.out.keep hb)
  replace HRm := Lib.hid (HRm.out.keep hb)
  replace HW := Lib.hid (HW.out.keep hb)
  clear hb hr7 HO HR6 HN6 HB6 HB7 HP
  clear HO7
  go_wp2_with fail
  refine (HBt.out _ HX.out).mono ?_
  rintro e w8 ⟨v8, rfl, ho, hb⟩
  obtain ⟨a8, c8, rfl, hr8, -, -⟩ := ho.row
  have HR8 := Lib.hid hr8
  replace HB := bel_tr HB hb
  replace HX := Lib.hid (HX.out.keep hb)
  replace HRm := Lib.hid (HRm.out.keep hb)
  replace HW := Lib.hid (HW.out.keep hb)
  replace HA := Lib.hid (HA.out.keep hb)
  clear hb ho hr8
  go_wp2_with fail
  refine (HT1.out _ _ _ _ rfl HX.out HR8.out).mono ?_
  rintro e w9 ⟨rfl, hb⟩
  replace HB := bel_tr HB hb
  replace HX := Lib.hid (HX.out.keep hb)
  replace HRm := Lib.hid (HRm.out.keep hb)
  replace HW := Lib.hid (HW.out.keep hb)
  replace HA := Lib.hid (HA.out.keep hb)
  clear hb HR8 HT1
  go_wp2_with fail
  refine (HT2.out _ _ _ _ _ _ _ rfl rfl HRm.out.row (fun h => by cases h) HX.out HA.out).mono ?_
  rintro e w10 ⟨rfl, hb⟩
  replace HB := bel_tr HB hb
  replace HX := Lib.hid (HX.out.keep hb)
  replace HRm := Lib.hid (HRm.out.keep hb)
  replace HW := Lib.hid (HW.out.keep hb)
  clear hb HA HT2
  go_wp2_with fail
  refine (HBt.out _ HX.out).mono ?_
  rintro e w11 ⟨v11, rfl, ho, hb⟩
  obtain ⟨a11, c11, rfl, -, -, -⟩ := ho.row
  replace HB := bel_tr HB hb
  replace HX := Lib.hid (HX.out.keep hb)
  replace HRm := Lib.hid (HRm.out.keep hb)
  replace HW := Lib.hid (HW.out.keep hb)
  clear hb ho HBt
  go_wp2_with fail
  refine (HT3.out _ HX.out).mono ?_
  rintro e w12 ⟨rfl, hb⟩
  replace HB := bel_tr HB hb
  replace HX := Lib.hid (HX.out.keep hb)
  replace HRm := Lib.hid (HRm.out.keep hb)
  replace HW := Lib.hid (HW.out.keep hb)
  clear hb HT3
  have HSm := Lib.hid (same_ref l l a a2 c c2 w12 HX.out HW.out (by have := HLl.out; omega) (by have := HLl.out; omega))
  rw [decide_eq_true rfl] at HSm
  go_wp2_with fail
  refine HSm.out.mono ?_
  rintro e w13 ⟨rfl, hb⟩
  replace HB := bel_tr HB hb
  replace HRm := Lib.hid (HRm.out.keep hb)
  clear hb HSm HX HW
  have hs1 := cut_all g p.length (p.length + 600) rfl (by have := HPl.out; omega) ((p.length + 600 : Nat) : Int) rfl
  have hs2 := cut_back g p.length (p.length + 600) rfl (by have := HPl.out; omega) (p.length : Int) rfl
  go_wp2_with fail
  clear hs1 hs2
  go_loop [86] (fun i => ∃ k : Nat, k ≤ 600 ∧ i = .int .i64 (k : Int)) (fun i => 600 - (intOf i).toNat)
  case atStart => exact ⟨0, by omega, rfl⟩
  case round =>
    obtain ⟨k, hk, rfl⟩ := hrel
    by_cases hlt : k < 600
    · have hi0 : (k : Int) < 600 := by omega
      have hx0 := ix8 g p.length 600 600 k (k : Int) rfl hlt
      have hc := HRm.out.zero k hlt
      go_wp2_with fail
      go_round
      case rel => exact ⟨k + 1, by omega, by go_num⟩
      case measure => simp [intOf]; omega
    · obtain rfl : k = 600 := by omega
      go_wp2_with fail
      refine (known_any _).mono ?_
      rintro e w99 ⟨rfl, hb⟩
      replace HB := bel_tr HB hb
      clear hb
      go_wp2_with fail
      go_ret
      exact ⟨rfl, HB.out⟩
end Go.Proofs.Ytfmlenhakejefaa.Ca
end

/-
  Layer 17: whether bytes begin with others.
-/
section
namespace Go.Proofs.Ytfmlenhakejefaa.Ca
set_option linter.unusedVariables false
open Go.RowKit V Go.Sort D Nd Qs Jn Dg
open F (Ct cv cbox Bc Sb)
attribute [local irreducible] Sch.heldN Sch.stepV Sch.stepE

theorem O8.le {w : World} {base : Nat} {a : Option Addr} {n c : Nat} {l : List UInt8} (h : O8 w base (.slice a n c) l) : l.length ≤ c := by
  rcases h.2 with ⟨e, h0⟩ | ⟨g, cap, cur, e, hb, hg, hnn, hc, hs, ht⟩
  · simp only [Value.slice.injEq] at e; omega
  · simp only [Value.slice.injEq] at e; omega
theorem row8_take {w : World} {a : Option Addr} {l : List UInt8} (h : Row8 w a l) (m : Nat) : Row8 w a (l.take m) := by
  rcases h with rfl | ⟨b, o, rfl, hc⟩
  · exact .inl (by simp)
  · refine .inr ⟨b, o, rfl, fun i hi => ?_⟩
    rw [List.length_take] at hi
    rw [hc i (by omega), List.getElem_take]
theorem cut_h (a : Option Addr) (n c m : Nat) (hm : m ≤ c) (z : Int) (hz : z = (m : Int)) : ∀ w, (Instr.slice 24 (.slice a n c) none (some (.int .i64 z)) none).run Try.prog w = .ok (.slice a m c) w := by
  intro w
  subst hz
  have h1 : (m : Int) ≤ (c : Int) := by omega
  go_simp
/-- Whether bytes begin with others. -/
def begB (x y : List UInt8) : Bool := decide (y.length ≤ x.length) && decide (x.take y.length = y)
theorem begB_iff {x y : List UInt8} : begB x y = true ↔ ∃ t, x = y ++ t := by
  unfold begB
  rw [Bool.and_eq_true, decide_eq_true_eq, decide_eq_true_eq]
  constructor
  · rintro ⟨h1, h2⟩
    exact ⟨x.drop y.length, by rw [← h2, List.length_take, Nat.min_eq_left h1]; exact (List.take_append_drop _ _).symm⟩
  · rintro ⟨t, rfl⟩
    exact ⟨by simp, by simp⟩
set_option maxRecDepth 100000 in
set_option maxHeartbeats 4000000 in
theorem begins_any (x y : List UInt8) (a b : Option Addr) (c d : Nat) (hc : x.length ≤ c) (hlx : x.length ≤ 1000000000) (hly : y.length ≤ 1000000000) (w : World) (hx : Row8 w a x) (hy : Row8 w b y) :
    Calls Try.prog 25 #[.slice a x.length c, .slice b y.length d] w fun e w' => e = .returned (.bool (begB x y)) ∧ Below w.heap.size w w' := by
  by_cases hle : y.length ≤ x.length
  case neg =>
    have hg : decide (y.length ≤ x.length) = false := decide_eq_false hle
    have e : begB x y = false := by unfold begB; rw [decide_eq_false hle, Bool.false_and]
    rw [e]
    clear hx hy hle e hc
    go_enter Try.func25, Try.ntmps25
    go_wp2_with fail
    refine Sch.wp_region_tn (fun _ => True) (.val 0 (.val 1 (.val 2 (.val 3 (.val 4 (.val 5 (.val 6 (.val 7 (.val 8 (.val 9 (.val 11 (.two 10 (.one 12 (.val 13 (.val 14 (.val 15 .done)))) 12 (.one 10 (.val 13 (.val 14 (.val 15 .done)))))))))))))))) (by kernel_rfl) (by kernel_rfl) trivial ?_
    have HF : (some false == some true) = false := rfl
    repeat (first
      | (refine Sch.tn_q rfl rfl rfl (fun K hK => ?_); go_big_quiet_op; (first | refine hK _ ?_ | refine ⟨_, fun _ _ => rfl, hK _ ?_⟩); clear hK K)
      | (refine Sch.tn_s _ rfl HF rfl ?_; simp only [Act.put, List.setIfInBounds_toArray, List.set_cons_zero, List.set_cons_succ])
      | (refine Sch.tn_se _ rfl HF rfl ?_; simp only [Act.put, List.setIfInBounds_toArray, List.set_cons_zero, List.set_cons_succ]))
    all_goals (first | refine Sch.tn_two ?_ ?_ | skip)
    all_goals
      repeat (first
        | (refine Sch.tn_q rfl rfl rfl (fun K hK => ?_); go_big_quiet_op; (first | refine hK _ ?_ | refine ⟨_, fun _ _ => rfl, hK _ ?_⟩); clear hK K)
        | (refine Sch.tn_s _ rfl HF rfl ?_; simp only [Act.put, List.setIfInBounds_toArray, List.set_cons_zero, List.set_cons_succ])
        | (refine Sch.tn_se _ rfl HF rfl ?_; simp only [Act.put, List.setIfInBounds_toArray, List.set_cons_zero, List.set_cons_succ]))
    all_goals (refine Sch.tn_n ?_)
    all_goals (go_wp2_with fail)
    all_goals (go_ret)
    all_goals (exact ⟨rfl, (Below.refl _ _).drew⟩)
  have hi : (y.length : Int) ≤ (x.length : Int) := by omega
  have hsl := cut_h a x.length c y.length (by omega) (y.length : Int) rfl
  have HE : Hid (begB x y = decide (x.take y.length = y)) := by show _ = _; unfold begB; rw [decide_eq_true hle, Bool.true_and]
  have HTk := Lib.hid (row8_take hx y.length)
  have HTl : Hid ((x.take y.length).length = y.length) := by show _ = _; rw [List.length_take]; omega
  have HYr := Lib.hid hy
  clear hx hy hc
  obtain ⟨m, hm⟩ : ∃ m, m = x.take y.length := ⟨_, rfl⟩
  rw [← hm] at HE HTk HTl
  clear hm
  go_enter Try.func25, Try.ntmps25
  go_wp2_with fail
  refine Sch.wp_region_tn (fun _ => True) (.val 0 (.val 1 (.val 2 (.val 3 (.val 4 (.val 5 (.val 6 (.val 7 (.val 8 (.val 9 (.val 11 (.two 10 (.one 12 (.val 13 (.val 14 (.val 15 .done)))) 12 (.one 10 (.val 13 (.val 14 (.val 15 .done)))))))))))))))) (by kernel_rfl) (by kernel_rfl) trivial ?_
  repeat (refine Sch.tn_q rfl rfl rfl (fun K hK => ?_); go_big_quiet_op; (first | refine hK _ ?_ | refine ⟨_, fun _ _ => rfl, hK _ ?_⟩); clear hK K)
  have hc1 := G.conv_row (P := Try.prog) (w := w.drew) (HTk.out.keep ((Below.refl _ _).drew)) y.length HTl.out.symm c 24 9 5 Try.underlying24 Try.underlying5 Try.underlying9
  have hc2 := conv_b (HYr.out.keep ((Below.refl _ _).drew)) d
  refine Sch.tn_two ?_ ?_
  · skip
    refine Sch.tn_e rfl rfl (fun K hK => ?_)
    go_wp2_with fail
    refine hK _ _ trivial ?_
    clear hK K
    try simp only [Act.put, List.setIfInBounds_toArray, List.set_cons_zero, List.set_cons_succ]
    refine Sch.tn_e rfl rfl (fun K hK => ?_)
    go_wp2_with fail
    refine hK _ _ trivial ?_
    clear hK K
    try simp only [Act.put, List.setIfInBounds_toArray, List.set_cons_zero, List.set_cons_succ]
    repeat (refine Sch.tn_q rfl rfl rfl (fun K hK => ?_); go_big_quiet_op; (first | refine hK _ ?_ | refine ⟨_, fun _ _ => rfl, hK _ ?_⟩); clear hK K)
    refine Sch.tn_n ?_
    go_wp2_with fail
    go_ret
    refine ⟨?_, (Below.refl _ _).drew⟩
    rw [HE.out]
    exact congrArg (fun b => Ending.returned (Value.bool b)) (show (m == y) = decide (m = y) by rw [Bool.eq_iff_iff, beq_iff_eq, decide_eq_true_eq])
  · skip
    refine Sch.tn_e rfl rfl (fun K hK => ?_)
    go_wp2_with fail
    refine hK _ _ trivial ?_
    clear hK K
    try simp only [Act.put, List.setIfInBounds_toArray, List.set_cons_zero, List.set_cons_succ]
    refine Sch.tn_e rfl rfl (fun K hK => ?_)
    go_wp2_with fail
    refine hK _ _ trivial ?_
    clear hK K
    try simp only [Act.put, List.setIfInBounds_toArray, List.set_cons_zero, List.set_cons_succ]
    repeat (refine Sch.tn_q rfl rfl rfl (fun K hK => ?_); go_big_quiet_op; (first | refine hK _ ?_ | refine ⟨_, fun _ _ => rfl, hK _ ?_⟩); clear hK K)
    refine Sch.tn_n ?_
    go_wp2_with fail
    go_ret
    refine ⟨?_, (Below.refl _ _).drew⟩
    rw [HE.out]
    exact congrArg (fun b => Ending.returned (Value.bool b)) (show (m == y) = decide (m = y) by rw [Bool.eq_iff_iff, beq_iff_eq, decide_eq_true_eq])
end Go.Proofs.Ytfmlenhakejefaa.Ca
end

/-
  Layer 17: the law CanonHolds.
-/
section
namespace Go.Proofs.Ytfmlenhakejefaa.Ca
set_option linter.unusedVariables false
open Go.RowKit V Go.Sort D Nd Qs Jn Dg
open F (Ct cv cbox Bc Sb)
attribute [local irreducible] Sch.heldN Sch.stepV Sch.stepE

theorem on_putRune {w : World} {base g c m : Nat} {l : List Nt} (h : ON w base Qs.E (.slice (some ⟨g, 0, none⟩) m c) l) {k : Nat} (hk : k < l.length) (z : Int) : ON (w.setCell ⟨g, k * 6 + 5, none⟩ (.int .i32 z)) base Qs.E (.slice (some ⟨g, 0, none⟩) m c) (l.set k (l[k].1, l[k].2.1, l[k].2.2.1, z)) := by
  rcases h.cur with ⟨e, -⟩ | ⟨g', cap, cur, e, hb, hg, hn, hc, hs, hr⟩
  · cases e
  · simp only [Value.slice.injEq, Option.some.injEq, Addr.mk.injEq, and_true] at e
    obtain ⟨rfl, rfl, rfl⟩ := e
    have := on_of (l := l.set k (l[k].1, l[k].2.1, l[k].2.2.1, z)) hb (heap_set hg (k * 6 + 5) (.int .i32 z)) (by simpa using hn) hc (by simpa using hs) (fun i hi j hj => ?_)
    · rw [List.length_set] at this; exact this
    · rw [List.length_set] at hi
      simp only [Array.getElem?_setIfInBounds]
      rw [List.getElem_set]
      by_cases e : k = i
      · subst e
        rw [if_pos rfl]
        by_cases e4 : j = 5
        · subst e4
          simp; omega
        · rw [if_neg (by omega), hr k hi j hj]
          match j, hj, e4 with
          | 0, _, _ => rfl
          | 1, _, _ => rfl
          | 2, _, _ => rfl
          | 3, _, _ => rfl
          | 4, _, _ => rfl
          | 5, _, h => exact absurd rfl h
      · rw [if_neg e, if_neg (by omega)]
        exact hr i hi j hj
theorem set_kill {l : List Nt} {i : Nat} (h : i < l.length) : l.set i (l[i].1, l[i].2.1, l[i].2.2.1, 0) = l.modify i killN := by
  refine List.ext_getElem (by rw [List.length_set, List.length_modify]) fun j h1 h2 => ?_
  rw [List.getElem_set, List.getElem_modify]
  by_cases e : i = j
  · subst e
    rw [if_pos rfl, if_pos rfl]
    rfl
  · rw [if_neg e, if_neg e]
/-- Two contexts' boxes. -/
def Bb (g h : Nat) (x y u v : Value) (w : World) : Prop := Sb g x y w ∧ Sb h u v w
theorem Bb.keep {g h : Nat} {x y u v : Value} {w w' : World} (k : Bb g h x y u v w) (hb : Below w.heap.size w w') : Bb g h x y u v w' := ⟨k.1.keep hb, k.2.keep hb⟩
theorem Bb.l {g h : Nat} {x y u v : Value} : ∀ w, Bb g h x y u v w → (Instr.loadAt 43 (.pointer (some ⟨g, 0, none⟩))).run Try.prog w = .ok (cv x y) w := fun w k => F.load_ctx k.1
theorem Bb.r {g h : Nat} {x y u v : Value} : ∀ w, Bb g h x y u v w → (Instr.loadAt 43 (.pointer (some ⟨h, 0, none⟩))).run Try.prog w = .ok (cv u v) w := fun w k => F.load_ctx k.2
/-- What the law asks of one state: its bytes and the error. -/
structure Hb1 (l : List Nt) (X : List UInt8) (e : Int) (va : Bool) : Prop where
  ap : appB [] l = (X, e)
  er : e = if va = true then 0 else 2
  vl : validS l = va
  by_ : va = true → X = stateB l
theorem hb_of {l : List Nt} (hl : l.length ≤ 60) : Hb1 l (appB [] l).1 (appB [] l).2 (validS l) := by
  rcases hv : validS l with _ | _
  · exact ⟨rfl, by rw [appB_no hv]; rfl, hv, fun h => by cases h⟩
  · exact ⟨rfl, by rw [appB_yes hv (by omega)]; rfl, hv, fun _ => by rw [appB_yes hv (by omega)]; rfl⟩
theorem hb_beg {a b : List Nt} {X Y : List UInt8} {e f : Int} (ha : Hb1 a X e true) (hb : Hb1 b Y f true) (la : a.length ≤ 60) (lb : b.length ≤ 60) : begB X Y = decide (a = b) ∧ ((X.length : Int) == 0) = false := by
  rw [ha.by_ rfl, hb.by_ rfl]
  constructor
  · rw [Bool.eq_iff_iff, begB_iff, decide_eq_true_eq]
    constructor
    · rintro ⟨t, ht⟩
      exact (state_pf (s := []) (t := t) ha.vl hb.vl (by omega) (by omega) (by rw [List.append_nil]; exact ht)).1
    · rintro rfl
      exact ⟨[], (List.append_nil _).symm⟩
  · rw [beq_eq_false_iff_ne]
    intro h
    exact state_ne a (List.eq_nil_of_length_eq_zero (by omega))
theorem hb_len {l : List Nt} {X : List UInt8} {e : Int} {va : Bool} (h : Hb1 l X e va) (hl : l.length ≤ 60) : X.length ≤ 10000000 := by
  rcases va with _ | _
  · have := h.ap
    rw [appB_no h.vl] at this
    cases this
    simp
  · rw [h.by_ rfl]
    exact state_len h.vl (by omega)
/-- What the law asks of one context. -/
structure Hc1 (A : Ct) (X : List UInt8) (e : Int) (va : Bool) : Prop where
  ap : ctxR A = (X, e)
  er : e = if va = true then 0 else 2
  vl : F.isCompR A = va
  by_ : va = true → X = ctxB A
theorem hc_of {A : Ct} (h1 : A.1.length ≤ 60) (h2 : A.2.length ≤ 60) : Hc1 A (ctxR A).1 (ctxR A).2 (F.isCompR A) := by
  rcases hv : F.isCompR A with _ | _
  · exact ⟨rfl, by rw [ctxR_no hv]; rfl, hv, fun h => by cases h⟩
  · exact ⟨rfl, by rw [ctxR_yes hv (by omega) (by omega)]; rfl, hv, fun _ => by rw [ctxR_yes hv (by omega) (by omega)]⟩
theorem hc_beg {a b : Ct} {X Y : List UInt8} {e f : Int} (ha : Hc1 a X e true) (hb : Hc1 b Y f true) (l1 : a.1.length ≤ 60) (l2 : a.2.length ≤ 60) (l3 : b.1.length ≤ 60) (l4 : b.2.length ≤ 60) : begB X Y = decide (a = b) := by
  rw [ha.by_ rfl, hb.by_ rfl, Bool.eq_iff_iff, begB_iff, decide_eq_true_eq]
  constructor
  · rintro ⟨t, ht⟩
    exact (ctx_pf (s := []) (t := t) (F.comp_iff.1 ha.vl).1 (F.comp_iff.1 hb.vl).1 (by omega) (by omega) (by omega) (by omega) (by rw [List.append_nil]; exact ht)).1
  · rintro rfl
    exact ⟨[], (List.append_nil _).symm⟩
theorem hc_len {A : Ct} {X : List UInt8} {e : Int} {va : Bool} (h : Hc1 A X e va) (h1 : A.1.length ≤ 60) (h2 : A.2.length ≤ 60) : X.length ≤ 10000000 := by
  rcases va with _ | _
  · have := h.ap
    rw [ctxR_no h.vl] at this
    cases this
    simp
  · rw [h.by_ rfl]
    have := dotsB_len (ctx_dots h.vl).1 (by omega)
    have := dotsB_len (ctx_dots h.vl).2 (by omega)
    unfold ctxB
    rw [List.length_append]
    omega
set_option maxRecDepth 100000 in
set_option maxHeartbeats 8000000 in
theorem holds_law (A B : List Nt) (a b : Option Addr) (c d : Nat) (t : Nat) (ht : t < 256) (C D : Ct) (p q r s : Option Addr) (n m j k : Nat) (w : World) (hA : RowN w a A) (hna : a = none → c = 0) (hB : RowN w b B) (hC : Kx w (.slice p C.1.length n) (.slice q C.2.length m) C) (hD : Kx w (.slice r D.1.length j) (.slice s D.2.length k) D) :
    Calls Try.prog 7 #[.slice a A.length c, .slice b B.length d, .int .u8 (t : Int), cv (.slice p C.1.length n) (.slice q C.2.length m), cv (.slice r D.1.length j) (.slice s D.2.length k)] w fun e w' => e = .returned (.bool true) ∧ Below w.heap.size w w' := by
  have hb1 := bel_box w (cbox (.slice p C.1.length n) (.slice q C.2.length m))
  have hsz : (w.alloc (cbox (.slice p C.1.length n) (.slice q C.2.length m))).heap.size = w.heap.size + 1 := by simp
  have HT0 := Lib.hid (show Sb w.heap.size (.slice p C.1.length n) (.slice q C.2.length m) _ from F.two_new w (.slice p C.1.length n) (.slice q C.2.length m))
  have hb2 := bel_box (w.alloc (cbox (.slice p C.1.length n) (.slice q C.2.length m))) (cbox (.slice r D.1.length j) (.slice s D.2.length k))
  have HT2 := Lib.hid (show Sb (w.alloc (cbox (.slice p C.1.length n) (.slice q C.2.length m))).heap.size (.slice r D.1.length j) (.slice s D.2.length k) _ from F.two_new (w.alloc (cbox (.slice p C.1.length n) (.slice q C.2.length m))) (.slice r D.1.length j) (.slice s D.2.length k))
  rw [hsz] at HT2
  have HT1 := Lib.hid (HT0.out.keep hb2)
  have HB := bel_tr (Lib.hid hb1) hb2
  have HA := Lib.hid (hA.keep HB.out)
  have HE := Lib.hid (hB.keep HB.out)
  have HC := Lib.hid (hC.keep HB.out)
  have HD := Lib.hid (hD.keep HB.out)
  have HS1 := Lib.hid (fun w => small_ref p q C.1.length C.2.length n m w)
  have HS2 := Lib.hid (fun w => small_ref r s D.1.length D.2.length j k w)
  clear hA hB hC hD hb1 hb2 HT0 hsz
  by_cases l1 : A.length ≤ 60
  case neg =>
    have i1 : (60 : Int) < (A.length : Int) := by omega
    go_enter Try.func7, Try.ntmps7
    go_upto_region 1 with fail
    generalize (w.alloc (cbox (.slice p C.1.length n) (.slice q C.2.length m))).alloc (cbox (.slice r D.1.length j) (.slice s D.2.length k)) = w1 at *
    go_wp2_with fail
    refine (known_any _).mono ?_
    rintro e w99 ⟨rfl, hb⟩
    replace HB := bel_tr HB hb
    clear hb
    go_wp2_with fail
    go_ret
    exact ⟨rfl, HB.out⟩
  have i1 : ¬ (60 : Int) < (A.length : Int) := by omega
  by_cases l2 : B.length ≤ 60
  case neg =>
    have i2 : (60 : Int) < (B.length : Int) := by omega
    go_enter Try.func7, Try.ntmps7
    go_upto_region 1 with fail
    generalize (w.alloc (cbox (.slice p C.1.length n) (.slice q C.2.length m))).alloc (cbox (.slice r D.1.length j) (.slice s D.2.length k)) = w1 at *
    go_wp2_with fail
    refine (known_any _).mono ?_
    rintro e w99 ⟨rfl, hb⟩
    replace HB := bel_tr HB hb
    clear hb
    go_wp2_with fail
    go_ret
    exact ⟨rfl, HB.out⟩
  have i2 : ¬ (60 : Int) < (B.length : Int) := by omega
  by_cases l3 : C.1.length ≤ 60 ∧ C.2.length ≤ 60
  case neg =>
    rw [show (decide (C.1.length ≤ 60) && decide (C.2.length ≤ 60)) = false by rw [Bool.and_eq_false_iff, decide_eq_false_iff_not, decide_eq_false_iff_not]; omega] at HS1
    go_enter Try.func7, Try.ntmps7
    go_upto_region 1 with fail
    generalize (w.alloc (cbox (.slice p C.1.length n) (.slice q C.2.length m))).alloc (cbox (.slice r D.1.length j) (.slice s D.2.length k)) = w1 at *
    obtain ⟨t0, t1⟩ := HT1.out
    obtain ⟨t2, t3⟩ := HT2.out
    go_wp2_with fail
    refine (HS1.out _).mono ?_
    rintro e w2 ⟨rfl, hb⟩
    replace HB := bel_tr HB hb
    replace HT1 := Lib.hid (HT1.out.keep hb)
    replace HT2 := Lib.hid (HT2.out.keep hb)
    replace HA := Lib.hid (HA.out.keep hb)
    replace HE := Lib.hid (HE.out.keep hb)
    replace HC := Lib.hid (HC.out.keep hb)
    replace HD := Lib.hid (HD.out.keep hb)
    clear hb t0 t1 t2 t3 HS1
    go_wp2_with fail
    refine (known_any _).mono ?_
    rintro e w99 ⟨rfl, hb⟩
    replace HB := bel_tr HB hb
    clear hb
    go_wp2_with fail
    go_ret
    exact ⟨rfl, HB.out⟩
  rw [show (decide (C.1.length ≤ 60) && decide (C.2.length ≤ 60)) = true by rw [Bool.and_eq_true, decide_eq_true_eq, decide_eq_true_eq]; omega] at HS1
  by_cases l4 : D.1.length ≤ 60 ∧ D.2.length ≤ 60
  case neg =>
    rw [show (decide (D.1.length ≤ 60) && decide (D.2.length ≤ 60)) = false by rw [Bool.and_eq_false_iff, decide_eq_false_iff_not, decide_eq_false_iff_not]; omega] at HS2
    go_enter Try.func7, Try.ntmps7
    go_upto_region 1 with fail
    generalize (w.alloc (cbox (.slice p C.1.length n) (.slice q C.2.length m))).alloc (cbox (.slice r D.1.length j) (.slice s D.2.length k)) = w1 at *
    obtain ⟨t0, t1⟩ := HT1.out
    obtain ⟨t2, t3⟩ := HT2.out
    go_wp2_with fail
    refine (HS1.out _).mono ?_
    rintro e w2 ⟨rfl, hb⟩
    replace HB := bel_tr HB hb
    replace HT1 := Lib.hid (HT1.out.keep hb)
    replace HT2 := Lib.hid (HT2.out.keep hb)
    replace HA := Lib.hid (HA.out.keep hb)
    replace HE := Lib.hid (HE.out.keep hb)
    replace HC := Lib.hid (HC.out.keep hb)
    replace HD := Lib.hid (HD.out.keep hb)
    clear hb t0 t1 t2 t3 HS1
    obtain ⟨t0, t1⟩ := HT1.out
    obtain ⟨t2, t3⟩ := HT2.out
    go_wp2_with fail
    refine (HS2.out _).mono ?_
    rintro e w3 ⟨rfl, hb⟩
    replace HB := bel_tr HB hb
    replace HT1 := Lib.hid (HT1.out.keep hb)
    replace HT2 := Lib.hid (HT2.out.keep hb)
    replace HA := Lib.hid (HA.out.keep hb)
    replace HE := Lib.hid (HE.out.keep hb)
    replace HC := Lib.hid (HC.out.keep hb)
    replace HD := Lib.hid (HD.out.keep hb)
    clear hb t0 t1 t2 t3 HS2
    go_wp2_with fail
    refine (known_any _).mono ?_
    rintro e w99 ⟨rfl, hb⟩
    replace HB := bel_tr HB hb
    clear hb
    go_wp2_with fail
    go_ret
    exact ⟨rfl, HB.out⟩
  rw [show (decide (D.1.length ≤ 60) && decide (D.2.length ≤ 60)) = true by rw [Bool.and_eq_true, decide_eq_true_eq, decide_eq_true_eq]; omega] at HS2
  obtain ⟨X, hX⟩ : ∃ X, X = (appB [] A).1 := ⟨_, rfl⟩
  obtain ⟨e1, he1⟩ : ∃ e, e = (appB [] A).2 := ⟨_, rfl⟩
  obtain ⟨Y, hY⟩ : ∃ X, X = (appB [] B).1 := ⟨_, rfl⟩
  obtain ⟨e2, he2⟩ : ∃ e, e = (appB [] B).2 := ⟨_, rfl⟩
  obtain ⟨P, hP⟩ : ∃ X, X = (ctxR C).1 := ⟨_, rfl⟩
  obtain ⟨e3, he3⟩ : ∃ e, e = (ctxR C).2 := ⟨_, rfl⟩
  obtain ⟨Q, hQ⟩ : ∃ X, X = (ctxR D).1 := ⟨_, rfl⟩
  obtain ⟨e4, he4⟩ : ∃ e, e = (ctxR D).2 := ⟨_, rfl⟩
  have HX := Lib.hid (hb_of (l := A) l1)
  have HY := Lib.hid (hb_of (l := B) l2)
  have HP := Lib.hid (hc_of (A := C) l3.1 l3.2)
  have HQ := Lib.hid (hc_of (A := D) l4.1 l4.2)
  rw [← hX, ← he1] at HX
  rw [← hY, ← he2] at HY
  rw [← hP, ← he3] at HP
  rw [← hQ, ← he4] at HQ
  clear hX he1 hY he2 hP he3 hQ he4
  have HEn1 := Lib.hid (fun w h => encode_any A (by omega) w a c h)
  have HEn2 := Lib.hid (fun w h => encode_any B (by omega) w b d h)
  rw [HX.out.ap] at HEn1
  rw [HY.out.ap] at HEn2
  have HCx1 := Lib.hid (fun w h => context_any C (.slice p C.1.length n) (.slice q C.2.length m) w h ⟨by omega, by omega⟩)
  have HCx2 := Lib.hid (fun w h => context_any D (.slice r D.1.length j) (.slice s D.2.length k) w h ⟨by omega, by omega⟩)
  rw [HP.out.ap] at HCx1
  rw [HQ.out.ap] at HCx2
  obtain ⟨va, hva⟩ : ∃ v, v = validS A := ⟨_, rfl⟩
  obtain ⟨vb, hvb⟩ : ∃ v, v = validS B := ⟨_, rfl⟩
  obtain ⟨vc, hvc⟩ : ∃ v, v = F.isCompR C := ⟨_, rfl⟩
  obtain ⟨vd, hvd⟩ : ∃ v, v = F.isCompR D := ⟨_, rfl⟩
  rw [← hva] at HX
  rw [← hvb] at HY
  rw [← hvc] at HP
  rw [← hvd] at HQ
  clear hva hvb hvc hvd
  have LX := Lib.hid (hb_len HX.out l1)
  have LY := Lib.hid (hb_len HY.out l2)
  have LP := Lib.hid (hc_len HP.out l3.1 l3.2)
  have LQ := Lib.hid (hc_len HQ.out l4.1 l4.2)
  have HL := Lib.hid (And.intro (And.intro l1 l2) (And.intro l3 l4))
  clear l1 l2 l3 l4
  go_enter Try.func7, Try.ntmps7
  go_upto_region 1 with fail
  generalize (w.alloc (cbox (.slice p C.1.length n) (.slice q C.2.length m))).alloc (cbox (.slice r D.1.length j) (.slice s D.2.length k)) = w1 at *
  obtain ⟨t0, t1⟩ := HT1.out
  obtain ⟨t2, t3⟩ := HT2.out
  go_wp2_with fail
  refine (HS1.out _).mono ?_
  rintro e w2 ⟨rfl, hb⟩
  replace HB := bel_tr HB hb
  replace HT1 := Lib.hid (HT1.out.keep hb)
  replace HT2 := Lib.hid (HT2.out.keep hb)
  replace HA := Lib.hid (HA.out.keep hb)
  replace HE := Lib.hid (HE.out.keep hb)
  replace HC := Lib.hid (HC.out.keep hb)
  replace HD := Lib.hid (HD.out.keep hb)
  clear hb t0 t1 t2 t3 HS1
  obtain ⟨t0, t1⟩ := HT1.out
  obtain ⟨t2, t3⟩ := HT2.out
  go_wp2_with fail
  refine (HS2.out _).mono ?_
  rintro e w3 ⟨rfl, hb⟩
  replace HB := bel_tr HB hb
  replace HT1 := Lib.hid (HT1.out.keep hb)
  replace HT2 := Lib.hid (HT2.out.keep hb)
  replace HA := Lib.hid (HA.out.keep hb)
  replace HE := Lib.hid (HE.out.keep hb)
  replace HC := Lib.hid (HC.out.keep hb)
  replace HD := Lib.hid (HD.out.keep hb)
  clear hb t0 t1 t2 t3 HS2
  go_upto_region 3 with fail
  go_wp2_with fail
  refine (HEn1.out _ HA.out).mono ?_
  rintro e w4 ⟨vx, rfl, ho, hb⟩
  obtain ⟨ax, cx, rfl, hrx, -⟩ := ho.row
  have HXc := Lib.hid (O8.le ho)
  have HRx := Lib.hid hrx
  replace HB := bel_tr HB hb
  replace HT1 := Lib.hid (HT1.out.keep hb)
  replace HT2 := Lib.hid (HT2.out.keep hb)
  replace HA := Lib.hid (HA.out.keep hb)
  replace HE := Lib.hid (HE.out.keep hb)
  replace HC := Lib.hid (HC.out.keep hb)
  replace HD := Lib.hid (HD.out.keep hb)
  clear hb ho hrx HEn1
  go_wp2_with fail
  refine (HEn2.out _ HE.out).mono ?_
  rintro e w5 ⟨vy, rfl, ho, hb⟩
  obtain ⟨ay, cy, rfl, hry, -⟩ := ho.row
  have HRy := Lib.hid hry
  replace HB := bel_tr HB hb
  replace HT1 := Lib.hid (HT1.out.keep hb)
  replace HT2 := Lib.hid (HT2.out.keep hb)
  replace HA := Lib.hid (HA.out.keep hb)
  replace HE := Lib.hid (HE.out.keep hb)
  replace HC := Lib.hid (HC.out.keep hb)
  replace HD := Lib.hid (HD.out.keep hb)
  replace HRx := Lib.hid (HRx.out.keep hb)
  clear hb ho hry HEn2
  go_upto_region 5 with fail
  go_cut [68] from 49 to 68 (fun s wx => s = .bool false ∧ Hid (Below w5.heap.size w5 wx))
  case first =>
    have HB0 := Lib.hid (Below.refl w5.heap.size w5)
    rcases va with _ | _
    · obtain rfl : e1 = 2 := HX.out.er
      go_wp2_with fail
      go_meet
      exact ⟨rfl, HB0⟩
    obtain rfl : e1 = 0 := HX.out.er
    rcases vb with _ | _
    · obtain rfl : e2 = 2 := HY.out.er
      go_wp2_with fail
      go_meet
      exact ⟨rfl, HB0⟩
    obtain rfl : e2 = 0 := HY.out.er
    obtain ⟨hbeg, hxl⟩ := hb_beg HX.out HY.out HL.out.1.1 HL.out.1.2
    have HBg := Lib.hid (fun w => begins_any X Y ax ay cx cy HXc.out (by have := LX.out; omega) (by have := LY.out; omega) w)
    rw [hbeg] at HBg
    have HSm := Lib.hid (fun w h h2 => same_ref A B a b c d w h h2 (by have := HL.out; omega) (by have := HL.out; omega))
    clear hbeg
    generalize decide (A = B) = β at *
    go_wp2_with fail
    refine (HBg.out _ HRx.out HRy.out).mono ?_
    rintro e w6 ⟨rfl, hb⟩
    replace HB0 := bel_tr HB0 hb
    replace HA := Lib.hid (HA.out.keep hb)
    replace HE := Lib.hid (HE.out.keep hb)
    clear hb HBg
    go_wp2_with fail
    refine (HSm.out _ HA.out HE.out).mono ?_
    rintro e w7 ⟨rfl, hb⟩
    replace HB0 := bel_tr HB0 hb
    clear hb HSm
    rcases β with _ | _
    · go_wp2_with fail
      go_meet
      exact ⟨rfl, HB0⟩
    · go_wp2_with fail
      go_meet
      exact ⟨rfl, HB0⟩
  case rest =>
  obtain ⟨rfl, hBx⟩ := hcut
  have hb := hBx.out
  replace HB := bel_tr HB hb
  replace HT1 := Lib.hid (HT1.out.keep hb)
  replace HT2 := Lib.hid (HT2.out.keep hb)
  replace HA := Lib.hid (HA.out.keep hb)
  replace HE := Lib.hid (HE.out.keep hb)
  replace HC := Lib.hid (HC.out.keep hb)
  replace HD := Lib.hid (HD.out.keep hb)
  clear hb hBx HRx HRy HY LY
  generalize wc = w6 at *
  go_upto_region 7 with fail
  go_cut [75] from 69 to 75 (fun s wx => s = .bool (va && decide (0 < A.length)) ∧ Hid (Below w6.heap.size w6 wx))
  case first =>
    have HB0 := Lib.hid (Below.refl w6.heap.size w6)
    rcases va with _ | _
    · obtain rfl : e1 = 2 := HX.out.er
      go_wp2_with fail
      go_meet
      exact ⟨rfl, HB0⟩
    obtain rfl : e1 = 0 := HX.out.er
    by_cases h0 : 0 < A.length
    · have h1 : (0 : Int) < (A.length : Int) := by omega
      have HZ0 := Lib.hid (decide_eq_true h0)
      clear h0
      go_wp2_with fail
      go_meet
      exact ⟨by rw [HZ0.out]; rfl, HB0⟩
    · have h1 : ¬ (0 : Int) < (A.length : Int) := by omega
      have HZ0 := Lib.hid (decide_eq_false h0)
      clear h0
      go_wp2_with fail
      go_meet
      exact ⟨by rw [HZ0.out]; rfl, HB0⟩
  case rest =>
  obtain ⟨rfl, hBx⟩ := hcut
  have hb := hBx.out
  replace HB := bel_tr HB hb
  replace HT1 := Lib.hid (HT1.out.keep hb)
  replace HT2 := Lib.hid (HT2.out.keep hb)
  replace HA := Lib.hid (HA.out.keep hb)
  replace HE := Lib.hid (HE.out.keep hb)
  replace HC := Lib.hid (HC.out.keep hb)
  replace HD := Lib.hid (HD.out.keep hb)
  clear hb hBx
  generalize wc = w7 at *
  have HBt : Hid ((va && decide (0 < A.length)) = true → va = true ∧ 0 < A.length) := fun h => by rw [Bool.and_eq_true, decide_eq_true_eq] at h; exact h
  generalize (va && decide (0 < A.length)) = β at *
  go_upto_if 75 with fail
  go_cut [98] from 15 to 98 (fun s wx => Hid (Below w7.heap.size w7 wx))
  case first =>
    have HB0 := Lib.hid (Below.refl w7.heap.size w7)
    rcases β with _ | _
    · go_wp2_with fail
      go_meet
      exact HB0
    obtain ⟨rfl, hpos⟩ := HBt.out rfl
    have HCo := Lib.hid (copy_ref A a c w7 HA.out hna (by have := HL.out; omega))
    go_wp2_with fail
    refine HCo.out.mono ?_
    rintro e w8 ⟨v8, rfl, ho, hb⟩
    obtain ⟨a8, c8, rfl, hr8, hn8, hle8, hax8⟩ := ON.row ho
    obtain ⟨g, rfl⟩ : ∃ g, a8 = some ⟨g, 0, none⟩ := by
      rcases a8 with _ | x
      · have := (hn8 rfl).2
        rw [this] at hpos
        simp at hpos
      · exact ⟨x.block, by rw [← (hax8 x rfl).1]⟩
    obtain ⟨-, -, hgb, hglt⟩ := hax8 _ rfl
    have HO := Lib.hid ho
    have HG := Lib.hid (show w7.heap.size ≤ g from hgb)
    replace HB0 := Lib.hid hb
    clear hr8 hn8 hle8 hax8 hgb hglt ho hb HCo
    have hil : t % A.length < A.length := Nat.mod_lt _ hpos
    have hix := ixS g 0 A.length c8 (t % A.length) ((t % A.length : Nat) : Int) rfl hil
    simp only [Nat.zero_add] at hix
    have hcr := (HO.out.na _ hil).2.2.2.2.2
    have hfr := HO.out.free (t % A.length * 6 + 5)
    have hO2 := on_putRune HO.out hil 0
    have HB2 := Lib.hid (HB0.out.setCell (p := ⟨g, t % A.length * 6 + 5, none⟩) HG.out (.int .i32 0))
    have HE2 : Hid (A.set (t % A.length) (A[t % A.length].1, A[t % A.length].2.1, A[t % A.length].2.2.1, 0) = A.modify (t % A.length) killN) := by
      show _ = _
      exact set_kill hil
    rw [HE2.out] at hO2
    have HO2 := Lib.hid hO2
    clear hO2 HO HB0
    obtain ⟨M, hM⟩ : ∃ M, M = A.modify (t % A.length) killN := ⟨_, rfl⟩
    have hMl : M.length = A.length := by rw [hM, List.length_modify]
    have hMv : validS M = true := by rw [hM]; exact kill_valid HX.out.vl _
    have HN : Hid ((stateB M).length ≤ X.length) := by
      show _ ≤ _
      rw [hM, HX.out.by_ rfl]
      exact kill_len _ _
    rw [← hM] at HO2
    have HSz := Lib.hid (fun w h => size_any M (by have := HL.out; omega) w (some ⟨g, 0, none⟩) c8 h)
    rw [appB_yes hMv (by have := HL.out; omega), List.nil_append, hMl] at HSz
    clear hM hMv HE2
    have HMl := Lib.hid hMl
    clear hMl
    generalize (stateB M).length = N at *
    go_upto_region 9 with fail
    go_upto_region 10 with fail
    generalize w8.setCell ⟨g, t % A.length * 6 + 5, none⟩ (.int .i32 0) = w9 at *
    generalize t % A.length = i at *
    go_wp2_with fail
    refine (HSz.out _ (ON.r HO2.out).1).mono ?_
    rintro e w10 ⟨rfl, hb⟩
    have HB3 : Hid (Below w7.heap.size w7 w10) := HB2.out.trans (hb.mono HB2.out.size)
    clear hb HB2 HO2 HSz hcr hfr hix
    have hN1 : (N : Int) ≤ (X.length : Int) := by have := HN.out; omega
    have hN2 : ¬ (X.length : Int) < (N : Int) := by omega
    have hN3 : ¬ (X.length < N) := by omega
    go_wp2_with fail
    go_meet
    exact HB3
  case rest =>
  have hb := hcut.out
  replace HB := bel_tr HB hb
  replace HT1 := Lib.hid (HT1.out.keep hb)
  replace HT2 := Lib.hid (HT2.out.keep hb)
  replace HA := Lib.hid (HA.out.keep hb)
  replace HE := Lib.hid (HE.out.keep hb)
  replace HC := Lib.hid (HC.out.keep hb)
  replace HD := Lib.hid (HD.out.keep hb)
  clear hb hcut HBt HX HXc LX i1 i2 HA HE
  generalize wc = w8 at *
  go_upto_region 13 with fail
  obtain ⟨t0, t1⟩ := HT1.out
  obtain ⟨t2, t3⟩ := HT2.out
  go_wp2_with fail
  refine (HCx1.out _ HC.out).mono ?_
  rintro e w9 ⟨vp, rfl, ho, hb⟩
  obtain ⟨ap, cp, rfl, hrp, -⟩ := ho.row
  have HPc := Lib.hid (O8.le ho)
  have HRp := Lib.hid hrp
  replace HB := bel_tr HB hb
  replace HT1 := Lib.hid (HT1.out.keep hb)
  replace HT2 := Lib.hid (HT2.out.keep hb)
  replace HC := Lib.hid (HC.out.keep hb)
  replace HD := Lib.hid (HD.out.keep hb)
  clear hb ho hrp HCx1 t0 t1 t2 t3
  obtain ⟨t0, t1⟩ := HT1.out
  obtain ⟨t2, t3⟩ := HT2.out
  go_wp2_with fail
  refine (HCx2.out _ HD.out).mono ?_
  rintro e w10 ⟨vq, rfl, ho, hb⟩
  obtain ⟨aq, cq, rfl, hrq, -⟩ := ho.row
  have HRq := Lib.hid hrq
  replace HB := bel_tr HB hb
  have HBb : Hid (Bb w.heap.size (w.heap.size + 1) (.slice p C.1.length n) (.slice q C.2.length m) (.slice r D.1.length j) (.slice s D.2.length k) w10) := ⟨HT1.out.keep hb, HT2.out.keep hb⟩
  replace HC := Lib.hid (HC.out.keep hb)
  replace HD := Lib.hid (HD.out.keep hb)
  replace HRp := Lib.hid (HRp.out.keep hb)
  clear hb ho hrq HCx2 t0 t1 t2 t3 HT1 HT2
  go_upto_region 15 with fail
  rcases vc with _ | _
  · obtain rfl : e3 = 2 := HP.out.er
    refine Sch.wp_region_tn (Bb w.heap.size (w.heap.size + 1) (.slice p C.1.length n) (.slice q C.2.length m) (.slice r D.1.length j) (.slice s D.2.length k)) (.val 0 (.val 1 (.val 2 (.val 3 (.val 4 (.val 5 (.val 6 (.val 7 (.val 8 (.val 10 (.val 11 (.one 9 (.one 12 (.val 13 (.val 14 (.val 15 (.one 16 (.val 17 (.val 18 .done))))))))))))))))))) (by kernel_rfl) (by kernel_rfl) (HBb.out.keep ((Below.refl _ _).drew)) ?_
    have hb : Below w10.heap.size w10 w10.drew := (Below.refl _ _).drew
    replace HB := bel_tr HB hb
    replace HBb := Lib.hid (HBb.out.keep hb)
    replace HRp := Lib.hid (HRp.out.keep hb)
    replace HRq := Lib.hid (HRq.out.keep hb)
    replace HC := Lib.hid (HC.out.keep hb)
    replace HD := Lib.hid (HD.out.keep hb)
    clear hb
    generalize w10.drew = w11 at *
    repeat (first
      | (refine Sch.tn_q rfl rfl rfl (fun K hK => ?_); go_big_quiet_op; (first | refine hK _ ?_ | refine ⟨_, fun _ _ => rfl, hK _ ?_⟩); clear hK K)
      | (refine Sch.tn_load _ _ _ _ _ rfl rfl rfl rfl (by first | exact Bb.l | exact Bb.r) rfl ?_; simp only [Act.put, List.setIfInBounds_toArray, List.set_cons_zero, List.set_cons_succ])
      | (refine Sch.tn_s _ rfl rfl rfl ?_; simp only [Act.put, List.setIfInBounds_toArray, List.set_cons_zero, List.set_cons_succ])
      | (refine Sch.tn_se _ rfl rfl rfl ?_; simp only [Act.put, List.setIfInBounds_toArray, List.set_cons_zero, List.set_cons_succ]))
    refine Sch.tn_e rfl rfl (fun K hK => ?_)
    go_wp2_with fail
    refine (known_any _).mono ?_
    rintro e w99 ⟨rfl, hb⟩
    replace HB := bel_tr HB hb
    replace HBb := Lib.hid (HBb.out.keep hb)
    clear hb
    refine hK _ _ HBb.out ?_
    clear hK K
    try simp only [Act.put, List.setIfInBounds_toArray, List.set_cons_zero, List.set_cons_succ]
    repeat (first
      | (refine Sch.tn_q rfl rfl rfl (fun K hK => ?_); go_big_quiet_op; (first | refine hK _ ?_ | refine ⟨_, fun _ _ => rfl, hK _ ?_⟩); clear hK K)
      | (refine Sch.tn_load _ _ _ _ _ rfl rfl rfl rfl (by first | exact Bb.l | exact Bb.r) rfl ?_; simp only [Act.put, List.setIfInBounds_toArray, List.set_cons_zero, List.set_cons_succ])
      | (refine Sch.tn_s _ rfl rfl rfl ?_; simp only [Act.put, List.setIfInBounds_toArray, List.set_cons_zero, List.set_cons_succ])
      | (refine Sch.tn_se _ rfl rfl rfl ?_; simp only [Act.put, List.setIfInBounds_toArray, List.set_cons_zero, List.set_cons_succ]))
    refine Sch.tn_n ?_
    go_wp2_with fail
    go_ret
    exact ⟨rfl, HB.out⟩
  obtain rfl : e3 = 0 := HP.out.er
  rcases vd with _ | _
  · obtain rfl : e4 = 2 := HQ.out.er
    refine Sch.wp_region_tn (Bb w.heap.size (w.heap.size + 1) (.slice p C.1.length n) (.slice q C.2.length m) (.slice r D.1.length j) (.slice s D.2.length k)) (.val 0 (.val 1 (.val 2 (.val 3 (.val 4 (.val 5 (.val 6 (.val 7 (.val 8 (.val 10 (.val 11 (.one 9 (.one 12 (.val 13 (.val 14 (.val 15 (.one 16 (.val 17 (.val 18 .done))))))))))))))))))) (by kernel_rfl) (by kernel_rfl) (HBb.out.keep ((Below.refl _ _).drew)) ?_
    have hb : Below w10.heap.size w10 w10.drew := (Below.refl _ _).drew
    replace HB := bel_tr HB hb
    replace HBb := Lib.hid (HBb.out.keep hb)
    replace HRp := Lib.hid (HRp.out.keep hb)
    replace HRq := Lib.hid (HRq.out.keep hb)
    replace HC := Lib.hid (HC.out.keep hb)
    replace HD := Lib.hid (HD.out.keep hb)
    clear hb
    generalize w10.drew = w11 at *
    repeat (first
      | (refine Sch.tn_q rfl rfl rfl (fun K hK => ?_); go_big_quiet_op; (first | refine hK _ ?_ | refine ⟨_, fun _ _ => rfl, hK _ ?_⟩); clear hK K)
      | (refine Sch.tn_load _ _ _ _ _ rfl rfl rfl rfl (by first | exact Bb.l | exact Bb.r) rfl ?_; simp only [Act.put, List.setIfInBounds_toArray, List.set_cons_zero, List.set_cons_succ])
      | (refine Sch.tn_s _ rfl rfl rfl ?_; simp only [Act.put, List.setIfInBounds_toArray, List.set_cons_zero, List.set_cons_succ])
      | (refine Sch.tn_se _ rfl rfl rfl ?_; simp only [Act.put, List.setIfInBounds_toArray, List.set_cons_zero, List.set_cons_succ]))
    refine Sch.tn_e rfl rfl (fun K hK => ?_)
    go_wp2_with fail
    refine (known_any _).mono ?_
    rintro e w99 ⟨rfl, hb⟩
    replace HB := bel_tr HB hb
    replace HBb := Lib.hid (HBb.out.keep hb)
    clear hb
    refine hK _ _ HBb.out ?_
    clear hK K
    try simp only [Act.put, List.setIfInBounds_toArray, List.set_cons_zero, List.set_cons_succ]
    repeat (first
      | (refine Sch.tn_q rfl rfl rfl (fun K hK => ?_); go_big_quiet_op; (first | refine hK _ ?_ | refine ⟨_, fun _ _ => rfl, hK _ ?_⟩); clear hK K)
      | (refine Sch.tn_load _ _ _ _ _ rfl rfl rfl rfl (by first | exact Bb.l | exact Bb.r) rfl ?_; simp only [Act.put, List.setIfInBounds_toArray, List.set_cons_zero, List.set_cons_succ])
      | (refine Sch.tn_s _ rfl rfl rfl ?_; simp only [Act.put, List.setIfInBounds_toArray, List.set_cons_zero, List.set_cons_succ])
      | (refine Sch.tn_se _ rfl rfl rfl ?_; simp only [Act.put, List.setIfInBounds_toArray, List.set_cons_zero, List.set_cons_succ]))
    refine Sch.tn_n ?_
    go_wp2_with fail
    go_ret
    exact ⟨rfl, HB.out⟩
  obtain rfl : e4 = 0 := HQ.out.er
  have hbeg := hc_beg HP.out HQ.out HL.out.2.1.1 HL.out.2.1.2 HL.out.2.2.1 HL.out.2.2.2
  have HBg := Lib.hid (fun w => begins_any P Q ap aq cp cq HPc.out (by have := LP.out; omega) (by have := LQ.out; omega) w)
  rw [hbeg] at HBg
  have HSm := Lib.hid (fun w h h2 => sameC_kx C D (.slice p C.1.length n) (.slice q C.2.length m) (.slice r D.1.length j) (.slice s D.2.length k) w h h2 ⟨by have := HL.out; omega, by have := HL.out; omega⟩ ⟨by have := HL.out; omega, by have := HL.out; omega⟩)
  clear hbeg HP HQ
  generalize decide (C = D) = γ at *
  refine Sch.wp_region_tn (Bb w.heap.size (w.heap.size + 1) (.slice p C.1.length n) (.slice q C.2.length m) (.slice r D.1.length j) (.slice s D.2.length k)) (.val 0 (.val 1 (.val 2 (.val 3 (.val 4 (.val 5 (.val 6 (.val 7 (.val 8 (.val 10 (.val 11 (.one 9 (.one 12 (.val 13 (.val 14 (.val 15 (.one 16 (.val 17 (.val 18 .done))))))))))))))))))) (by kernel_rfl) (by kernel_rfl) (HBb.out.keep ((Below.refl _ _).drew)) ?_
  have hb : Below w10.heap.size w10 w10.drew := (Below.refl _ _).drew
  replace HB := bel_tr HB hb
  replace HBb := Lib.hid (HBb.out.keep hb)
  replace HRp := Lib.hid (HRp.out.keep hb)
  replace HRq := Lib.hid (HRq.out.keep hb)
  replace HC := Lib.hid (HC.out.keep hb)
  replace HD := Lib.hid (HD.out.keep hb)
  clear hb
  generalize w10.drew = w11 at *
  repeat (first
    | (refine Sch.tn_q rfl rfl rfl (fun K hK => ?_); go_big_quiet_op; (first | refine hK _ ?_ | refine ⟨_, fun _ _ => rfl, hK _ ?_⟩); clear hK K)
    | (refine Sch.tn_load _ _ _ _ _ rfl rfl rfl rfl (by first | exact Bb.l | exact Bb.r) rfl ?_; simp only [Act.put, List.setIfInBounds_toArray, List.set_cons_zero, List.set_cons_succ])
    | (refine Sch.tn_s _ rfl rfl rfl ?_; simp only [Act.put, List.setIfInBounds_toArray, List.set_cons_zero, List.set_cons_succ])
    | (refine Sch.tn_se _ rfl rfl rfl ?_; simp only [Act.put, List.setIfInBounds_toArray, List.set_cons_zero, List.set_cons_succ]))
  refine Sch.tn_e rfl rfl (fun K hK => ?_)
  go_wp2_with fail
  refine (HBg.out _ HRp.out HRq.out).mono ?_
  rintro e w12 ⟨rfl, hb⟩
  replace HB := bel_tr HB hb
  replace HBb := Lib.hid (HBb.out.keep hb)
  replace HC := Lib.hid (HC.out.keep hb)
  replace HD := Lib.hid (HD.out.keep hb)
  clear hb HBg HRp HRq
  refine hK _ _ HBb.out ?_
  clear hK K
  try simp only [Act.put, List.setIfInBounds_toArray, List.set_cons_zero, List.set_cons_succ]
  refine Sch.tn_e rfl rfl (fun K hK => ?_)
  go_wp2_with fail
  refine (HSm.out _ HC.out HD.out).mono ?_
  rintro e w13 ⟨rfl, hb⟩
  replace HB := bel_tr HB hb
  replace HBb := Lib.hid (HBb.out.keep hb)
  clear hb HSm HC HD
  refine hK _ _ HBb.out ?_
  clear hK K
  try simp only [Act.put, List.setIfInBounds_toArray, List.set_cons_zero, List.set_cons_succ]
  rcases γ with _ | _
  · skip
    repeat (first
      | (refine Sch.tn_q rfl rfl rfl (fun K hK => ?_); go_big_quiet_op; (first | refine hK _ ?_ | refine ⟨_, fun _ _ => rfl, hK _ ?_⟩); clear hK K)
      | (refine Sch.tn_load _ _ _ _ _ rfl rfl rfl rfl (by first | exact Bb.l | exact Bb.r) rfl ?_; simp only [Act.put, List.setIfInBounds_toArray, List.set_cons_zero, List.set_cons_succ])
      | (refine Sch.tn_s _ rfl rfl rfl ?_; simp only [Act.put, List.setIfInBounds_toArray, List.set_cons_zero, List.set_cons_succ])
      | (refine Sch.tn_se _ rfl rfl rfl ?_; simp only [Act.put, List.setIfInBounds_toArray, List.set_cons_zero, List.set_cons_succ]))
    refine Sch.tn_e rfl rfl (fun K hK => ?_)
    go_wp2_with fail
    refine (known_any _).mono ?_
    rintro e w99 ⟨rfl, hb⟩
    replace HB := bel_tr HB hb
    replace HBb := Lib.hid (HBb.out.keep hb)
    clear hb
    refine hK _ _ HBb.out ?_
    clear hK K
    try simp only [Act.put, List.setIfInBounds_toArray, List.set_cons_zero, List.set_cons_succ]
    repeat (first
      | (refine Sch.tn_q rfl rfl rfl (fun K hK => ?_); go_big_quiet_op; (first | refine hK _ ?_ | refine ⟨_, fun _ _ => rfl, hK _ ?_⟩); clear hK K)
      | (refine Sch.tn_load _ _ _ _ _ rfl rfl rfl rfl (by first | exact Bb.l | exact Bb.r) rfl ?_; simp only [Act.put, List.setIfInBounds_toArray, List.set_cons_zero, List.set_cons_succ])
      | (refine Sch.tn_s _ rfl rfl rfl ?_; simp only [Act.put, List.setIfInBounds_toArray, List.set_cons_zero, List.set_cons_succ])
      | (refine Sch.tn_se _ rfl rfl rfl ?_; simp only [Act.put, List.setIfInBounds_toArray, List.set_cons_zero, List.set_cons_succ]))
    refine Sch.tn_n ?_
    go_wp2_with fail
    go_ret
    exact ⟨rfl, HB.out⟩
  · skip
    repeat (first
      | (refine Sch.tn_q rfl rfl rfl (fun K hK => ?_); go_big_quiet_op; (first | refine hK _ ?_ | refine ⟨_, fun _ _ => rfl, hK _ ?_⟩); clear hK K)
      | (refine Sch.tn_load _ _ _ _ _ rfl rfl rfl rfl (by first | exact Bb.l | exact Bb.r) rfl ?_; simp only [Act.put, List.setIfInBounds_toArray, List.set_cons_zero, List.set_cons_succ])
      | (refine Sch.tn_s _ rfl rfl rfl ?_; simp only [Act.put, List.setIfInBounds_toArray, List.set_cons_zero, List.set_cons_succ])
      | (refine Sch.tn_se _ rfl rfl rfl ?_; simp only [Act.put, List.setIfInBounds_toArray, List.set_cons_zero, List.set_cons_succ]))
    refine Sch.tn_e rfl rfl (fun K hK => ?_)
    go_wp2_with fail
    refine (known_any _).mono ?_
    rintro e w99 ⟨rfl, hb⟩
    replace HB := bel_tr HB hb
    replace HBb := Lib.hid (HBb.out.keep hb)
    clear hb
    refine hK _ _ HBb.out ?_
    clear hK K
    try simp only [Act.put, List.setIfInBounds_toArray, List.set_cons_zero, List.set_cons_succ]
    repeat (first
      | (refine Sch.tn_q rfl rfl rfl (fun K hK => ?_); go_big_quiet_op; (first | refine hK _ ?_ | refine ⟨_, fun _ _ => rfl, hK _ ?_⟩); clear hK K)
      | (refine Sch.tn_load _ _ _ _ _ rfl rfl rfl rfl (by first | exact Bb.l | exact Bb.r) rfl ?_; simp only [Act.put, List.setIfInBounds_toArray, List.set_cons_zero, List.set_cons_succ])
      | (refine Sch.tn_s _ rfl rfl rfl ?_; simp only [Act.put, List.setIfInBounds_toArray, List.set_cons_zero, List.set_cons_succ])
      | (refine Sch.tn_se _ rfl rfl rfl ?_; simp only [Act.put, List.setIfInBounds_toArray, List.set_cons_zero, List.set_cons_succ]))
    refine Sch.tn_n ?_
    go_wp2_with fail
    go_ret
    exact ⟨rfl, HB.out⟩
end Go.Proofs.Ytfmlenhakejefaa.Ca
end

/-
  Layer 17: the law CanonLongs.
-/
section
namespace Go.Proofs.Ytfmlenhakejefaa.Ca
set_option linter.unusedVariables false
open Go.RowKit V Go.Sort D Nd Qs Jn Dg
open F (Ct cv cbox Bc Sb)
attribute [local irreducible] Sch.heldN Sch.stepV Sch.stepE

/-- make of a row of nodes. -/
theorem mk_nodes (w : World) (n : Nat) (hn : n ≤ 100000) :
    ∃ w', (Instr.makeSlice 23 (.int .i64 (n : Int)) (.int .i64 (n : Int))).run Try.prog w = .ok (.slice (some ⟨w.heap.size, 0, none⟩) n n) w' ∧ ON w' w.heap.size 38 (.slice (some ⟨w.heap.size, 0, none⟩) n n) (List.replicate n zeroN) ∧ Below w.heap.size w w' := by
  obtain ⟨i, hi, hz0, hz1, hz2⟩ := G.info_of infoN
  obtain ⟨w', hr, ho, hg⟩ := run_make_full (P := Try.prog) w w.heap.size 23 38 i _ 6 Try.underlying23 hi hz0 hz1 .i64 .i64 n (by rw [hz2]; omega) (by unfold maxLen; omega) (Nat.le_refl _)
  refine ⟨w', hr, ?_, (Below.refl _ _).grown hg (Nat.le_refl _) (fun k hk => by cases hk)⟩
  unfold ON
  rw [List.length_replicate]
  have e : (madeCells (Value.cells (nv zeroN)) (n * 6)).toList = cellsN (List.replicate n zeroN) := by
    refine List.ext_getElem? fun t => ?_
    by_cases ht : t < n * 6
    · have hi : t / 6 < (List.replicate n zeroN).length := by rw [List.length_replicate]; omega
      have h2 := cellsN_at (List.replicate n zeroN) (t / 6) hi (t % 6) (by omega)
      rw [show t / 6 * 6 + t % 6 = t by omega, List.getElem_replicate] at h2
      rw [h2]
      have e2 : (Value.cells (nv zeroN)).size = 6 := rfl
      simp only [madeCells, e2, Array.getElem?_toList, Array.getElem?_map, Array.getElem?_range, ht, if_true, Option.map_some]
      have h6 : t % 6 < 6 := Nat.mod_lt _ (by decide)
      generalize t % 6 = j at h6 ⊢
      match j, h6 with
      | 0, _ => rfl
      | 1, _ => rfl
      | 2, _ => rfl
      | 3, _ => rfl
      | 4, _ => rfl
      | 5, _ => rfl
    · rw [List.getElem?_eq_none (by rw [Array.length_toList, size_madeCells]; omega), List.getElem?_eq_none (by rw [cellsN_length, List.length_replicate]; omega)]
  rw [← e]
  exact ho
/-! ### A row of dots that is filled -/
/-- Block g holds these dots and nothing else. -/
def Rg (w : World) (g m : Nat) (N : List Dt) : Prop :=
  ∃ cur : Array Value, w.heap[g]? = some (.cells cur 36 (0, 0)) ∧ cur.size = m * 2 ∧ N.length = m ∧ ∀ i (h : i < N.length), cur[i * 2]? = some (.int .i64 N[i].1) ∧ cur[i * 2 + 1]? = some (.int .i64 N[i].2)
section
variable {w w' : World} {g m : Nat} {N : List Dt}
theorem Rg.lt (h : Rg w g m N) : g < w.heap.size := by
  obtain ⟨cur, h1, -⟩ := h
  exact (Array.getElem?_eq_some_iff.1 h1).1
theorem Rg.of_heap (h : Rg w g m N) (e : w'.heap[g]? = w.heap[g]?) : Rg w' g m N := by
  obtain ⟨cur, h1, h2⟩ := h
  exact ⟨cur, e.trans h1, h2⟩
theorem Rg.keep (h : Rg w g m N) (hb : Below w.heap.size w w') : Rg w' g m N := h.of_heap (hb.block g h.lt)
theorem Rg.gb {r : Nat} (h : Rg w g m N) (hg : w.grownBy w' (some r)) (hne : g ≠ r) : Rg w' g m N := h.of_heap (hg.block g h.lt (by simpa using hne))
theorem Rg.c0 (h : Rg w g m N) (i : Nat) (hi : i < N.length) : w.cell? ⟨g, i * 2, none⟩ = some (.int .i64 N[i].1) := by
  obtain ⟨cur, h1, -, -, h2⟩ := h
  simp only [World.cell?, h1]
  exact (h2 i hi).1
theorem Rg.c1 (h : Rg w g m N) (i : Nat) (hi : i < N.length) : w.cell? ⟨g, i * 2 + 1, none⟩ = some (.int .i64 N[i].2) := by
  obtain ⟨cur, h1, -, -, h2⟩ := h
  simp only [World.cell?, h1]
  exact (h2 i hi).2
theorem Rg.free (h : Rg w g m N) (o : Nat) : w.frozen? ⟨g, o, none⟩ = false := by
  obtain ⟨cur, h1, -⟩ := h
  simp [World.frozen?, h1]
theorem Rg.row (h : Rg w g m N) : RowD w (some ⟨g, 0, none⟩) N := by
  by_cases hN : N = []
  · exact .inl hN
  · refine .inr ⟨g, 0, rfl, fun i hi => ?_⟩
    rw [show 0 + (i * 2) = i * 2 by omega, show 0 + (i * 2 + 1) = i * 2 + 1 by omega]
    exact ⟨h.c0 i hi, h.c1 i hi⟩
theorem Rg.put (h : Rg w g m N) (k : Nat) (hk : k < N.length) (x y : Int) : Rg ((w.setCell ⟨g, k * 2, none⟩ (.int .i64 x)).setCell ⟨g, k * 2 + 1, none⟩ (.int .i64 y)) g m (N.set k (x, y)) := by
  obtain ⟨cur, h1, h2, h3, h4⟩ := h
  refine ⟨_, heap_set (heap_set h1 (k * 2) (.int .i64 x)) (k * 2 + 1) (.int .i64 y), by simpa using h2, by rw [List.length_set]; exact h3, fun i hi => ?_⟩
  rw [List.length_set] at hi
  simp only [Array.getElem?_setIfInBounds, Array.size_setIfInBounds]
  simp only [List.getElem_set]
  by_cases e : k = i
  · subst e
    simp only [if_true]
    constructor
    · rw [if_neg (by omega), if_pos (by omega)]
    · rw [if_pos (by omega)]
  · simp only [if_neg e]
    constructor
    · rw [if_neg (by omega), if_neg (by omega)]; exact (h4 i hi).1
    · rw [if_neg (by omega), if_neg (by omega)]; exact (h4 i hi).2
end
theorem mk_dots (w : World) (n : Nat) (hn : n ≤ 100000) :
    ∃ w', (Instr.makeSlice 40 (.int .i64 (n : Int)) (.int .i64 (n : Int))).run Try.prog w = .ok (.slice (some ⟨w.heap.size, 0, none⟩) n n) w' ∧ Rg w' w.heap.size n (List.replicate n (0, 0)) ∧ Below w.heap.size w w' := by
  obtain ⟨i, hi, hz0, hz1, hz2⟩ := G.info_of infoD
  have h := run_make (P := Try.prog) w 40 36 i _ Try.underlying40 hi hz0 .i64 .i64 (n : Int) (n : Int) (by omega) (Int.le_refl _) (by rw [hz2]; omega) (by omega)
  rw [hz1, Int.toNat_natCast] at h
  refine ⟨_, h, ⟨madeCells (Value.cells (.agg #[.int .i64 0, .int .i64 0])) (n * 2), ?_, ?_, List.length_replicate .., fun j hj => ?_⟩, (Below.refl _ _).alloc (Nat.le_refl _) _⟩
  · show (w.heap.push _)[w.heap.size]? = _
    simp
  · rw [size_madeCells]
  · rw [List.length_replicate] at hj
    have e2 : (Value.cells (.agg #[.int .i64 0, .int .i64 0])).size = 2 := rfl
    rw [List.getElem_replicate]
    constructor
    · have ht : j * 2 < n * 2 := by omega
      simp only [madeCells, e2, Array.getElem?_map, Array.getElem?_range, ht, if_true, Option.map_some]
      rw [show j * 2 % 2 = 0 by omega]
      rfl
    · have ht : j * 2 + 1 < n * 2 := by omega
      simp only [madeCells, e2, Array.getElem?_map, Array.getElem?_range, ht, if_true, Option.map_some]
      rw [show (j * 2 + 1) % 2 = 1 by omega]
      rfl
set_option maxRecDepth 100000 in
set_option maxHeartbeats 8000000 in
theorem longs_law (many r : Int) (w : World) :
    Calls Try.prog 6 #[.int .i64 many, .int .i64 r] w fun e w' => e = .returned (.bool true) ∧ Below w.heap.size w w' := by
  have HB := Lib.hid (Below.refl w.heap.size w)
  by_cases h1 : many < 65534
  · have i1 : many < 65534 := h1
    go_enter Try.func6, Try.ntmps6
    go_wp2_with fail
    refine (known_any _).mono ?_
    rintro e w99 ⟨rfl, hb⟩
    replace HB := bel_tr HB hb
    clear hb
    go_wp2_with fail
    go_ret
    exact ⟨rfl, HB.out⟩
  by_cases h2 : 65538 < many
  · have i2 : 65538 < many := h2
    go_enter Try.func6, Try.ntmps6
    go_wp2_with fail
    refine (known_any _).mono ?_
    rintro e w99 ⟨rfl, hb⟩
    replace HB := bel_tr HB hb
    clear hb
    go_wp2_with fail
    go_ret
    exact ⟨rfl, HB.out⟩
  by_cases h3 : r < 1
  · have i3 : r < 1 := h3
    go_enter Try.func6, Try.ntmps6
    go_wp2_with fail
    refine (known_any _).mono ?_
    rintro e w99 ⟨rfl, hb⟩
    replace HB := bel_tr HB hb
    clear hb
    go_wp2_with fail
    go_ret
    exact ⟨rfl, HB.out⟩
  by_cases h4 : 64 < r
  · have i4 : 64 < r := h4
    go_enter Try.func6, Try.ntmps6
    go_wp2_with fail
    refine (known_any _).mono ?_
    rintro e w99 ⟨rfl, hb⟩
    replace HB := bel_tr HB hb
    clear hb
    go_wp2_with fail
    go_ret
    exact ⟨rfl, HB.out⟩
  obtain ⟨m, rfl⟩ := Int.eq_ofNat_of_zero_le (show 0 ≤ many by omega)
  have hm1 : 65534 ≤ m := by omega
  have hm2 : m ≤ 65538 := by omega
  have hi : (m : Int) ≤ 65538 := by omega
  obtain ⟨w2, hmk, ho, hb⟩ := mk_nodes w m (by omega)
  obtain ⟨w3, hmk2, hr, hb2⟩ := mk_dots w2 m (by omega)
  have HO := Lib.hid (ho.below hb2)
  have HR := Lib.hid hr
  have HG : Hid (w.heap.size < w2.heap.size) := (ho.lt _ rfl).2
  replace HB := Lib.hid (hb.trans (hb2.mono hb.size))
  clear ho hr hb hb2
  generalize hg5 : w.heap.size = g5 at *
  generalize hg6 : w2.heap.size = g6 at *
  go_enter Try.func6, Try.ntmps6
  go_wp2_with fail
  clear hmk hmk2
  go_loopw [7] (fun i wr => ∃ (k : Nat) (M : List Nt) (N : List Dt), k ≤ m ∧ i = .int .i64 (k : Int) ∧ Hid (M.length = m) ∧ Hid (∀ j (h : j < M.length), j < k → M[j] = longN r j) ∧ Hid (∀ j (h : j < N.length), j < k → N[j] = (r, 2 * (j : Int) + 2)) ∧ Hid (Below g5 w wr) ∧ Hid (ON wr g5 38 (.slice (some ⟨g5, 0, none⟩) m m) M) ∧ Hid (Rg wr g6 m N)) (fun i _ => m - (intOf i).toNat)
  case atStart => exact ⟨0, _, _, Nat.zero_le _, rfl, by show _ = _; rw [List.length_replicate], fun j h h0 => absurd h0 (Nat.not_lt_zero _), fun j h h0 => absurd h0 (Nat.not_lt_zero _), HB, HO, HR⟩
  case round =>
    clear HO HB HR
    obtain ⟨k, M, N, hk, rfl, HM, HJ, HJ2, HB, HO, HR⟩ := hrel
    by_cases hlt : k < m
    · have hi0 : (k : Int) < (m : Int) := by omega
      have hw1 : wrap64 (2 * (k : Int)) = 2 * (k : Int) := wrapi (by omega) (by omega)
      have hw2 : wrap64 (2 * (k : Int) + 2) = 2 * (k : Int) + 2 := wrapi (by omega) (by omega)
      go_wp2_with fail
      refine (dot_law r (2 * (k : Int) + 2) _).mono ?_
      rintro e w4 ⟨rfl, hb⟩
      have HNl : Hid (N.length = m) := by obtain ⟨cur, -, -, h, -⟩ := HR.out; exact h
      have hkN : k < N.length := by rw [HNl.out]; exact hlt
      have hkM : k < M.length := by rw [HM.out]; exact hlt
      have HO4 := Lib.hid (HO.out.below hb)
      have HR4 := Lib.hid (HR.out.keep hb)
      have HB4 : Hid (Below g5 w w4) := HB.out.trans (hb.mono (by rw [← hg5]; exact HB.out.size))
      clear hb HO HR HB
      have c0 := HR4.out.c0 k hkN
      have c1 := HR4.out.c1 k hkN
      have f0 := HR4.out.free (k * 2)
      have f1 := HR4.out.free (k * 2 + 1)
      have hx6 := ix_dot g6 0 m m k (k : Int) rfl hlt
      simp only [Nat.zero_add] at hx6
      have HR5 := Lib.hid (HR4.out.put k hkN r (2 * (k : Int) + 2))
      have hgb := gb_trans (gb_setCell w4 g6 (k * 2) (.int .i64 r)) (gb_setCell _ g6 (k * 2 + 1) (.int .i64 (2 * (k : Int) + 2)))
      have HO5 := Lib.hid (HO4.out.keep hgb (.inr (fun e => by have h1 : g5 = g6 := Option.some.inj e; have := HG.out; omega)))
      have HB5 : Hid (Below g5 w ((w4.setCell ⟨g6, k * 2, none⟩ (.int .i64 r)).setCell ⟨g6, k * 2 + 1, none⟩ (.int .i64 (2 * (k : Int) + 2)))) := (HB4.out.setCell (p := ⟨g6, k * 2, none⟩) (Nat.le_of_lt HG.out) _).setCell (p := ⟨g6, k * 2 + 1, none⟩) (Nat.le_of_lt HG.out) _
      clear hgb HR4 HO4 HB4
      go_upto_region 9 with fail
      generalize (w4.setCell ⟨g6, k * 2, none⟩ (.int .i64 r)).setCell ⟨g6, k * 2 + 1, none⟩ (.int .i64 (2 * (k : Int) + 2)) = w5 at *
      clear c0 c1 f0 f1
      have hk2 : k < (N.set k (r, 2 * (k : Int) + 2)).length := by rw [List.length_set]; exact hkN
      have c0 := HR5.out.c0 k hk2
      have c1 := HR5.out.c1 k hk2
      rw [List.getElem_set_self] at c0 c1
      simp only at c0 c1
      obtain ⟨n0, n1, n2, n3, n4, n5⟩ := HO5.out.na k hkM
      have f0 := HO5.out.free (k * 6)
      have f1 := HO5.out.free (k * 6 + 1)
      have f2 := HO5.out.free (k * 6 + 2)
      have f3 := HO5.out.free (k * 6 + 3)
      have f4 := HO5.out.free (k * 6 + 4)
      have f5 := HO5.out.free (k * 6 + 5)
      have hx5 := ixS g5 0 m m k (k : Int) rfl hlt
      simp only [Nat.zero_add] at hx5
      have HO6 := Lib.hid (HO5.out.put hkM ((r, 2 * (k : Int) + 2), (0, 0), 1 + (k : Int) % 60, 97))
      have HR6 := Lib.hid (HR5.out.gb (putAt_gb w5 g5 (k * 6) ((r, 2 * (k : Int) + 2), (0, 0), 1 + (k : Int) % 60, 97)) (by have := HG.out; omega))
      have HB6 := Lib.hid (putAt_below HB5.out (Nat.le_refl _) (k * 6) ((r, 2 * (k : Int) + 2), (0, 0), 1 + (k : Int) % 60, 97))
      generalize M[k] = q0 at n0 n1 n2 n3 n4 n5
      clear HO5 HR5 HB5 hw1 hw2 hx6
      have hx6 := ix_dot g6 0 m m k (k : Int) rfl hlt
      simp only [Nat.zero_add] at hx6
      have HKm := Lib.hid (And.intro hkM hkN)
      clear hk2 hkM hkN
      have HM6 : Hid ((M.set k ((r, 2 * (k : Int) + 2), (0, 0), 1 + (k : Int) % 60, 97)).length = m) := by show _ = _; rw [List.length_set]; exact HM.out
      have HJ6 : Hid (∀ j (h : j < (M.set k ((r, 2 * (k : Int) + 2), (0, 0), 1 + (k : Int) % 60, 97)).length), j < k + 1 → (M.set k ((r, 2 * (k : Int) + 2), (0, 0), 1 + (k : Int) % 60, 97))[j] = longN r j) := fun j h h0 => by
        rw [List.getElem_set]
        split
        · rename_i e
          subst e
          unfold longN
          rw [show ((k % 60 : Nat) : Int) = (k : Int) % 60 by omega]
        · exact HJ.out j (by rw [List.length_set] at h; exact h) (by omega)
      have HJ7 : Hid (∀ j (h : j < (N.set k (r, 2 * (k : Int) + 2)).length), j < k + 1 → (N.set k (r, 2 * (k : Int) + 2))[j] = (r, 2 * (j : Int) + 2)) := fun j h h0 => by
        rw [List.getElem_set]
        split
        · rename_i e
          subst e
          rfl
        · exact HJ2.out j (by rw [List.length_set] at h; exact h) (by omega)
      generalize M.set k ((r, 2 * (k : Int) + 2), (0, 0), 1 + (k : Int) % 60, 97) = M2 at *
      generalize N.set k (r, 2 * (k : Int) + 2) = N2 at *
      clear HM HJ HJ2 HKm HNl
      go_wp2_with fail
      refine ⟨⟨k + 1, M2, N2, by omega, by go_num, HM6, HJ6, HJ7, HB6, HO6, HR6⟩, ?_⟩
      simp [intOf]; omega
    · obtain rfl : k = m := by omega
      have hend : ¬ (k : Int) < (k : Int) := by omega
      have hM : M = longS r k := by
        refine List.ext_getElem (by rw [HM.out, long_len]) fun i h1 h2 => ?_
        rw [HJ.out i h1 (by have := HM.out; omega)]
        simp [longS]
      have hN : N = longD r k := by
        obtain ⟨cur, -, -, hNl, -⟩ := HR.out
        refine List.ext_getElem (by rw [hNl, longD_len]) fun i h1 h2 => ?_
        rw [HJ2.out i h1 (by omega)]
        simp [longD]
      subst hM
      subst hN
      have HRs := Lib.hid (ON.r HO.out).1
      have HRd := Lib.hid HR.out.row
      have HB2 : Hid (Below w.heap.size w wr) := by rw [hg5]; exact HB
      have HG5 := Lib.hid hg5
      clear HM HJ HJ2 HB HO HR hg5 hlt hk
      have hv := long_valid (r := r) (by omega) (by omega) (m := k) (by omega)
      have hcp := long_comp (r := r) (by omega) (by omega) (m := k) (by omega)
      have HSz := Lib.hid (fun w h => size_any (longS r k) (by rw [long_len]; omega) w (some ⟨g5, 0, none⟩) k h)
      have HEn := Lib.hid (fun w h => encode_any (longS r k) (by rw [long_len]; omega) w (some ⟨g5, 0, none⟩) k h)
      have HCx := Lib.hid (fun (w : World) (h : RowD w (some ⟨g6, 0, none⟩) (longD r k)) => context_any ([], longD r k) (.slice none 0 0) (.slice (some ⟨g6, 0, none⟩) (longD r k).length k) w ⟨E.SV.nil w, ⟨_, _, rfl, h, (fun e => by cases e), by rw [longD_len]; omega⟩⟩ ⟨by simp, by simp only [longD_len]; omega⟩)
      rw [long_len] at HSz HEn
      rw [longD_len] at HCx
      by_cases hc : k ≤ 65536
      · have hA : appB [] (longS r k) = (stateB (longS r k), 0) := by rw [appB_yes hv (by rw [long_len]; exact hc)]; rfl
        have hC : ctxR ([], longD r k) = (ctxB ([], longD r k), 0) := ctxR_yes hcp (by simp) (by simp only [longD_len]; exact hc)
        rw [hA] at HSz HEn
        rw [hC] at HCx
        have hl1 := long_bytes (r := r) (by omega) (by omega) hm1 hc
        have hl2 := long_ctx r hm1
        generalize stateB (longS r k) = X at *
        generalize ctxB ([], longD r k) = P at *
        obtain ⟨n1, hn1⟩ : ∃ n1, n1 = X.length := ⟨_, rfl⟩
        obtain ⟨n2, hn2⟩ : ∃ n2, n2 = P.length := ⟨_, rfl⟩
        rw [← hn1] at HSz hl1
        rw [← hn2] at hl2
        have HN1 := Lib.hid hn1
        have HN2 := Lib.hid hn2
        clear hA hC hv hcp hn1 hn2
        go_wp2_with fail
        refine (HSz.out _ HRs.out).mono ?_
        rintro e w6 ⟨rfl, hb⟩
        have HB := bel_tr HB2 hb
        replace HRs := Lib.hid (HRs.out.keep hb)
        replace HRd := Lib.hid (HRd.out.keep hb)
        clear hb HB2 HSz
        go_wp2_with fail
        refine (HEn.out _ HRs.out).mono ?_
        rintro e w7 ⟨v7, rfl, ho, hb⟩
        obtain ⟨a7, c7, rfl, -⟩ := ho.row
        rw [← HN1.out]
        replace HB := bel_tr HB hb
        replace HRd := Lib.hid (HRd.out.keep hb)
        clear hb HEn ho HRs
        go_wp2_with fail
        refine (HCx.out _ HRd.out).mono ?_
        rintro e w8 ⟨v8, rfl, ho, hb⟩
        obtain ⟨a8, c8, rfl, -⟩ := ho.row
        rw [← HN2.out]
        replace HB := bel_tr HB hb
        clear hb HCx ho HRd
        have i1 : ¬ (65536 : Int) < (k : Int) := by omega
        have i2 : ((n1 : Int) == 6 + 5 * (k : Int)) = true := by rw [beq_iff_eq]; omega
        have i3 : 3 * (k : Int) < (n2 : Int) := by omega
        have i4 : wrap64 (5 * (k : Int)) = 5 * (k : Int) := wrapi (by omega) (by omega)
        have i5 : wrap64 (6 + 5 * (k : Int)) = 6 + 5 * (k : Int) := wrapi (by omega) (by omega)
        have i6 : wrap64 (3 * (k : Int)) = 3 * (k : Int) := wrapi (by omega) (by omega)
        clear hl1 hl2 HN1 HN2
        go_wp2_with fail
        refine (known_any _).mono ?_
        rintro e w99 ⟨rfl, hb⟩
        replace HB := bel_tr HB hb
        clear hb
        go_wp2_with fail
        go_ret
        exact ⟨rfl, by rw [← HG5.out]; exact HB.out⟩
      · have hA : appB [] (longS r k) = ([], 5) := by unfold appB; rw [if_neg (by rw [long_len]; exact fun h => hc h.2), if_pos hv]
        have hC : ctxR ([], longD r k) = ([], 5) := by unfold ctxR; rw [if_neg (by simp only [longD_len]; exact fun h => hc h.2.2), if_pos hcp]
        rw [hA] at HSz HEn
        rw [hC] at HCx
        simp only [List.length_nil] at HSz
        clear hA hC hv hcp
        go_wp2_with fail
        refine (HSz.out _ HRs.out).mono ?_
        rintro e w6 ⟨rfl, hb⟩
        have HB := bel_tr HB2 hb
        replace HRs := Lib.hid (HRs.out.keep hb)
        replace HRd := Lib.hid (HRd.out.keep hb)
        clear hb HB2 HSz
        go_wp2_with fail
        refine (HEn.out _ HRs.out).mono ?_
        rintro e w7 ⟨v7, rfl, ho, hb⟩
        obtain ⟨a7, c7, rfl, -⟩ := ho.row
        replace HB := bel_tr HB hb
        replace HRd := Lib.hid (HRd.out.keep hb)
        clear hb HEn ho HRs
        go_wp2_with fail
        refine (HCx.out _ HRd.out).mono ?_
        rintro e w8 ⟨v8, rfl, ho, hb⟩
        obtain ⟨a8, c8, rfl, -⟩ := ho.row
        replace HB := bel_tr HB hb
        clear hb HCx ho HRd
        have i1 : (65536 : Int) < (k : Int) := by omega
        go_wp2_with fail
        refine (known_any _).mono ?_
        rintro e w99 ⟨rfl, hb⟩
        replace HB := bel_tr HB hb
        clear hb
        go_wp2_with fail
        go_ret
        exact ⟨rfl, by rw [← HG5.out]; exact HB.out⟩
end Go.Proofs.Ytfmlenhakejefaa.Ca
end
