/-
  The law on bytes with their check sum.
-/
import Derived.Test.YtgakbncglkegiaaDoorCLawB
namespace Go.Proofs.YtgakbncglkegiaaDoor.C
set_option linter.unusedVariables false
open Go.RowKit V

theorem cap8 {w : World} {base : Nat} {a : Option Addr} {n c : Nat} {l : List UInt8} (h : O8 w base (.slice a n c) l) : n ≤ c := by
  rcases h.2 with ⟨e, h0⟩ | ⟨g', cap', cur, e, _, _, hn, _⟩
  · simp only [Value.slice.injEq] at e; omega
  · simp only [Value.slice.injEq] at e; omega
/-- A row that is not empty begins a block. -/
theorem O8.head {w : World} {base : Nat} {v : Value} {l : List UInt8} (h : O8 w base v l) (hl : l ≠ []) : ∃ g c, v = .slice (some ⟨g, 0, none⟩) l.length c ∧ base ≤ g ∧ g < w.heap.size ∧ l.length ≤ c := by
  obtain ⟨a, c, rfl, hr, hn, hx⟩ := h.row
  rcases a with _ | x
  · exact absurd (hn rfl).2 hl
  · obtain ⟨e, -, h1, h2⟩ := hx x rfl
    rw [e] at h ⊢
    exact ⟨x.block, c, rfl, h1, h2, cap8 h⟩
/-- Room without bytes. -/
theorem mk_room (c : Nat) (hc : c ≤ 281474976710656) (w : World) :
    ∃ w', (Instr.makeSlice 23 (.int .i64 0) (.int .i64 (c : Int))).run Tryd.prog w = .ok (.slice (some ⟨w.heap.size, 0, none⟩) 0 c) w' ∧ O8 w' w.heap.size (.slice (some ⟨w.heap.size, 0, none⟩) 0 c) [] ∧ Below w.heap.size w w' := by
  obtain ⟨i, hi, hz0, hz1, hz2⟩ := info_parts info8
  obtain ⟨w', h1, h2, h3⟩ := run_make_own (P := Tryd.prog) w w.heap.size 23 5 i (.int .u8 0) 1 Tryd.underlying23 hi hz0 hz1 .i64 .i64 c (by rw [hz2]; omega) (by unfold maxLen; omega) (Nat.le_refl _)
  exact ⟨w', h1, h2, (Below.refl _ _).grown h3 (Nat.le_refl _) (fun k hk => by cases hk)⟩
theorem app_ne (l : List UInt8) : app l ≠ [] := by intro e; have := app_length l; rw [e] at this; simp at this
theorem opn_short (l : List UInt8) : (opn l).1.length ≤ l.length := by
  unfold opn
  split
  · simp
  · split
    · simp
    · simp

/-- A slice of bytes is read as a string. -/
def CvS (a : Option Addr) (n c : Nat) (l : List UInt8) (w : World) : Prop := Sem.run Tryd.prog (convert 23 9 (.slice a n c)) w = .ok (.string ⟨l.toArray⟩) w
theorem cvs_of {w : World} {a : Option Addr} {l : List UInt8} (h : Row8 w a l) (n c : Nat) (hn : n = l.length) : CvS a n c l w := G.conv_row (P := Tryd.prog) h n hn c 23 9 5 Tryd.underlying23 Tryd.underlying5 Tryd.underlying9
/-- Three slices of bytes are read as strings. -/
def Cv3 (x0 : Option Addr) (y0 : Nat) (a : Option Addr) (c : Nat) (x2 : Option Addr) (y2 : Nat) (l A : List UInt8) (w : World) : Prop := CvS x0 l.length y0 l w ∧ CvS a l.length c l w ∧ CvS x2 A.length y2 A w
theorem O8.r {w : World} {base : Nat} {a : Option Addr} {n c : Nat} {l : List UInt8} (h : O8 w base (.slice a n c) l) : Row8 w a l := by
  obtain ⟨a', c', e, hr, -⟩ := h.row
  simp only [Value.slice.injEq] at e
  obtain ⟨rfl, -, -⟩ := e
  exact hr

set_option maxRecDepth 100000 in
set_option maxHeartbeats 4000000 in
theorem opens_law (l m : List UInt8) (a b : Option Addr) (c d : Nat) (w : World) (hL : Ld w) (hl : Row8 w a l) (hm : Row8 w b m) (hna : a = none → c = 0) (hnb : b = none → d = 0) (hlc : l.length ≤ c) (hmd : m.length ≤ d) (hlen : l.length ≤ 9223372036854775807) (hlen2 : m.length ≤ 9223372036854775807) :
    Calls Tryd.prog 4 #[.slice a l.length c, .slice b m.length d] w fun e w' => e = .returned (.bool true) ∧ Below w.heap.size w w' := by
  have HL := Lib.hid hL
  have HK := Lib.hid (fun (wx : World) h => known_any wx h)
  have HRl := Lib.hid hl
  have HRm := Lib.hid hm
  have HNa := Lib.hid hna
  have HNb := Lib.hid hnb
  have HLc := Lib.hid hlc
  have HMd := Lib.hid hmd
  clear hL hl hm hna hnb hlc hmd hlen hlen2
  by_cases hl3 : (300 : Int) < (l.length : Int)
  · go_enter Tryd.func4, Tryd.ntmps4
    go_wp2_with fail
    refine (HK.out _ HL.out).mono ?_
    rintro e w1 ⟨rfl, hb⟩
    have HB := Lib.hid hb
    clear hb
    go_wp2_with fail
    go_ret
    exact ⟨rfl, HB.out⟩
  by_cases hm3 : (300 : Int) < (m.length : Int)
  · go_enter Tryd.func4, Tryd.ntmps4
    go_wp2_with fail
    refine (HK.out _ HL.out).mono ?_
    rintro e w1 ⟨rfl, hb⟩
    have HB := Lib.hid hb
    clear hb
    go_wp2_with fail
    go_ret
    exact ⟨rfl, HB.out⟩
  have HLl : Hid (l.length ≤ 300) := by show _ ≤ _; omega
  have HMl : Hid (m.length ≤ 300) := by show _ ≤ _; omega
  obtain ⟨w1, hmk, hO, hB⟩ := mk_room (l.length + 9) (by omega) w
  have hmk2 : (Instr.makeSlice 23 (.int .i64 0) (.int .i64 ((l.length : Int) + 9))).run Tryd.prog w = .ok (.slice (some ⟨w.heap.size, 0, none⟩) 0 (l.length + 9)) w1 := by rw [← hmk, Int.natCast_add]; rfl
  have HO := Lib.hid hO
  have HB := Lib.hid hB
  have hms : ((l.length + 9 : Nat) : Int) = (l.length : Int) + 9 := by omega
  clear hmk hO hB
  go_enter Tryd.func4, Tryd.ntmps4
  go_wp2_with (at_builtin; refine wpList_app8 rfl _ _ rfl w.heap.size _ _ rfl HO.out a l c rfl (HRl.out.keep HB.out) HNa.out (copy_ok HLl.out (by omega)) HB.out.size ?_)
  intro v0 w2 ho hg _
  have HV0 : Hid (O8 w2 w.heap.size v0 l) := ho
  replace HB : Hid (Below w.heap.size w w2) := HB.out.grown hg HB.out.size (fun k hk => (HO.out.lt k hk).1)
  clear ho hg hmk2 hms HO
  obtain ⟨x0, y0, rfl, hr0, hn0, -⟩ := HV0.out.row
  have HA := Lib.hid (append_any l x0 y0 w2 (HL.out.below HB.out) hr0 (fun h => (hn0 h).1) (by have := HLl.out; omega))
  have HN0 := Lib.hid (fun h => (hn0 h).1)
  clear hr0 hn0
  go_wp2_with fail
  refine HA.out.mono ?_
  rintro e w3 ⟨v1, rfl, ho, hb⟩
  obtain ⟨g, cap1, rfl, hg1, hg2, hgc⟩ := O8.head ho (app_ne l)
  have HG : Hid (w.heap.size ≤ g) := Nat.le_trans HB.out.size hg1
  have HG0 : Hid ((Value.slice x0 l.length y0).ownBlock ≠ some g) := by
    intro e
    have := (HV0.out.lt g e).2
    omega
  have HV1 : Hid (O8 w3 w.heap.size (.slice (some ⟨g, 0, none⟩) (app l).length cap1) (app l)) := ho.mono fun k hk => Nat.le_trans HB.out.size (ho.lt k hk).1
  replace HV0 : Hid (O8 w3 w.heap.size (.slice x0 l.length y0) l) := HV0.out.below hb
  replace HB : Hid (Below w.heap.size w w3) := bel_tr HB hb
  have hAl := app_length l
  have HAl := Lib.hid hAl
  have HOp := Lib.hid (opn_app l)
  have HGc := Lib.hid hgc
  clear HA ho hb hg1 hg2 hgc hAl
  -- the first test
  have HRf := Lib.hid (append_ref l a c w3.drew (HRl.out.keep HB.out).drew HNa.out (by have := HLl.out; omega))
  have hd : CvS (some ⟨g, 0, none⟩) (app l).length cap1 (app l) w3.drew := cvs_of (O8.r HV1.out).drew _ _ rfl
  generalize hA' : app l = A at *
  have hself : ((⟨A.toArray⟩ : ByteArray).toList == (⟨A.toArray⟩ : ByteArray).toList) = true := by rw [beq_iff_eq]
  go_wp2_with fail
  refine Sch.wp_region_tree (CvS (some ⟨g, 0, none⟩) A.length cap1 A) (.take 0 (.take 1 (.take 2 (.one 3 (.one 4 (.take 5 (.take 6 (.take 7 (.take 8 (.one 9 (.take 10 (.take 11 .done)))))))))))) (by kernel_rfl) (by kernel_rfl) hd ?_
  have HBd : Hid (Below w.heap.size w w3.drew) := HB.out.drew
  have HW : Hid (Below w3.drew.heap.size w3.drew w3.drew) := Below.refl _ _
  clear hd
  repeat (first | (refine Sch.tree_q rfl rfl (fun K hK => ?_); go_big_quiet_op; (first | refine hK _ ?_ | refine ⟨_, fun _ _ => rfl, hK _ ?_⟩); clear hK K) | (refine Sch.tree_s _ rfl rfl rfl ?_; simp only [Act.put, List.setIfInBounds_toArray, List.set_cons_zero, List.set_cons_succ]))
  refine Sch.tree_conv _ _ _ _ _ rfl rfl rfl (fun w h => h) rfl ?_
  simp only [Act.put, List.setIfInBounds_toArray, List.set_cons_zero, List.set_cons_succ]
  repeat (first | (refine Sch.tree_q rfl rfl (fun K hK => ?_); go_big_quiet_op; (first | refine hK _ ?_ | refine ⟨_, fun _ _ => rfl, hK _ ?_⟩); clear hK K) | (refine Sch.tree_s _ rfl rfl rfl ?_; simp only [Act.put, List.setIfInBounds_toArray, List.set_cons_zero, List.set_cons_succ]))
  refine Sch.tree_e rfl rfl (fun K hK => ?_)
  go_wp2_with fail
  refine HRf.out.mono ?_
  rintro e w4 ⟨v, rfl, ho, hb⟩
  obtain ⟨x, y, rfl, hrx, -, -⟩ := ho.row
  have hcx := cvs_of hrx A.length y rfl
  unfold CvS at hcx
  replace HW : Hid (Below w3.drew.heap.size w3.drew w4) := bel_tr HW hb
  clear ho hb hrx HRf
  go_wp2_with fail
  refine hK _ _ (cvs_of ((O8.r HV1.out).drew.keep HW.out) _ _ rfl) ?_
  clear hK K
  refine Sch.tree_e rfl rfl (fun K hK => ?_)
  go_wp2_with fail
  refine hK _ _ (cvs_of ((O8.r HV1.out).drew.keep HW.out) _ _ rfl) ?_
  clear hK K hcx
  repeat (first | (refine Sch.tree_q rfl rfl (fun K hK => ?_); go_big_quiet_op; (first | refine hK _ ?_ | refine ⟨_, fun _ _ => rfl, hK _ ?_⟩); clear hK K) | (refine Sch.tree_s _ rfl rfl rfl ?_; simp only [Act.put, List.setIfInBounds_toArray, List.set_cons_zero, List.set_cons_succ]))
  have HOa := Lib.hid (opens_any A (some ⟨g, 0, none⟩) A.length cap1 l a l.length c 0 w4 (HL.out.below (HBd.out.trans (HW.out.mono HBd.out.size))) rfl rfl (by rw [HOp.out]) (by rw [HOp.out]; rfl) ((O8.r HV1.out).drew.keep HW.out) (HRl.out.keep (HBd.out.trans (HW.out.mono HBd.out.size))) (fun h => by cases h) HGc.out (by have := HAl.out; have := HLl.out; omega))
  refine Sch.tree_e rfl rfl (fun K hK => ?_)
  go_wp2_with fail
  refine HOa.out.mono ?_
  rintro e w5 ⟨rfl, hb⟩
  replace HW : Hid (Below w3.drew.heap.size w3.drew w5) := bel_tr HW hb
  clear hb HOa
  go_wp2_with fail
  refine hK _ _ (cvs_of ((O8.r HV1.out).drew.keep HW.out) _ _ rfl) ?_
  clear hK K
  repeat (first | (refine Sch.tree_q rfl rfl (fun K hK => ?_); go_big_quiet_op; (first | refine hK _ ?_ | refine ⟨_, fun _ _ => rfl, hK _ ?_⟩); clear hK K) | (refine Sch.tree_s _ rfl rfl rfl ?_; simp only [Act.put, List.setIfInBounds_toArray, List.set_cons_zero, List.set_cons_succ]))
  refine Sch.tree_n ?_
  have HW3 : Hid (Below w3.heap.size w3 w5) := ((Below.refl _ w3).drew).trans HW.out
  replace HV0 : Hid (O8 w5 w.heap.size (.slice x0 l.length y0) l) := HV0.out.below HW3.out
  replace HV1 : Hid (O8 w5 w.heap.size (.slice (some ⟨g, 0, none⟩) A.length cap1) A) := HV1.out.below HW3.out
  replace HB : Hid (Below w.heap.size w w5) := bel_tr HB HW3.out
  have HA2 := Lib.hid (append_any l x0 y0 w5 (HL.out.below HB.out) (O8.r HV0.out) HN0.out (by have := HLl.out; omega))
  rw [hA'] at HA2
  clear HW HW3 HBd hself HOp
  -- the second copy
  go_wp2_with fail
  refine HA2.out.mono ?_
  rintro e w6 ⟨v2, rfl, ho, hb⟩
  have HG2 : Hid (v2.ownBlock = none ∨ v2.ownBlock ≠ some g) := by
    right
    intro e
    have h1 := (ho.lt g e).1
    have h2 := (HV1.out.lt g rfl).2
    omega
  obtain ⟨x2, y2, rfl, -, -, -⟩ := ho.row
  have HV2 : Hid (O8 w6 w.heap.size (.slice x2 A.length y2) A) := ho.mono fun k hk => Nat.le_trans HB.out.size (ho.lt k hk).1
  replace HV0 : Hid (O8 w6 w.heap.size (.slice x0 l.length y0) l) := HV0.out.below hb
  replace HV1 : Hid (O8 w6 w.heap.size (.slice (some ⟨g, 0, none⟩) A.length cap1) A) := HV1.out.below hb
  replace HB : Hid (Below w.heap.size w w6) := bel_tr HB hb
  clear HA2 ho hb
  go_wp2_with fail
  go_loopw [8, 44] (fun _ i wr => ∃ (k : Nat) (xs : List UInt8), k ≤ A.length ∧ xs.length = A.length ∧ i = .int .i64 k ∧ Hid (O8 wr w.heap.size (.slice (some ⟨g, 0, none⟩) A.length cap1) xs) ∧ Hid (O8 wr w.heap.size (.slice x0 l.length y0) l) ∧ Hid (O8 wr w.heap.size (.slice x2 A.length y2) A) ∧ Hid (Below w.heap.size w wr)) (fun _ i _ => A.length - (intOf i).toNat)
  case atStart => exact ⟨0, A, by omega, rfl, rfl, HV1, HV0, HV2, HB⟩
  case round =>
    obtain ⟨k, xs, hk, hxs, rfl, HX, HV0, HV2, HB⟩ := hrel
    have hA304 : (A.length : Int) ≤ 304 := by have := HAl.out; have := HLl.out; omega
    by_cases hlt : k < A.length
    · have hcell := cell8 HX.out k (by omega)
      have hfree := free8 HX.out k
      have hq : ((xs[k].toNat : Int) + 1) % 256 = ((xs[k] + 1).toNat : Int) := by rw [UInt8.toNat_add]; simp
      have hX := stored8 HX.out k (xs[k] + 1)
      have hgb := gb_setCell wr g k (.int .u8 ((xs[k] + 1).toNat : Int))
      have H0 := Lib.hid (HV0.out.keep hgb (.inr HG0.out))
      have H2 := Lib.hid (HV2.out.keep hgb HG2.out)
      have HX' := Lib.hid hX
      have HB' := Lib.hid (below_gb HB.out hgb HB.out.size HG.out)
      have hl2 : (xs.set k (xs[k] + 1)).length = A.length := by rw [List.length_set]; exact hxs
      clear hX hgb
      generalize xs.set k (xs[k] + 1) = xs2 at *
      generalize (xs[k] + 1).toNat = q at *
      generalize xs[k].toNat = old at *
      go_wp2_with fail
      go_roundw
      case rel => exact ⟨k + 1, xs2, by omega, hl2, by go_num, HX', H0, H2, HB'⟩
      case measure => simp [intOf]; omega
    · obtain rfl : k = A.length := by omega
      have HOr := Lib.hid (open_ref m b d wr (HRm.out.keep HB.out) HNb.out HMd.out (by have := HMl.out; omega))
      go_wp2_with fail
      refine HOr.out.mono ?_
      rintro e w7 ⟨hb, x3, y3, rfl, hr3⟩
      have HR3 : Hid (Row8 w7 x3 (opn m).1) := hr3.keep hb
      replace HV0 : Hid (O8 w7 w.heap.size (.slice x0 l.length y0) l) := HV0.out.below hb
      replace HV2 : Hid (O8 w7 w.heap.size (.slice x2 A.length y2) A) := HV2.out.below hb
      replace HB : Hid (Below w.heap.size w w7) := bel_tr HB hb
      clear hb hr3 HOr
      go_wp2_with fail
      have HV0d : Hid (Row8 w7.drew x0 l) := (O8.r HV0.out).drew
      have HV2d : Hid (Row8 w7.drew x2 A) := (O8.r HV2.out).drew
      have HRld : Hid (Row8 w7.drew a l) := (HRl.out.keep HB.out).drew
      have HRmd : Hid (Row8 w7.drew b m) := (HRm.out.keep HB.out).drew
      replace HR3 : Hid (Row8 w7.drew x3 (opn m).1) := HR3.out.drew
      replace HB : Hid (Below w.heap.size w w7.drew) := HB.out.drew
      have hd : Cv3 x0 y0 a c x2 y2 l A w7.drew := ⟨cvs_of HV0d.out _ _ rfl, cvs_of HRld.out _ _ rfl, cvs_of HV2d.out _ _ rfl⟩
      have HRf := Lib.hid (append_ref l a c w7.drew HRld.out HNa.out (by have := HLl.out; omega))
      rw [hA'] at HRf
      have hs1 : ((⟨A.toArray⟩ : ByteArray).toList == (⟨A.toArray⟩ : ByteArray).toList) = true := by rw [beq_iff_eq]
      have hs2 : ((⟨l.toArray⟩ : ByteArray).toList == (⟨l.toArray⟩ : ByteArray).toList) = true := by rw [beq_iff_eq]
      have HCo := Lib.hid (fun (wx : World) (h : Ld wx) (h1 : Row8 wx b m) (h2 : Row8 wx x3 (opn m).1) => opens_any m b m.length d (opn m).1 x3 (opn m).1.length y3 ((opn m).2 : Int) wx h rfl rfl rfl rfl h1 h2 HNb.out HMd.out (by have := HMl.out; omega))
      clear HV0 HV2 HX HRl HRm
      refine Sch.wp_region_tree (Cv3 x0 y0 a c x2 y2 l A) (.take 0 (.take 1 (.take 2 (.take 3 (.take 4 (.take 5 (.take 6 (.take 7 (.take 8 (.one 9 (.one 10 (.take 11 (.take 12 (.take 13 (.take 14 (.take 15 (.take 16 (.one 17 (.take 18 (.take 19 (.one 20 (.take 21 (.take 22 .done))))))))))))))))))))))) (by kernel_rfl) (by kernel_rfl) hd ?_
      have HW : Hid (Below w7.drew.heap.size w7.drew w7.drew) := Below.refl _ _
      generalize w7.drew = W0 at *
      have HS : Hid (∀ wx : World, Below W0.heap.size W0 wx → Cv3 x0 y0 a c x2 y2 l A wx) := fun wx hb => ⟨cvs_of (HV0d.out.keep hb) _ _ rfl, cvs_of (HRld.out.keep hb) _ _ rfl, cvs_of (HV2d.out.keep hb) _ _ rfl⟩
      clear hd
      repeat (first | (refine Sch.tree_q rfl rfl (fun K hK => ?_); go_big_quiet_op; (first | refine hK _ ?_ | refine ⟨_, fun _ _ => rfl, hK _ ?_⟩); clear hK K) | (refine Sch.tree_s _ rfl rfl rfl ?_; simp only [Act.put, List.setIfInBounds_toArray, List.set_cons_zero, List.set_cons_succ]))
      refine Sch.tree_conv _ _ _ _ _ rfl rfl rfl (fun w h => h.1) rfl ?_
      simp only [Act.put, List.setIfInBounds_toArray, List.set_cons_zero, List.set_cons_succ]
      repeat (first | (refine Sch.tree_q rfl rfl (fun K hK => ?_); go_big_quiet_op; (first | refine hK _ ?_ | refine ⟨_, fun _ _ => rfl, hK _ ?_⟩); clear hK K) | (refine Sch.tree_s _ rfl rfl rfl ?_; simp only [Act.put, List.setIfInBounds_toArray, List.set_cons_zero, List.set_cons_succ]))
      refine Sch.tree_conv _ _ _ _ _ rfl rfl rfl (fun w h => h.2.1) rfl ?_
      simp only [Act.put, List.setIfInBounds_toArray, List.set_cons_zero, List.set_cons_succ]
      repeat (first | (refine Sch.tree_q rfl rfl (fun K hK => ?_); go_big_quiet_op; (first | refine hK _ ?_ | refine ⟨_, fun _ _ => rfl, hK _ ?_⟩); clear hK K) | (refine Sch.tree_s _ rfl rfl rfl ?_; simp only [Act.put, List.setIfInBounds_toArray, List.set_cons_zero, List.set_cons_succ]))
      refine Sch.tree_conv _ _ _ _ _ rfl rfl rfl (fun w h => h.2.2) rfl ?_
      simp only [Act.put, List.setIfInBounds_toArray, List.set_cons_zero, List.set_cons_succ]
      repeat (first | (refine Sch.tree_q rfl rfl (fun K hK => ?_); go_big_quiet_op; (first | refine hK _ ?_ | refine ⟨_, fun _ _ => rfl, hK _ ?_⟩); clear hK K) | (refine Sch.tree_s _ rfl rfl rfl ?_; simp only [Act.put, List.setIfInBounds_toArray, List.set_cons_zero, List.set_cons_succ]))
      refine Sch.tree_e rfl rfl (fun K hK => ?_)
      go_wp2_with fail
      refine HRf.out.mono ?_
      rintro e w8 ⟨v, rfl, ho, hb⟩
      obtain ⟨x5, y5, rfl, hrx, -, -⟩ := ho.row
      have hcx := cvs_of hrx A.length y5 rfl
      unfold CvS at hcx
      replace HW := bel_tr HW hb
      clear ho hb hrx HRf
      go_wp2_with fail
      refine hK _ _ (HS.out _ HW.out) ?_
      clear hK K
      refine Sch.tree_e rfl rfl (fun K hK => ?_)
      go_wp2_with fail
      refine hK _ _ (HS.out _ HW.out) ?_
      clear hK K hcx
      repeat (first | (refine Sch.tree_q rfl rfl (fun K hK => ?_); go_big_quiet_op; (first | refine hK _ ?_ | refine ⟨_, fun _ _ => rfl, hK _ ?_⟩); clear hK K) | (refine Sch.tree_s _ rfl rfl rfl ?_; simp only [Act.put, List.setIfInBounds_toArray, List.set_cons_zero, List.set_cons_succ]))
      refine Sch.tree_e rfl rfl (fun K hK => ?_)
      go_wp2_with fail
      refine (HCo.out _ (HL.out.below (bel_two HB HW).out) (HRmd.out.keep HW.out) (HR3.out.keep HW.out)).mono ?_
      rintro e w9 ⟨rfl, hb⟩
      replace HW := bel_tr HW hb
      clear hb HCo
      go_wp2_with fail
      refine hK _ _ (HS.out _ HW.out) ?_
      clear hK K
      repeat (first | (refine Sch.tree_q rfl rfl (fun K hK => ?_); go_big_quiet_op; (first | refine hK _ ?_ | refine ⟨_, fun _ _ => rfl, hK _ ?_⟩); clear hK K) | (refine Sch.tree_s _ rfl rfl rfl ?_; simp only [Act.put, List.setIfInBounds_toArray, List.set_cons_zero, List.set_cons_succ]))
      refine Sch.tree_e rfl rfl (fun K hK => ?_)
      go_wp2_with fail
      refine (HK.out _ (HL.out.below (bel_two HB HW).out)).mono ?_
      rintro e w10 ⟨rfl, hb⟩
      replace HW := bel_tr HW hb
      clear hb
      go_wp2_with fail
      refine hK _ _ (HS.out _ HW.out) ?_
      clear hK K
      repeat (first | (refine Sch.tree_q rfl rfl (fun K hK => ?_); go_big_quiet_op; (first | refine hK _ ?_ | refine ⟨_, fun _ _ => rfl, hK _ ?_⟩); clear hK K) | (refine Sch.tree_s _ rfl rfl rfl ?_; simp only [Act.put, List.setIfInBounds_toArray, List.set_cons_zero, List.set_cons_succ]))
      refine Sch.tree_n ?_
      go_wp2_with fail
      go_ret
      exact ⟨rfl, (bel_two HB HW).out⟩
end Go.Proofs.YtgakbncglkegiaaDoor.C
