/-
  The theorem of the layer.
-/
import Derived.Test.YtgakbncglkegiaaDoorCLawC
namespace Go.Proofs.YtgakbncglkegiaaDoor.C
set_option linter.unusedVariables false
open Go.RowKit V

set_option maxRecDepth 100000 in
set_option maxHeartbeats 4000000 in
theorem holds_any (l m : List UInt8) (a b : Option Addr) (c d : Nat) (pos : Nat) (y : UInt8) (w : World) (hL : Ld w) (hl : Row8 w a l) (hm : Row8 w b m) (hna : a = none → c = 0) (hnb : b = none → d = 0) (hp16 : pos ≤ 65535) (hlen : l.length ≤ 9223372036854775807) (hlen2 : m.length ≤ 9223372036854775807) :
    Calls Tryd.prog 7 #[.slice a l.length c, .slice b m.length d, .int .u16 (pos : Int), .int .u8 (y.toNat : Int)] w fun e w' => e = .returned (.bool true) ∧ Below w.heap.size w w' := by
  have HL := Lib.hid hL
  have HK := Lib.hid (fun (wx : World) h => known_any wx h)
  have HRl := Lib.hid hl
  have HRm := Lib.hid hm
  have HNa := Lib.hid hna
  have HNb := Lib.hid hnb
  have HP := Lib.hid hp16
  clear hL hl hm hna hnb hlen hlen2 hp16
  by_cases hl3 : (500 : Int) < (l.length : Int)
  · go_enter Tryd.func7, Tryd.ntmps7
    go_wp2_with fail
    refine (HK.out _ HL.out).mono ?_
    rintro e w1 ⟨rfl, hb⟩
    have HB := Lib.hid hb
    clear hb
    go_wp2_with fail
    go_ret
    exact ⟨rfl, HB.out⟩
  by_cases hm3 : (500 : Int) < (m.length : Int)
  · go_enter Tryd.func7, Tryd.ntmps7
    go_wp2_with fail
    refine (HK.out _ HL.out).mono ?_
    rintro e w1 ⟨rfl, hb⟩
    have HB := Lib.hid hb
    clear hb
    go_wp2_with fail
    go_ret
    exact ⟨rfl, HB.out⟩
  have HLl : Hid (l.length ≤ 500) := by show _ ≤ _; omega
  have HMl : Hid (m.length ≤ 500) := by show _ ≤ _; omega
  have h0 : ((y.toNat : Int) == 0) = decide (y.toNat = 0) := by rw [Bool.eq_iff_iff, beq_iff_eq, decide_eq_true_eq]; omega
  have H0 := Lib.hid h0
  clear h0
  go_enter Tryd.func7, Tryd.ntmps7
  go_wp2_with (at_builtin; refine wpList_app8 rfl _ _ rfl w.heap.size _ _ rfl (O8.nil w w.heap.size) a l c rfl HRl.out HNa.out (copy_ok HLl.out (by omega)) (Nat.le_refl _) ?_)
  intro v0 w1 ho hg _
  have HV0 : Hid (O8 w1 w.heap.size v0 l) := ho
  have HB : Hid (Below w.heap.size w w1) := (Below.refl _ _).grown hg (Nat.le_refl _) (fun k hk => by cases hk)
  clear ho hg
  go_wp2_with (at_builtin; refine wpList_app8 rfl _ _ rfl w.heap.size _ _ rfl HV0.out b m d rfl (HRm.out.keep HB.out) HNb.out (by have h1 := HLl.out; have h2 := HMl.out; omega) HB.out.size ?_)
  intro v w2 ho hg _
  have HV : Hid (O8 w2 w.heap.size v (l ++ m)) := ho
  replace HB : Hid (Below w.heap.size w w2) := HB.out.grown hg HB.out.size (fun k hk => (HV0.out.lt k hk).1)
  have HLL : Hid ((l ++ m).length ≤ 1000) := by show _ ≤ _; rw [List.length_append]; have h1 := HLl.out; have h2 := HMl.out; omega
  have hU : ∀ wx : World, Ld wx → Row8 wx b m → Calls Tryd.prog 11 #[.int .u32 (sum l : Int), .slice b m.length d] wx fun e w' => e = .returned (.int .u32 (sum (l ++ m) : Int)) ∧ wx = w' := by
    intro wx h hr
    have := update_any (sum l) (sum_lt l) m b d wx h hr (by have h2 := HMl.out; omega)
    rw [sum_parts] at this
    exact this
  have HU := Lib.hid hU
  clear hU
  clear ho hg HV0
  generalize l ++ m = L at *
  obtain ⟨ax, cx, rfl, hrx, hnx, -⟩ := HV.out.row
  have HNx := Lib.hid (fun h => (hnx h).1)
  have HSa := Lib.hid (sum_any L ax cx w2 (HL.out.below HB.out) hrx (by have h2 := HLL.out; omega))
  have HA := Lib.hid (append_any L ax cx w2 (HL.out.below HB.out) hrx HNx.out (by have h2 := HLL.out; omega))
  clear hrx hnx
  go_wp2_with fail
  refine HSa.out.mono ?_
  rintro e w' ⟨rfl, rfl⟩
  go_wp2_with fail
  refine HA.out.mono ?_
  rintro e w3 ⟨v1, rfl, ho, hb⟩
  obtain ⟨g, cap1, rfl, hg1, hg2, hgc⟩ := O8.head ho (app_ne L)
  have HG : Hid (w.heap.size ≤ g) := Nat.le_trans HB.out.size hg1
  have HG0 : Hid ((Value.slice ax L.length cx).ownBlock ≠ some g) := by
    intro e
    have := (HV.out.lt g e).2
    omega
  have HV1 : Hid (O8 w3 w.heap.size (.slice (some ⟨g, 0, none⟩) (app L).length cap1) (app L)) := ho.mono fun k hk => Nat.le_trans HB.out.size (ho.lt k hk).1
  replace HV : Hid (O8 w3 w.heap.size (.slice ax L.length cx) L) := HV.out.below hb
  have HGc := Lib.hid hgc
  have HAl := Lib.hid (app_length L)
  clear hg1 hg2 hgc ho HA HSa
  replace HB : Hid (Below w.heap.size w w3) := bel_tr HB hb
  clear hb
  have HSl2 := Lib.hid (sum_any l a c w3 (HL.out.below HB.out) (HRl.out.keep HB.out) (by have h2 := HLl.out; omega))
  have HU2 := Lib.hid (HU.out w3 (HL.out.below HB.out) (HRm.out.keep HB.out))
  have HTx := Lib.hid (text_any (sum L) (sum_lt L) w3 (HL.out.below HB.out))
  have HPy := Lib.hid (fun (wx : World) h => parses_yes (sum L) (sum_lt L) ⟨(txt (sum L)).toArray⟩ rfl wx h)
  have HNe : Hid (∀ i (h : i < L.length) (q : UInt8), q ≠ L[i] → sum (L.set i q) ≠ sum L) := sum_set L
  have HOs : Hid (∀ i (h : i < (app L).length) (q : UInt8), q ≠ (app L)[i] → opn ((app L).set i q) = ([], 10)) := opn_set L
  have HOp := Lib.hid (opn_app L)
  have hq : (((app L).length : Int) != (L.length : Int) + 4) = false := by rw [bne_eq_false_iff_eq, app_length]; omega
  clear HU
  generalize (⟨(txt (sum L)).toArray⟩ : ByteArray) = T at *
  generalize sum l = z0 at *
  generalize hz : sum L = z at *
  generalize app L = A at *
  have h1 : ((z : Int) != (z : Int)) = false := by rw [bne_eq_false_iff_eq]
  have hLi : (L.length : Int) ≤ 1000 := by have := HLL.out; omega
  have HZ := Lib.hid hz
  clear hz
  go_wp2_with fail
  refine HSl2.out.mono ?_
  rintro e w' ⟨rfl, rfl⟩
  go_wp2_with fail
  refine HU2.out.mono ?_
  rintro e w' ⟨rfl, rfl⟩
  go_wp2_with fail
  refine HTx.out.mono ?_
  rintro e w4 ⟨rfl, hb⟩
  have HW : Hid (Below w3.heap.size w3 w4) := hb
  clear hb HSl2 HU2 HTx
  go_wp2_with fail
  refine (HPy.out _ (HL.out.below (bel_tr HB HW.out).out)).mono ?_
  rintro e w5 ⟨rfl, hb⟩
  replace HW := bel_tr HW hb
  clear hb HPy
  go_wp2_with fail
  have HOa := Lib.hid (opens_any A (some ⟨g, 0, none⟩) A.length cap1 L ax L.length cx 0 w5 (HL.out.below (bel_tr HB HW.out).out) rfl rfl (by rw [HOp.out]) (by rw [HOp.out]; rfl) ((O8.r HV1.out).keep HW.out) ((O8.r HV.out).keep HW.out) (fun h => by cases h) HGc.out (by have := HAl.out; have := HLL.out; omega))
  refine HOa.out.mono ?_
  rintro e w6 ⟨rfl, hb⟩
  replace HW := bel_tr HW hb
  replace HV1 := Lib.hid (HV1.out.below HW.out)
  replace HV := Lib.hid (HV.out.below HW.out)
  replace HB : Hid (Below w.heap.size w w6) := bel_tr HB HW.out
  clear hb HOa HW HOp
  by_cases hy : y.toNat = 0
  · have hb0 : ((y.toNat : Int) == 0) = true := by rw [H0.out]; simpa using hy
    clear hy
    go_wp2_with fail
    refine (HK.out _ (HL.out.below HB.out)).mono ?_
    rintro e w7 ⟨rfl, hb⟩
    replace HB := bel_tr HB hb
    clear hb
    go_wp2_with fail
    go_ret
    exact ⟨rfl, HB.out⟩
  · have hb0 : ((y.toNat : Int) == 0) = false := by rw [H0.out]; simpa using hy
    have HY := Lib.hid hy
    clear hy
    have hpi : (pos : Int) ≤ 65535 := by have := HP.out; omega
    have hA0 : 0 < A.length := by have := HAl.out; omega
    have hAi : (A.length : Int) ≤ 1004 := by have := HAl.out; have := HLL.out; omega
    obtain ⟨p, hp⟩ : ∃ p, p = pos % A.length := ⟨_, rfl⟩
    have hpl : p < A.length := by rw [hp]; exact Nat.mod_lt _ hA0
    have htm : (pos : Int).tmod (A.length : Int) = (p : Int) := by rw [hp]; rfl
    have hmd : (pos : Int) % (A.length : Int) = (p : Int) := by rw [hp]; rfl
    have hcell := cell8 HV1.out p hpl
    have hfree := free8 HV1.out p
    have hX := stored8 HV1.out p (A[p] + y)
    have hgb := gb_setCell w6 g p (.int .u8 ((A[p] + y).toNat : Int))
    have hq2 : ((A[p].toNat : Int) + (y.toNat : Int)) % 256 = ((A[p] + y).toNat : Int) := by rw [UInt8.toNat_add]; simp
    have HOs2 := Lib.hid (HOs.out p hpl (A[p] + y) (add_ne _ _ HY.out))
    have HV2 := Lib.hid (HV.out.keep hgb (.inr HG0.out))
    have HX := Lib.hid hX
    have HB2 := Lib.hid (below_gb HB.out hgb HB.out.size HG.out)
    have hl2 : (A.set p (A[p] + y)).length = A.length := List.length_set
    clear hX hgb hp HOs
    generalize A.set p (A[p] + y) = A2 at *
    generalize (A[p] + y).toNat = q at *
    generalize A[p].toNat = old at *
    go_wp2_with fail
    generalize w6.setCell ⟨g, p, none⟩ (.int .u8 (q : Int)) = w7 at *
    have HOb := Lib.hid (opens_any A2 (some ⟨g, 0, none⟩) A.length cap1 [] none 0 0 10 w7 (HL.out.below HB2.out) hl2.symm rfl (by rw [HOs2.out]) (by rw [HOs2.out]; rfl) (O8.r HX.out) (.inl rfl) (fun h => by cases h) (by rw [hl2]; exact HGc.out) (by have := HAl.out; have := HLL.out; omega))
    refine HOb.out.mono ?_
    rintro e w8 ⟨rfl, hb⟩
    replace HV := Lib.hid (HV2.out.below hb)
    replace HB : Hid (Below w.heap.size w w8) := bel_tr HB2 hb
    clear hb HOb HX HV1 HV2 HB2 HOs2 hcell hfree hq2 hl2 htm hmd hpl hA0 hAi hq h1
    by_cases hL0 : L.length = 0
    · have hg0 : ¬ (0 : Int) < (L.length : Int) := by omega
      clear hL0
      go_wp2_with fail
      refine (HK.out _ (HL.out.below HB.out)).mono ?_
      rintro e w9 ⟨rfl, hb⟩
      replace HB := bel_tr HB hb
      clear hb
      go_wp2_with fail
      go_ret
      exact ⟨rfl, HB.out⟩
    · have hg0 : (0 : Int) < (L.length : Int) := by omega
      obtain ⟨ga, ca, he, hlo, -, -⟩ := O8.head HV.out (by intro e; exact hL0 (by rw [e]; rfl))
      simp only [Value.slice.injEq] at he
      obtain ⟨rfl, -, rfl⟩ := he
      obtain ⟨p2, hp⟩ : ∃ p2, p2 = pos % L.length := ⟨_, rfl⟩
      have hpl : p2 < L.length := by rw [hp]; exact Nat.mod_lt _ (by omega)
      have htm : (pos : Int).tmod (L.length : Int) = (p2 : Int) := by rw [hp]; rfl
      have hmd : (pos : Int) % (L.length : Int) = (p2 : Int) := by rw [hp]; rfl
      have hcell := cell8 HV.out p2 hpl
      have hfree := free8 HV.out p2
      have hX := stored8 HV.out p2 (L[p2] + y)
      have hgb := gb_setCell w8 ga p2 (.int .u8 ((L[p2] + y).toNat : Int))
      have hq2 : ((L[p2].toNat : Int) + (y.toNat : Int)) % 256 = ((L[p2] + y).toNat : Int) := by rw [UInt8.toNat_add]; simp
      have hne := HNe.out p2 hpl (L[p2] + y) (add_ne _ _ HY.out)
      have HB2 := Lib.hid (below_gb HB.out hgb HB.out.size hlo)
      have hl2 : (L.set p2 (L[p2] + y)).length = L.length := List.length_set
      have HS0 := sum_any (L.set p2 (L[p2] + y)) (some ⟨ga, 0, none⟩) cx (w8.setCell ⟨ga, p2, none⟩ (.int .u8 ((L[p2] + y).toNat : Int))) (HL.out.below HB2.out) (O8.r hX) (by rw [hl2]; omega)
      rw [hl2] at HS0
      have HS := Lib.hid HS0
      have hn : ((sum (L.set p2 (L[p2] + y)) : Int) != (z : Int)) = true := by rw [bne_iff_ne]; omega
      clear hX hgb hp HNe hne HS0 hl2 hL0
      generalize sum (L.set p2 (L[p2] + y)) = z2 at *
      generalize (L[p2] + y).toNat = q2 at *
      generalize L[p2].toNat = old2 at *
      go_wp2_with fail
      generalize w8.setCell ⟨ga, p2, none⟩ (.int .u8 (q2 : Int)) = w9 at *
      refine HS.out.mono ?_
      rintro e w' ⟨rfl, rfl⟩
      go_wp2_with fail
      refine (HK.out _ (HL.out.below HB2.out)).mono ?_
      rintro e w10 ⟨rfl, hb⟩
      replace HB := bel_tr HB2 hb
      clear hb
      go_wp2_with fail
      go_ret
      exact ⟨rfl, HB.out⟩
end Go.Proofs.YtgakbncglkegiaaDoor.C
