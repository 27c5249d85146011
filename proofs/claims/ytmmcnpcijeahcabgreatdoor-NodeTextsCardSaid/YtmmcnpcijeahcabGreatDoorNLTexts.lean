/-
  NodeTexts.
-/
import Derived.Test.YtmmcnpcijeahcabGreatDoorNKnown
import Derived.Test.YtmmcnpcijeahcabGreatDoorNPrr
namespace Go.Proofs.YtmmcnpcijeahcabGreatDoor.Nd
set_option linter.unusedVariables false
open Go.RowKit V Go.Sort D
attribute [local irreducible] Sch.heldN Sch.stepV Sch.stepE

set_option maxRecDepth 100000 in
set_option maxHeartbeats 1000000 in
theorem texts_any9 (n : Nt) (s : List UInt8) (q : Int) (h : txtB n = (s, q)) (w : World) (hL : Ln w) : Calls Tryz.prog 18 #[nv n, .string ⟨s.toArray⟩, .int .i64 q] w fun e w' => e = .returned (.bool true) ∧ Below w.heap.size w w' := by
  have HT := Lib.hid (fun w hL => textN_any n w hL)
  rw [h] at HT
  have HL := Lib.hid hL
  have HB := Lib.hid (bel_box w (.cells (nc n) 25))
  clear hL h
  have hb : ((⟨s.toArray⟩ : ByteArray).toList == (⟨s.toArray⟩ : ByteArray).toList) = true := by simp
  generalize (⟨s.toArray⟩ : ByteArray) = S at *
  go_enter Tryz.func18, Tryz.ntmps18
  go_wp2_with fail
  refine (HT.out _ (HL.out.below HB.out)).mono ?_
  rintro e w2 ⟨rfl, hb2⟩
  replace HB := bel_tr HB hb2
  clear hb2 HT
  go_wp2_with fail
  go_ret
  exact ⟨rfl, HB.out⟩

set_option maxRecDepth 100000 in
set_option maxHeartbeats 8000000 in
theorem texts_law (n : Nt) (s : List UInt8) (w : World) (hL : Ln w) (hn : i32 n.2.2.2) (hs : s.length ≤ 9223372036854775807) : Calls Tryz.prog 6 #[nv n, .string ⟨s.toArray⟩] w fun e w' => e = .returned (.bool true) ∧ Below w.heap.size w w' := by
  have HL := Lib.hid hL
  have HKn := Lib.hid (fun w hL => known_any w hL)
  have HK := Lib.hid (Nb.new w n)
  have HB := Lib.hid (bel_box w (.cells (nc n) 25))
  have hsz := ba_size s
  clear hL
  by_cases h100 : 100 < s.length
  · have hg : (100 : Int) < ((⟨s.toArray⟩ : ByteArray).size : Int) := by omega
    clear h100 hsz hs hn
    generalize (⟨s.toArray⟩ : ByteArray) = S at *
    go_enter Tryz.func6, Tryz.ntmps6
    go_wp2_with fail
    refine (HKn.out _ (HL.out.below HB.out)).mono ?_
    rintro e w2 ⟨rfl, hb⟩
    replace HB := bel_tr HB hb
    clear hb
    go_wp2_with fail
    go_ret
    exact ⟨rfl, HB.out⟩
  · have hg : ¬ (100 : Int) < ((⟨s.toArray⟩ : ByteArray).size : Int) := by omega
    have hs6 : s.length ≤ 1000000 := by omega
    have HVa := Lib.hid (fun w => validN_ref n hn w)
    have HPr := Lib.hid (fun w => parseN_ref s w hs6)
    have HPy := Lib.hid (fun m hm h w hL => parses_yes s m hm h w hL hs6)
    have HPn := Lib.hid (fun h w hL => parses_no s h w hL hs6)
    clear h100 hsz hs hn hs6
    generalize hS : (⟨s.toArray⟩ : ByteArray) = S at *
    clear hS
    go_enter Tryz.func6, Tryz.ntmps6
    go_wp2_with fail
    generalize w.alloc (.cells (nc n) 25) = w1 at *
    obtain ⟨k0, k1, k2, k3, k4, k5⟩ := HK.out
    refine (HVa.out _).mono ?_
    rintro e w2 ⟨rfl, hb⟩
    clear k0 k1 k2 k3 k4 k5
    replace HK := Lib.hid (HK.out.keep hb)
    replace HB := bel_tr HB hb
    clear hb
    obtain ⟨k0, k1, k2, k3, k4, k5⟩ := HK.out
    rcases hv : validN n with _ | _
    · have HT := Lib.hid (fun w hL => texts_any9 n [] 2 (by unfold txtB; rw [hv]; rfl) w hL)
      clear hv HVa
      go_wp2_with fail
      refine (HT.out _ (HL.out.below HB.out)).mono ?_
      rintro e w3 ⟨rfl, hb⟩
      clear k0 k1 k2 k3 k4 k5
      replace HK := Lib.hid (HK.out.keep hb)
      replace HB := bel_tr HB hb
      clear hb
      go_wp2_with fail
      refine (HPr.out _).mono ?_
      rintro e w4 ⟨⟨m, hm, hsm, rfl⟩ | ⟨hno, rfl⟩, hb⟩
      · replace HB := bel_tr HB hb
        clear hb
        have HA := Lib.hid (HPy.out m hm hsm)
        clear hm hsm HPy HPn HPr
        have HX := Lib.hid (Nb.new w4 m)
        have hb := bel_box w4 (.cells (nc m) 25)
        replace HB := bel_tr HB hb
        clear hb
        obtain ⟨x0, x1, x2, x3, x4, x5⟩ := HX.out
        go_wp2_with fail
        refine (HA.out _ (HL.out.below HB.out)).mono ?_
        rintro e w5 ⟨rfl, hb⟩
        replace HB := bel_tr HB hb
        clear hb
        clear x0 x1 x2 x3 x4 x5
        go_wp2_with fail
        refine (HKn.out _ (HL.out.below HB.out)).mono ?_
        rintro e w6 ⟨rfl, hb⟩
        replace HB := bel_tr HB hb
        clear hb
        go_wp2_with fail
        go_ret
        exact ⟨rfl, HB.out⟩
      · replace HB := bel_tr HB hb
        clear hb
        have HA := Lib.hid (HPn.out hno)
        clear hno HPy HPn HPr
        have hb := bel_box w4 (.cells (nc zeroN) 25)
        replace HB := bel_tr HB hb
        clear hb
        go_wp2_with fail
        refine (HA.out _ (HL.out.below HB.out)).mono ?_
        rintro e w7 ⟨rfl, hb⟩
        replace HB := bel_tr HB hb
        clear hb
        go_wp2_with fail
        refine (HKn.out _ (HL.out.below HB.out)).mono ?_
        rintro e w8 ⟨rfl, hb⟩
        replace HB := bel_tr HB hb
        clear hb
        go_wp2_with fail
        go_ret
        exact ⟨rfl, HB.out⟩
    · have HT := Lib.hid (fun w hL => texts_any9 n (txtN n) 0 (by unfold txtB; rw [hv]; rfl) w hL)
      have HTr := Lib.hid (fun w => textN_ref n (valid_vn.1 hv) w)
      clear hv HVa
      generalize (⟨(txtN n).toArray⟩ : ByteArray) = T at *
      clear k0 k1 k2 k3 k4 k5
      go_wp2_with fail
      have hb : Below w2.heap.size w2 w2.drew := (Below.refl _ _).drew
      replace HK := Lib.hid (HK.out.keep hb)
      replace HB := bel_tr HB hb
      clear hb
      refine Sch.wp_region_tn (NbS w.heap.size n) (.val 0 (.val 1 (.one 2 (.one 3 (.val 4 .done))))) (by kernel_rfl) (by kernel_rfl) HK.out ?_
      generalize w2.drew = wd at *
      refine Sch.tn_load _ _ _ _ _ rfl rfl rfl rfl (by exact Nb.n) rfl ?_
      simp only [Act.put, List.setIfInBounds_toArray, List.set_cons_zero, List.set_cons_succ]
      refine Sch.tn_load _ _ _ _ _ rfl rfl rfl rfl (by exact Nb.n) rfl ?_
      simp only [Act.put, List.setIfInBounds_toArray, List.set_cons_zero, List.set_cons_succ]
      refine Sch.tn_e rfl rfl (fun K hK => ?_)
      go_wp2_with fail
      refine (HTr.out _).mono ?_
      rintro e w3 ⟨rfl, hb⟩
      replace HK := Lib.hid (HK.out.keep hb)
      replace HB := bel_tr HB hb
      clear hb
      refine hK _ _ HK.out ?_
      clear hK K
      refine Sch.tn_e rfl rfl (fun K hK => ?_)
      go_wp2_with fail
      refine (HT.out _ (HL.out.below HB.out)).mono ?_
      rintro e w4 ⟨rfl, hb⟩
      replace HK := Lib.hid (HK.out.keep hb)
      replace HB := bel_tr HB hb
      clear hb
      refine hK _ _ HK.out ?_
      clear hK K
      refine Sch.tn_q rfl rfl rfl (fun K hK => ?_)
      go_big_quiet_op
      first | refine hK _ ?_ | refine ⟨_, fun _ _ => rfl, hK _ ?_⟩
      clear hK K
      refine Sch.tn_n ?_
      go_wp2_with fail
      refine (HPr.out _).mono ?_
      rintro e w5 ⟨⟨m, hm, hsm, rfl⟩ | ⟨hno, rfl⟩, hb⟩
      · replace HB := bel_tr HB hb
        clear hb
        have HA := Lib.hid (HPy.out m hm hsm)
        clear hm hsm HPy HPn HPr
        have HX := Lib.hid (Nb.new w5 m)
        have hb := bel_box w5 (.cells (nc m) 25)
        replace HB := bel_tr HB hb
        clear hb
        obtain ⟨x0, x1, x2, x3, x4, x5⟩ := HX.out
        go_wp2_with fail
        refine (HA.out _ (HL.out.below HB.out)).mono ?_
        rintro e w6 ⟨rfl, hb⟩
        replace HB := bel_tr HB hb
        clear hb
        clear x0 x1 x2 x3 x4 x5
        go_wp2_with fail
        refine (HKn.out _ (HL.out.below HB.out)).mono ?_
        rintro e w7 ⟨rfl, hb⟩
        replace HB := bel_tr HB hb
        clear hb
        go_wp2_with fail
        go_ret
        exact ⟨rfl, HB.out⟩
      · replace HB := bel_tr HB hb
        clear hb
        have HA := Lib.hid (HPn.out hno)
        clear hno HPy HPn HPr
        have hb := bel_box w5 (.cells (nc zeroN) 25)
        replace HB := bel_tr HB hb
        clear hb
        go_wp2_with fail
        refine (HA.out _ (HL.out.below HB.out)).mono ?_
        rintro e w8 ⟨rfl, hb⟩
        replace HB := bel_tr HB hb
        clear hb
        go_wp2_with fail
        refine (HKn.out _ (HL.out.below HB.out)).mono ?_
        rintro e w9 ⟨rfl, hb⟩
        replace HB := bel_tr HB hb
        clear hb
        go_wp2_with fail
        go_ret
        exact ⟨rfl, HB.out⟩
end Go.Proofs.YtmmcnpcijeahcabGreatDoor.Nd
