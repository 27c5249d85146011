/-
  NodeMerges.
-/
import Derived.Test.YtmmcnpcijeahcabGreatDoorNKnown
import Derived.Test.YtmmcnpcijeahcabGreatDoorNRefB
namespace Go.Proofs.YtmmcnpcijeahcabGreatDoor.Nd
set_option linter.unusedVariables false
open Go.RowKit V Go.Sort D
attribute [local irreducible] Sch.heldN Sch.stepV Sch.stepE

set_option maxRecDepth 100000 in
set_option maxHeartbeats 8000000 in
theorem merges_law (a b : Nt) (w : World) (hL : Ln w) (ha : i32 a.2.2.2) (hb : i32 b.2.2.2) : Calls Tryz.prog 5 #[nv a, nv b] w fun e w' => e = .returned (.bool true) ∧ Below w.heap.size w w' := by
  have HL := Lib.hid hL
  have HVa := Lib.hid (fun w => validN_ref a ha w)
  have HVb := Lib.hid (fun w => validN_ref b hb w)
  have HMr := Lib.hid (fun w => merge_ref a b w)
  have HKn := Lib.hid (fun w hL => known_any w hL)
  have HK := Lib.hid (N2.new a b w)
  have HB := Lib.hid (bel_two w a b)
  have HBad : Hid ((validN a && validN b) = false → ∀ w, Calls Tryz.prog 16 #[nv a, nv b, .agg #[.int .i64 0, .int .i64 0, .int .i64 0, .int .i64 0, .int .i64 0, .int .i32 0], .int .i64 2] w fun e w' => e = .returned (.bool true) ∧ Below w.heap.size w w') := fun h w => merges_any a b zeroN 2 (by unfold mergeN; rw [h]; rfl) w
  clear hL ha hb
  go_enter Tryz.func5, Tryz.ntmps5
  go_wp2_with fail
  generalize (w.alloc (.cells (nc a) 25)).alloc (.cells (nc b) 25) = w1 at *
  obtain ⟨⟨a0, a1, a2, a3, a4, a5⟩, b0, b1, b2, b3, b4, b5⟩ := HK.out
  refine (HVa.out _).mono ?_
  rintro e w2 ⟨rfl, hb⟩
  clear a0 a1 a2 a3 a4 a5 b0 b1 b2 b3 b4 b5
  replace HK := Lib.hid (HK.out.keep hb)
  replace HB := bel_tr HB hb
  clear hb
  obtain ⟨⟨a0, a1, a2, a3, a4, a5⟩, b0, b1, b2, b3, b4, b5⟩ := HK.out
  rcases va : validN a with _ | _
  · have HM := Lib.hid (HBad.out (by rw [va]; rfl))
    clear HBad va
    go_wp2_with fail
    refine (HM.out _).mono ?_
    rintro e w3 ⟨rfl, hb⟩
    clear a0 a1 a2 a3 a4 a5 b0 b1 b2 b3 b4 b5
    replace HK := Lib.hid (HK.out.keep hb)
    replace HB := bel_tr HB hb
    clear hb
    obtain ⟨⟨a0, a1, a2, a3, a4, a5⟩, b0, b1, b2, b3, b4, b5⟩ := HK.out
    go_wp2_with fail
    refine (HKn.out _ (HL.out.below HB.out)).mono ?_
    rintro e w4 ⟨rfl, hb⟩
    clear a0 a1 a2 a3 a4 a5 b0 b1 b2 b3 b4 b5
    replace HK := Lib.hid (HK.out.keep hb)
    replace HB := bel_tr HB hb
    clear hb
    go_wp2_with fail
    go_ret
    exact ⟨rfl, HB.out⟩
  · go_wp2_with fail
    refine (HVb.out _).mono ?_
    rintro e w5 ⟨rfl, hb⟩
    clear a0 a1 a2 a3 a4 a5 b0 b1 b2 b3 b4 b5
    replace HK := Lib.hid (HK.out.keep hb)
    replace HB := bel_tr HB hb
    clear hb
    obtain ⟨⟨a0, a1, a2, a3, a4, a5⟩, b0, b1, b2, b3, b4, b5⟩ := HK.out
    rcases vb : validN b with _ | _
    · have HM := Lib.hid (HBad.out (by rw [va, vb]; rfl))
      clear HBad va vb
      go_wp2_with fail
      refine (HM.out _).mono ?_
      rintro e w6 ⟨rfl, hb⟩
      clear a0 a1 a2 a3 a4 a5 b0 b1 b2 b3 b4 b5
      replace HK := Lib.hid (HK.out.keep hb)
      replace HB := bel_tr HB hb
      clear hb
      obtain ⟨⟨a0, a1, a2, a3, a4, a5⟩, b0, b1, b2, b3, b4, b5⟩ := HK.out
      go_wp2_with fail
      refine (HKn.out _ (HL.out.below HB.out)).mono ?_
      rintro e w7 ⟨rfl, hb⟩
      clear a0 a1 a2 a3 a4 a5 b0 b1 b2 b3 b4 b5
      replace HK := Lib.hid (HK.out.keep hb)
      replace HB := bel_tr HB hb
      clear hb
      go_wp2_with fail
      go_ret
      exact ⟨rfl, HB.out⟩
    · have hm := mrg_valid va vb
      have HM1 := Lib.hid (fun x q (h : mrgR a b = (x, q)) w => merges_any a b x q (hm.trans h) w)
      have HM2 := Lib.hid (fun x q (h : mrgR a b = (x, q)) w => merges_any b a x q ((merge_comm b a).trans (hm.trans h)) w)
      clear hm HBad va vb
      go_wp2_with fail
      refine (HMr.out _).mono ?_
      rintro e w8 ⟨rfl, hb⟩
      clear a0 a1 a2 a3 a4 a5 b0 b1 b2 b3 b4 b5
      replace HK := Lib.hid (HK.out.keep hb)
      replace HB := bel_tr HB hb
      clear hb
      obtain ⟨⟨a0, a1, a2, a3, a4, a5⟩, b0, b1, b2, b3, b4, b5⟩ := HK.out
      obtain ⟨⟨x, q⟩, hx⟩ : ∃ y, y = mrgR a b := ⟨_, rfl⟩
      rw [← hx]
      have HA := Lib.hid (HM1.out x q hx.symm)
      have HAb := Lib.hid (HM2.out x q hx.symm)
      clear hx HM1 HM2
      have HX := Lib.hid (Nb.new w8 x)
      have hb := bel_box w8 (.cells (nc x) 25)
      clear a0 a1 a2 a3 a4 a5 b0 b1 b2 b3 b4 b5
      replace HK := Lib.hid (HK.out.keep hb)
      replace HB := bel_tr HB hb
      clear hb
      obtain ⟨⟨a0, a1, a2, a3, a4, a5⟩, b0, b1, b2, b3, b4, b5⟩ := HK.out
      obtain ⟨x0, x1, x2, x3, x4, x5⟩ := HX.out
      go_wp2_with fail
      generalize w8.alloc (.cells (nc x) 25) = wx at *
      generalize w8.heap.size = gx at *
      refine (HA.out _).mono ?_
      rintro e w9 ⟨rfl, hb⟩
      clear a0 a1 a2 a3 a4 a5 b0 b1 b2 b3 b4 b5 x0 x1 x2 x3 x4 x5
      replace HK := Lib.hid (HK.out.keep hb)
      replace HX := Lib.hid (HX.out.keep hb)
      replace HB := bel_tr HB hb
      clear hb
      obtain ⟨⟨a0, a1, a2, a3, a4, a5⟩, b0, b1, b2, b3, b4, b5⟩ := HK.out
      obtain ⟨x0, x1, x2, x3, x4, x5⟩ := HX.out
      go_wp2_with fail
      refine (HAb.out _).mono ?_
      rintro e w10 ⟨rfl, hb⟩
      clear a0 a1 a2 a3 a4 a5 b0 b1 b2 b3 b4 b5 x0 x1 x2 x3 x4 x5
      replace HK := Lib.hid (HK.out.keep hb)
      replace HX := Lib.hid (HX.out.keep hb)
      replace HB := bel_tr HB hb
      clear hb
      go_wp2_with fail
      refine (HKn.out _ (HL.out.below HB.out)).mono ?_
      rintro e w11 ⟨rfl, hb⟩
      replace HK := Lib.hid (HK.out.keep hb)
      replace HB := bel_tr HB hb
      clear hb
      go_wp2_with fail
      go_ret
      exact ⟨rfl, HB.out⟩
end Go.Proofs.YtmmcnpcijeahcabGreatDoor.Nd
