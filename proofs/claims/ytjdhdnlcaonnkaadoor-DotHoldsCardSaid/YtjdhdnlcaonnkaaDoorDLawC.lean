/-
  The law of pairs.
-/
import Derived.Test.YtjdhdnlcaonnkaaDoorDLawB
namespace Go.Proofs.YtjdhdnlcaonnkaaDoor.D
set_option linter.unusedVariables false
open Go.RowKit V Go.Sort

theorem same_true (l : List Dt) (a b : Option Addr) (c d : Nat) (w : World) (hx : RowD w a l) (hy : RowD w b l) (hl : l.length ≤ 1000000) :
    Calls Tryd.prog 18 #[.slice a l.length c, .slice b l.length d] w fun e w' => e = .returned (.bool true) ∧ Below w.heap.size w w' :=
  same_val l l a b _ _ c d true (by simp) w hx hy rfl rfl hl hl
/-- A slice of dots, in memory. -/
def Sv (w : World) (v : Value) (m : List Dt) : Prop := ∃ a c, v = .slice a m.length c ∧ (a = none → c = 0) ∧ RowD w a m
theorem OD.sv {w : World} {base : Nat} {v : Value} {m : List Dt} (h : OD w base E v m) : Sv w v m := by
  obtain ⟨a, c, e, hr, hn, -⟩ := h.row
  exact ⟨a, c, e, fun h => (hn h).1, hr⟩
theorem SetV.sv {w : World} {base : Nat} {v : Value} {m : List Dt} (h : SetV w base v m) : Sv w v m := by
  obtain ⟨a, c, e, hn, hr⟩ := h.row
  exact ⟨a, c, e, hn, hr⟩
theorem union_sv (xs ys : List Dt) (a b : Option Addr) (c d : Nat) (w : World) (hx : RowD w a xs) (hy : RowD w b ys) (hna : a = none → c = 0) (hnb : b = none → d = 0) (hlx : xs.length ≤ 1000) (hly : ys.length ≤ 1000) :
    Calls Tryd.prog 22 #[.slice a xs.length c, .slice b ys.length d] w fun e w' => ∃ v, e = .returned v ∧ Sv w' v (unionR xs ys) ∧ Below w.heap.size w w' :=
  (union_any xs ys a b c d w hx hy hna hnb (by omega) (by omega)).mono fun _ _ ⟨v, h1, h2, h3⟩ => ⟨v, h1, h2.sv, h3⟩
theorem minus_sv (xs ys : List Dt) (a b : Option Addr) (c d : Nat) (w : World) (hx : RowD w a xs) (hy : RowD w b ys) (hlx : xs.length ≤ 1000) (hly : ys.length ≤ 1000) :
    Calls Tryd.prog 24 #[.slice a xs.length c, .slice b ys.length d] w fun e w' => ∃ v, e = .returned v ∧ Sv w' v (minusR xs ys) ∧ Below w.heap.size w w' :=
  (minus_any xs ys a b c d w hx hy (by omega) (by omega)).mono fun _ _ ⟨v, h1, h2, h3⟩ => ⟨v, h1, h2.sv, h3⟩
theorem unionr_sv (xs ys : List Dt) (a b : Option Addr) (c d : Nat) (w : World) (hx : RowD w a xs) (hy : RowD w b ys) (hlx : xs.length ≤ 1000) (hly : ys.length ≤ 1000) :
    Calls Tryd.prog 23 #[.slice a xs.length c, .slice b ys.length d] w fun e w' => ∃ v, e = .returned v ∧ Sv w' v (unionR xs ys) ∧ Below w.heap.size w w' :=
  (union_ref xs ys a b c d w hx hy (by omega) (by omega)).mono fun _ _ ⟨v, h1, h2, h3⟩ => ⟨v, h1, h2.sv, h3⟩
theorem minusr_sv (xs ys : List Dt) (a b : Option Addr) (c d : Nat) (w : World) (hx : RowD w a xs) (hy : RowD w b ys) (hlx : xs.length ≤ 1000) (hly : ys.length ≤ 1000) :
    Calls Tryd.prog 25 #[.slice a xs.length c, .slice b ys.length d] w fun e w' => ∃ v, e = .returned v ∧ Sv w' v (minusR xs ys) ∧ Below w.heap.size w w' :=
  (minus_ref xs ys a b c d w hx hy (by omega) (by omega)).mono fun _ _ ⟨v, h1, h2, h3⟩ => ⟨v, h1, h2.sv, h3⟩
theorem minus_len (xs ys : List Dt) : (minusR xs ys).length ≤ xs.length := by
  rw [minus_union]
  have h1 := union_len (xs.filter fun d => decide (d ∉ ys)) []
  have h2 := List.length_filter_le (fun d => decide (d ∉ ys)) xs
  simp only [List.length_nil] at h1
  omega

set_option maxRecDepth 100000 in
set_option maxHeartbeats 4000000 in
theorem pairs_law (xs ys : List Dt) (a b : Option Addr) (c d : Nat) (w : World) (hL : Ld w) (hx : RowD w a xs) (hy : RowD w b ys) (hna : a = none → c = 0) (hnb : b = none → d = 0) (hlx : xs.length ≤ 9223372036854775807) (hly : ys.length ≤ 9223372036854775807) :
    Calls Tryd.prog 5 #[.slice a xs.length c, .slice b ys.length d] w fun e w' => e = .returned (.bool true) ∧ Below w.heap.size w w' := by
  have HLd := Lib.hid hL
  have HRa := Lib.hid hx
  have HRb := Lib.hid hy
  have HNa := Lib.hid hna
  have HNb := Lib.hid hnb
  have HKn := Lib.hid (fun w hL => known_any w hL)
  clear hL hx hy hna hnb
  by_cases h1 : 60 < xs.length
  · have hg : (60 : Int) < (xs.length : Int) := by omega
    clear h1 hlx hly
    go_enter Tryd.func5, Tryd.ntmps5
    go_wp2_with fail
    refine (HKn.out _ HLd.out).mono ?_
    rintro e w2 ⟨rfl, hb⟩
    have HB := Lib.hid hb
    clear hb
    go_wp2_with fail
    go_ret
    exact ⟨rfl, HB.out⟩
  by_cases h2 : 60 < ys.length
  · have hg : (60 : Int) < (ys.length : Int) := by omega
    have hg2 : ¬ (60 : Int) < (xs.length : Int) := by omega
    clear h1 h2 hlx hly
    go_enter Tryd.func5, Tryd.ntmps5
    go_wp2_with fail
    refine (HKn.out _ HLd.out).mono ?_
    rintro e w2 ⟨rfl, hb⟩
    have HB := Lib.hid hb
    clear hb
    go_wp2_with fail
    go_ret
    exact ⟨rfl, HB.out⟩
  have hg : ¬ (60 : Int) < (xs.length : Int) := by omega
  have hg2 : ¬ (60 : Int) < (ys.length : Int) := by omega
  have HLx : Hid (xs.length ≤ 60) := by show _ ≤ _; omega
  have HLy : Hid (ys.length ≤ 60) := by show _ ≤ _; omega
  have HLu : Hid ((unionR xs ys).length ≤ 1000) := by show _ ≤ _; have := union_len xs ys; omega
  have HLm : Hid ((minusR xs ys).length ≤ 1000) := by show _ ≤ _; have := minus_len xs ys; omega
  have HUn := Lib.hid (fun a b c d w hx hy hna hnb => union_sv xs ys a b c d w hx hy hna hnb (by omega) (by omega))
  have HUr := Lib.hid (fun a b c d w hx hy => unionr_sv xs ys a b c d w hx hy (by omega) (by omega))
  have HMi := Lib.hid (fun a b c d w hx hy => minus_sv xs ys a b c d w hx hy (by omega) (by omega))
  have HMr := Lib.hid (fun a b c d w hx hy => minusr_sv xs ys a b c d w hx hy (by omega) (by omega))
  have HSa := Lib.hid (fun l a b c d w hx hy hl => same_true l a b c d w hx hy hl)
  clear h1 h2 hlx hly
  generalize unionR xs ys = U at *
  generalize minusR xs ys = M at *
  go_enter Tryd.func5, Tryd.ntmps5
  go_wp2_with (at_builtin; refine wpList_appD rfl _ _ _ rfl Tryd.underlying28 infoD _ _ rfl (OD.nil w w.heap.size E) a xs c rfl HRa.out HNa.out (by have := HLx.out; simp; omega) (Nat.le_refl _) ?_)
  intro v1 w1 ho hg3 _
  have HOx : Hid (OD w1 w.heap.size E v1 xs) := ho
  have HB : Hid (Below w.heap.size w w1) := (Below.refl _ _).grown hg3 (Nat.le_refl _) (fun k hk => by cases hk)
  replace HRa := Lib.hid (HRa.out.keep HB.out)
  replace HRb := Lib.hid (HRb.out.keep HB.out)
  clear ho hg3
  go_wp2_with (at_builtin; refine wpList_appD rfl _ _ _ rfl Tryd.underlying28 infoD _ _ rfl (OD.nil w1 w1.heap.size E) b ys d rfl HRb.out HNb.out (by have := HLy.out; simp; omega) (Nat.le_refl _) ?_)
  intro v2 w2 ho hg3 _
  have HOy : Hid (OD w2 w1.heap.size E v2 ys) := ho
  have hb : Below w1.heap.size w1 w2 := (Below.refl _ _).grown hg3 (Nat.le_refl _) (fun k hk => by cases hk)
  replace HRa := Lib.hid (HRa.out.keep hb)
  replace HRb := Lib.hid (HRb.out.keep hb)
  have HOx2 := Lib.hid (HOx.out.below hb)
  replace HB := bel_tr HB hb
  clear ho hg3 hb HOx
  obtain ⟨ax, cx, rfl, hrx, hnx, -⟩ := HOx2.out.row
  obtain ⟨ay, cy, rfl, hry, hny, -⟩ := HOy.out.row
  have HRx := Lib.hid hrx
  have HRy := Lib.hid hry
  have HNx := Lib.hid (fun h => (hnx h).1)
  have HNy := Lib.hid (fun h => (hny h).1)
  clear hrx hry hnx hny HOx2 HOy
  go_wp2_with fail
  refine (HUn.out ax ay cx cy _ HRx.out HRy.out HNx.out HNy.out).mono ?_
  rintro e w3 ⟨v, rfl, ⟨a1, c1, rfl, -, hr⟩, hb⟩
  replace HRa := Lib.hid (HRa.out.keep hb)
  replace HRb := Lib.hid (HRb.out.keep hb)
  replace HRx := Lib.hid (HRx.out.keep hb)
  replace HRy := Lib.hid (HRy.out.keep hb)
  have HS1 := Lib.hid hr
  clear hr
  replace HB := bel_tr HB hb
  clear hb
  go_wp2_with fail
  refine (HUr.out a b c d _ HRa.out HRb.out).mono ?_
  rintro e w4 ⟨v, rfl, ⟨a2, c2, rfl, -, hr⟩, hb⟩
  replace HRa := Lib.hid (HRa.out.keep hb)
  replace HRb := Lib.hid (HRb.out.keep hb)
  replace HRx := Lib.hid (HRx.out.keep hb)
  replace HRy := Lib.hid (HRy.out.keep hb)
  replace HS1 := Lib.hid (HS1.out.keep hb)
  have HS2 := Lib.hid hr
  clear hr
  replace HB := bel_tr HB hb
  clear hb
  go_wp2_with fail
  refine (HSa.out U a1 a2 c1 c2 _ HS1.out HS2.out (by have := HLu.out; omega)).mono ?_
  rintro e w5 ⟨rfl, hb⟩
  replace HRa := Lib.hid (HRa.out.keep hb)
  replace HRb := Lib.hid (HRb.out.keep hb)
  replace HRx := Lib.hid (HRx.out.keep hb)
  replace HRy := Lib.hid (HRy.out.keep hb)
  replace HS1 := Lib.hid (HS1.out.keep hb)
  replace HS2 := Lib.hid (HS2.out.keep hb)
  replace HB := bel_tr HB hb
  clear hb
  clear HS1 HS2
  go_wp2_with fail
  refine (HMi.out ax ay cx cy _ HRx.out HRy.out).mono ?_
  rintro e w6 ⟨v, rfl, ⟨a3, c3, rfl, -, hr⟩, hb⟩
  replace HRa := Lib.hid (HRa.out.keep hb)
  replace HRb := Lib.hid (HRb.out.keep hb)
  replace HRx := Lib.hid (HRx.out.keep hb)
  replace HRy := Lib.hid (HRy.out.keep hb)
  have HS1 := Lib.hid hr
  clear hr
  replace HB := bel_tr HB hb
  clear hb
  go_wp2_with fail
  refine (HMr.out a b c d _ HRa.out HRb.out).mono ?_
  rintro e w7 ⟨v, rfl, ⟨a4, c4, rfl, -, hr⟩, hb⟩
  replace HRa := Lib.hid (HRa.out.keep hb)
  replace HRb := Lib.hid (HRb.out.keep hb)
  replace HRx := Lib.hid (HRx.out.keep hb)
  replace HRy := Lib.hid (HRy.out.keep hb)
  replace HS1 := Lib.hid (HS1.out.keep hb)
  have HS2 := Lib.hid hr
  clear hr
  replace HB := bel_tr HB hb
  clear hb
  go_wp2_with fail
  refine (HSa.out M a3 a4 c3 c4 _ HS1.out HS2.out (by have := HLm.out; omega)).mono ?_
  rintro e w8 ⟨rfl, hb⟩
  replace HRa := Lib.hid (HRa.out.keep hb)
  replace HRb := Lib.hid (HRb.out.keep hb)
  replace HRx := Lib.hid (HRx.out.keep hb)
  replace HRy := Lib.hid (HRy.out.keep hb)
  replace HS1 := Lib.hid (HS1.out.keep hb)
  replace HS2 := Lib.hid (HS2.out.keep hb)
  replace HB := bel_tr HB hb
  clear hb
  clear HS1 HS2
  go_wp2_with fail
  refine (HSa.out xs ax a cx c _ HRx.out HRa.out (by have := HLx.out; omega)).mono ?_
  rintro e w9 ⟨rfl, hb⟩
  replace HRa := Lib.hid (HRa.out.keep hb)
  replace HRb := Lib.hid (HRb.out.keep hb)
  replace HRx := Lib.hid (HRx.out.keep hb)
  replace HRy := Lib.hid (HRy.out.keep hb)
  replace HB := bel_tr HB hb
  clear hb
  go_wp2_with fail
  refine (HSa.out ys ay b cy d _ HRy.out HRb.out (by have := HLy.out; omega)).mono ?_
  rintro e w10 ⟨rfl, hb⟩
  replace HRa := Lib.hid (HRa.out.keep hb)
  replace HRb := Lib.hid (HRb.out.keep hb)
  replace HRx := Lib.hid (HRx.out.keep hb)
  replace HRy := Lib.hid (HRy.out.keep hb)
  replace HB := bel_tr HB hb
  clear hb
  go_wp2_with fail
  refine (HKn.out _ (HLd.out.below HB.out)).mono ?_
  rintro e w11 ⟨rfl, hb⟩
  replace HRa := Lib.hid (HRa.out.keep hb)
  replace HRb := Lib.hid (HRb.out.keep hb)
  replace HRx := Lib.hid (HRx.out.keep hb)
  replace HRy := Lib.hid (HRy.out.keep hb)
  replace HB := bel_tr HB hb
  clear hb
  go_wp2_with fail
  go_ret
  exact ⟨rfl, HB.out⟩
end Go.Proofs.YtjdhdnlcaonnkaaDoor.D
