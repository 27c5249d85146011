/-
  The program's Set, Union and Minus.
-/
import Derived.Test.YtjdhdnlcaonnkaaDoorDChoice
namespace Go.Proofs.YtjdhdnlcaonnkaaDoor.D
set_option linter.unusedVariables false
open Go.RowKit V Go.Sort

theorem enters_always : ∀ args w, (callFunc 35 args).run Tryd.prog w = .ok (.enter 35 args) w := enters_of Tryd.func35 (by kernel_rfl) rfl
theorem enters_gone : ∀ args w, (callFunc 40 args).run Tryd.prog w = .ok (.enter 40 args) w := enters_of Tryd.func40 (by kernel_rfl) rfl
theorem says_always (w : World) : Says w 35 #[] (fun _ => true) := fun W hW d => always_any d W

theorem Chosen.all {w' : World} {base : Nat} {v : Value} {l : List Dt} (h : Chosen w' base v l (fun _ => true)) : SetV w' base v (setR l) := by
  obtain ⟨m, h1, h2, h3⟩ := h
  rw [← set_eq h2 (fun x => (h3 x).trans ⟨fun e => e.1, fun e => ⟨e, rfl⟩⟩)]
  exact h1
theorem SetV.mono {w' : World} {base base' : Nat} {v : Value} {m : List Dt} (h : SetV w' base v m) (hb : base' ≤ base) : SetV w' base' v m := by
  obtain ⟨a, c, e, hc, h⟩ := h
  refine ⟨a, c, e, hc, ?_⟩
  rcases h with h | ⟨g, h1, h2, h3⟩
  · exact .inl h
  · exact .inr ⟨g, h1, Nat.le_trans hb h2, h3⟩

set_option maxRecDepth 100000 in
set_option maxHeartbeats 1000000 in
theorem set_any (l : List Dt) (a : Option Addr) (c : Nat) (w : World) (hx : RowD w a l) (hlx : l.length ≤ 1000000) :
    Calls Tryd.prog 15 #[.slice a l.length c] w fun e w' => ∃ v, e = .returned v ∧ SetV w' w.heap.size v (setR l) ∧ Below w.heap.size w w' := by
  have HC := Lib.hid (choice_any l a c 35 #[] (fun _ => true) w enters_always (says_always w) hx hlx)
  clear hx hlx
  go_enter Tryd.func15, Tryd.ntmps15
  go_wp2_with fail
  refine HC.out.mono ?_
  rintro e w2 ⟨v, rfl, hch, hb⟩
  have HS := Lib.hid hch.all
  have HB := Lib.hid hb
  clear hch hb HC
  go_wp2_with fail
  go_ret
  exact ⟨_, rfl, HS.out, HB.out⟩

set_option maxRecDepth 100000 in
set_option maxHeartbeats 1000000 in
theorem union_any (xs ys : List Dt) (a b : Option Addr) (c d : Nat) (w : World) (hx : RowD w a xs) (hy : RowD w b ys) (hna : a = none → c = 0) (hnb : b = none → d = 0) (hlx : xs.length ≤ 400000) (hly : ys.length ≤ 400000) :
    Calls Tryd.prog 22 #[.slice a xs.length c, .slice b ys.length d] w fun e w' => ∃ v, e = .returned v ∧ SetV w' w.heap.size v (unionR xs ys) ∧ Below w.heap.size w w' := by
  have hB : Below w.heap.size w (w.alloc (.cells #[.slice a xs.length c, .slice b ys.length d] 28)) := (Below.refl _ _).alloc (Nat.le_refl _) _
  have HC := Lib.hid (concat_any xs ys a b c d w.heap.size (w.alloc (.cells #[.slice a xs.length c, .slice b ys.length d] 28)) ⟨by go_simp, by go_simp⟩ (hx.keep hB) (hy.keep hB) hna hnb (by omega) (by omega))
  have HCh := Lib.hid (fun (a : Option Addr) (c : Nat) (wx : World) (h : RowD wx a (xs ++ ys)) => choice_any (xs ++ ys) a c 35 #[] (fun _ => true) wx enters_always (says_always wx) h (by rw [List.length_append]; omega))
  have HB := Lib.hid hB
  have HU : Hid (setR (xs ++ ys) = unionR xs ys) := union_set xs ys
  clear hx hy hna hnb hlx hly hB
  generalize unionR xs ys = U at *
  go_enter Tryd.func22, Tryd.ntmps22
  go_wp2_with fail
  refine HC.out.mono ?_
  rintro e w2 ⟨v, rfl, ho, hb⟩
  replace HB := bel_tr HB hb
  obtain ⟨a2, c2, rfl, hr, -⟩ := ho.row
  have HR := Lib.hid hr
  clear ho hb hr HC
  generalize xs ++ ys = l at *
  go_wp2_with fail
  refine (HCh.out a2 c2 w2 HR.out).mono ?_
  rintro e w3 ⟨v, rfl, hch, hb⟩
  have HS := Lib.hid hch.all
  rw [HU.out] at HS
  have HS2 : Hid (SetV w3 w.heap.size v U) := HS.out.mono HB.out.size
  replace HB := bel_tr HB hb
  clear hch hb HCh
  go_wp2_with fail
  go_ret
  exact ⟨_, rfl, HS2.out, HB.out⟩

set_option maxRecDepth 100000 in
set_option maxHeartbeats 1000000 in
theorem gone_any (m : List Dt) (d : Dt) (a : Option Addr) (c B : Nat) (w : World) (hs : Srt m) (hc : w.cell? ⟨B, 0, none⟩ = some (.slice a m.length c)) (hx : RowD w a m) (hlx : m.length ≤ 1000000) :
    Calls Tryd.prog 40 #[dv d, .pointer (some ⟨B, 0, none⟩)] w fun e w' => e = .returned (.bool (!decide (d ∈ m))) ∧ Below w.heap.size w w' := by
  have HX := Lib.hid hx
  have k1 := fun o => Lib.cell?_alloc_some o hc
  have HQ := Lib.hid (fun (wx : World) (h : RowD wx a m) => search_any m d a c wx hs h hlx)
  clear hx hlx hs
  generalize decide (d ∈ m) = R at *
  obtain ⟨d1, d2⟩ := d
  go_enter Tryd.func40, Tryd.ntmps40
  go_wp2_with fail
  have hB : Below w.heap.size w (w.alloc (Obj.cells #[Value.int IntKind.i64 d1, Value.int IntKind.i64 d2] 23)) := (Below.refl _ _).alloc (Nat.le_refl _) _
  refine (HQ.out _ (HX.out.keep hB)).mono ?_
  rintro e w2 ⟨z, rfl, hb⟩
  have HB := bel_tr (Lib.hid hB) hb
  clear hB hb HQ HX
  go_wp2_with fail
  go_ret
  exact ⟨rfl, HB.out⟩
theorem says_gone (m : List Dt) (a : Option Addr) (c B : Nat) (w : World) (hs : Srt m) (hc : w.cell? ⟨B, 0, none⟩ = some (.slice a m.length c)) (hx : RowD w a m) (hlx : m.length ≤ 1000000) :
    Says w 40 #[.pointer (some ⟨B, 0, none⟩)] (fun d => !decide (d ∈ m)) := fun W hW d =>
  gone_any m d a c B W hs ((hW.cell (p := ⟨_, _, none⟩) (lt_of_cell hc)).trans hc) (hx.keep hW) hlx
theorem set_len (l : List Dt) : (setR l).length ≤ l.length := by
  have := union_len l []
  simp at this
  exact this

set_option maxRecDepth 100000 in
set_option maxHeartbeats 1000000 in
theorem minus_any (xs ys : List Dt) (a b : Option Addr) (c d : Nat) (w : World) (hx : RowD w a xs) (hy : RowD w b ys) (hlx : xs.length ≤ 1000000) (hly : ys.length ≤ 1000000) :
    Calls Tryd.prog 24 #[.slice a xs.length c, .slice b ys.length d] w fun e w' => ∃ v, e = .returned v ∧ SetV w' w.heap.size v (minusR xs ys) ∧ Below w.heap.size w w' := by
  have HS := Lib.hid (set_any ys b d w hy hly)
  have HX := Lib.hid hx
  have HLx := Lib.hid hlx
  have HLm := Lib.hid (Nat.le_trans (set_len ys) hly)
  have HSrt := Lib.hid (srt_set ys)
  have HM : Hid (∀ (q : List Dt), Srt q → (∀ x, x ∈ q ↔ x ∈ xs ∧ (!decide (x ∈ setR ys)) = true) → q = minusR xs ys) := fun q hq h => minus_eq hq fun x => by
    rw [h x, Bool.not_eq_true', decide_eq_false_iff_not, mem_set]
  clear hx hy hlx hly
  generalize minusR xs ys = U at *
  generalize setR ys = m at *
  go_enter Tryd.func24, Tryd.ntmps24
  go_wp2_with fail
  refine HS.out.mono ?_
  rintro e w2 ⟨v, rfl, hsv, hb⟩
  obtain ⟨a2, c2, rfl, -, hr⟩ := hsv.row
  have HR := Lib.hid hr
  have HB := Lib.hid hb
  clear hsv hb hr HS
  go_wp2_with fail
  have hB3 : Below w2.heap.size w2 (w2.alloc (Obj.cells #[Value.slice a2 m.length c2] 28)) := (Below.refl _ _).alloc (Nat.le_refl _) _
  refine (choice_any xs a c 40 #[.pointer (some ⟨w2.heap.size, 0, none⟩)] (fun d => !decide (d ∈ m)) (w2.alloc (Obj.cells #[Value.slice a2 m.length c2] 28)) enters_gone
    (says_gone m a2 c2 w2.heap.size _ HSrt.out (by go_simp) (HR.out.keep hB3) HLm.out) ((HX.out.keep HB.out).keep hB3) HLx.out).mono ?_
  rintro e w3 ⟨v, rfl, ⟨q, hv, hq, hmem⟩, hb⟩
  have e := HM.out q hq hmem
  have HV : Hid (SetV w3 w.heap.size v U) := by
    show SetV _ _ _ _
    rw [← e]
    exact hv.mono (Nat.le_trans HB.out.size hB3.size)
  have HB2 : Hid (Below w.heap.size w w3) := HB.out.trans ((hB3.trans (hb.mono hB3.size)).mono HB.out.size)
  clear e hv hq hmem hb hB3
  go_wp2_with fail
  go_ret
  exact ⟨_, rfl, HV.out, HB2.out⟩
end Go.Proofs.YtjdhdnlcaonnkaaDoor.D
