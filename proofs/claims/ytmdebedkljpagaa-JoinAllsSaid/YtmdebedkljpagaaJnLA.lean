/-
  The laws JoinValid, JoinJoins, JoinWithins.
-/
import Derived.Test.YtmdebedkljpagaaJnKn
namespace Go.Proofs.Ytmdebedkljpagaa.Jn
set_option linter.unusedVariables false
open Go.RowKit V Go.Sort D Nd Qs
attribute [local irreducible] Sch.heldN Sch.stepV Sch.stepE

theorem neqB (v : Bool) : ∀ w, Sem.run Try.prog (binOp .neq 4 (.bool v) (.bool v)) w = .ok (.bool false) w := by
  intro w
  cases v <;> kernel_rfl
theorem on_sl {w : World} {base : Nat} {E : TypeId} {v : Value} {l : List Nt} (h : ON w base E v l) : ∃ a c, v = .slice a l.length c ∧ Sl w a l.length c l := by
  obtain ⟨a, c, rfl, hr, hn, hc, -⟩ := ON.row h
  exact ⟨a, c, rfl, rfl, hr, fun h => (hn h).1, hc⟩
theorem same_true (l : List Nt) (a b : Option Addr) (c d : Nat) (w : World) (hx : Sl w a l.length c l) (hy : Sl w b l.length d l) (hl : l.length ≤ 1000000) :
    Calls Try.prog 14 #[.slice a l.length c, .slice b l.length d] w fun e w' => e = .returned (.bool true) ∧ Below w.heap.size w w' := by
  have h := same_ref l l a b c d w hx.r hy.r (by omega) (by omega)
  rw [decide_eq_true rfl] at h
  exact h
theorem equal_true (l : List Nt) (a b : Option Addr) (c d : Nat) (w : World) (hx : Sl w a l.length c l) (hy : Sl w b l.length d l) (hl : l.length ≤ 1000000) :
    Calls Try.prog 13 #[.slice a l.length c, .slice b l.length d] w fun e w' => e = .returned (.bool true) ∧ Below w.heap.size w w' := by
  have h := jequal_any l l a b c d w hx.r hy.r hl hl
  rw [decide_eq_true rfl] at h
  exact h
theorem joinP_no1 {a b : List Nt} (h : validS a = false) : joinP a b = ([], 2) ∧ agP a b = (false, 2) ∧ inP a b = (false, 2) := by
  have e : joinP a b = ([], 2) := by unfold joinP; rw [h]; rfl
  exact ⟨e, by unfold agP; rw [h]; rfl, by unfold inP; rw [e]; rfl⟩
theorem joinP_no2 {a b : List Nt} (h : validS b = false) : joinP a b = ([], 2) ∧ agP a b = (false, 2) ∧ inP a b = (false, 2) := by
  have e : joinP a b = ([], 2) := by unfold joinP; rw [h, Bool.and_false]; rfl
  exact ⟨e, by unfold agP; rw [h, Bool.and_false]; rfl, by unfold inP; rw [e]; rfl⟩
theorem joinP_clash {a b : List Nt} (h1 : validS a = true) (h2 : validS b = true) (h : agS a b = false) : joinP a b = ([], 15) ∧ agP a b = (false, 0) ∧ inP a b = (false, 15) := by
  have e : joinP a b = ([], 15) := by unfold joinP; rw [h1, h2, h]; rfl
  exact ⟨e, by unfold agP; rw [h1, h2, h]; rfl, by unfold inP; rw [e]; rfl⟩
theorem joinP_yes {a b : List Nt} (h1 : validS a = true) (h2 : validS b = true) (h : agS a b = true) : joinP a b = (joinL a b, 0) ∧ agP a b = (true, 0) ∧ inP a b = (decide (joinL a b = b), 0) := by
  have e : joinP a b = (joinL a b, 0) := by unfold joinP; rw [h1, h2, h]; rfl
  exact ⟨e, by unfold agP; rw [h1, h2, h]; rfl, by unfold inP; rw [e]; rfl⟩
set_option maxRecDepth 100000 in
set_option maxHeartbeats 8000000 in
theorem valid_law (l m : List Nt) (a b : Option Addr) (c d : Nat) (w : World) (hX : Sl w a l.length c l) (hY : Sl w b m.length d m) :
    Calls Try.prog 3 #[.slice a l.length c, .slice b m.length d] w fun e w' => e = .returned (.bool true) ∧ Below w.heap.size w w' := by
  have HB := Lib.hid (Below.refl w.heap.size w)
  by_cases hbig : 60 < l.length
  · have hg : (60 : Int) < (l.length : Int) := by omega
    clear hX hY hbig
    go_enter Try.func3, Try.ntmps3
    go_wp2_with fail
    refine (known_any _).mono ?_
    rintro e w99 ⟨rfl, hb⟩
    replace HB := bel_tr HB hb
    clear hb
    go_wp2_with fail
    go_ret
    exact ⟨rfl, HB.out⟩
  by_cases hbig2 : 60 < m.length
  · have hg : ¬ (60 : Int) < (l.length : Int) := by omega
    have hg2 : (60 : Int) < (m.length : Int) := by omega
    clear hX hY hbig hbig2
    go_enter Try.func3, Try.ntmps3
    go_wp2_with fail
    refine (known_any _).mono ?_
    rintro e w99 ⟨rfl, hb⟩
    replace HB := bel_tr HB hb
    clear hb
    go_wp2_with fail
    go_ret
    exact ⟨rfl, HB.out⟩
  have hl1 : l.length ≤ 60 := by omega
  have hl2 : m.length ≤ 60 := by omega
  have hg : ¬ (60 : Int) < (l.length : Int) := by omega
  have hg2 : ¬ (60 : Int) < (m.length : Int) := by omega
  have HX := Lib.hid hX
  have HY := Lib.hid hY
  have HLx := Lib.hid hl1
  have HLy := Lib.hid hl2
  clear hX hY hbig hbig2
  have HSt := Lib.hid (fun v base w h => stain_ref l v base w h (by omega))
  have HVj := Lib.hid (fun w h => jvalid_any l a c w h (by omega))
  have HVr := Lib.hid (fun w h => store_ref l a c w h (by omega))
  have HEj := Lib.hid (fun w h1 h2 => jequal_any l m a b c d w h1 h2 (by omega) (by omega))
  have HEr := Lib.hid (fun w h1 h2 => same_ref l m a b c d w h1 h2 (by omega) (by omega))
  have HCr := Lib.hid (fun w h1 h2 => copy_ref l a c w h1 h2 (by omega))
  have HCj := Lib.hid (fun w h1 h2 => jcopy_any l a c w h1 h2 (by omega))
  obtain ⟨vl, hvl⟩ : ∃ vl, vl = validS l := ⟨_, rfl⟩
  rw [← hvl] at HVj HVr
  obtain ⟨q, hq⟩ : ∃ q, q = decide (l = m) := ⟨_, rfl⟩
  rw [← hq] at HEj HEr
  have hn1 := neqB vl
  have hn2 := neqB q
  clear hvl hq hl1 hl2
  go_enter Try.func3, Try.ntmps3
  go_wp2_with fail
  refine (HCr.out _ HX.out.r HX.out.z).mono ?_
  rintro e w1 ⟨v1, rfl, ho, hb⟩
  replace HB := bel_tr HB hb
  replace HX := Lib.hid (HX.out.keep hb)
  replace HY := Lib.hid (HY.out.keep hb)
  obtain ⟨a1, c1, rfl, hsl⟩ := on_sl ho
  have HW := Lib.hid hsl
  clear hsl ho hb
  have HZ := Lib.hid (Below.refl w1.heap.size w1)
  have HX1 := Lib.hid HX.out
  have HW1 := Lib.hid HW.out
  have HB1 := Lib.hid HB.out
  go_wp2_with fail
  refine (HCj.out _ HX.out.r HX.out.z).mono ?_
  rintro e w2 ⟨v2, rfl, ho, hb⟩
  replace HB := bel_tr HB hb
  replace HZ := bel_tr HZ hb
  replace HX := Lib.hid (HX.out.keep hb)
  replace HY := Lib.hid (HY.out.keep hb)
  replace HW := Lib.hid (HW.out.keep hb)
  obtain ⟨a2, c2, rfl, hsl⟩ := on_sl ho
  have HC := Lib.hid hsl
  have HO := Lib.hid ho
  clear hsl ho hb
  go_wp2_with fail
  refine (HVj.out _ HX.out.r).mono ?_
  rintro e w3 ⟨rfl, hb⟩
  replace HB := bel_tr HB hb
  replace HZ := bel_tr HZ hb
  replace HX := Lib.hid (HX.out.keep hb)
  replace HY := Lib.hid (HY.out.keep hb)
  replace HW := Lib.hid (HW.out.keep hb)
  replace HC := Lib.hid (HC.out.keep hb)
  replace HO := Lib.hid (HO.out.below hb)
  clear hb
  go_wp2_with fail
  refine (HVr.out _ HX.out.r).mono ?_
  rintro e w4 ⟨rfl, hb⟩
  replace HB := bel_tr HB hb
  replace HZ := bel_tr HZ hb
  replace HX := Lib.hid (HX.out.keep hb)
  replace HY := Lib.hid (HY.out.keep hb)
  replace HW := Lib.hid (HW.out.keep hb)
  replace HC := Lib.hid (HC.out.keep hb)
  replace HO := Lib.hid (HO.out.below hb)
  clear hb
  go_wp2_with fail
  refine (HEj.out _ HX.out.r HY.out.r).mono ?_
  rintro e w5 ⟨rfl, hb⟩
  replace HB := bel_tr HB hb
  replace HZ := bel_tr HZ hb
  replace HX := Lib.hid (HX.out.keep hb)
  replace HY := Lib.hid (HY.out.keep hb)
  replace HW := Lib.hid (HW.out.keep hb)
  replace HC := Lib.hid (HC.out.keep hb)
  replace HO := Lib.hid (HO.out.below hb)
  clear hb
  go_wp2_with fail
  refine (HEr.out _ HX.out.r HY.out.r).mono ?_
  rintro e w6 ⟨rfl, hb⟩
  replace HB := bel_tr HB hb
  replace HZ := bel_tr HZ hb
  replace HX := Lib.hid (HX.out.keep hb)
  replace HY := Lib.hid (HY.out.keep hb)
  replace HW := Lib.hid (HW.out.keep hb)
  replace HC := Lib.hid (HC.out.keep hb)
  replace HO := Lib.hid (HO.out.below hb)
  clear hb
  go_wp2_with fail
  refine (equal_true m b b d d _ HY.out HY.out (by have := HLy.out; omega)).mono ?_
  rintro e w7 ⟨rfl, hb⟩
  replace HB := bel_tr HB hb
  replace HZ := bel_tr HZ hb
  replace HX := Lib.hid (HX.out.keep hb)
  replace HY := Lib.hid (HY.out.keep hb)
  replace HW := Lib.hid (HW.out.keep hb)
  replace HC := Lib.hid (HC.out.keep hb)
  replace HO := Lib.hid (HO.out.below hb)
  clear hb
  go_wp2_with fail
  refine (same_true l _ a _ c _ HC.out HX.out (by have := HLx.out; omega)).mono ?_
  rintro e w8 ⟨rfl, hb⟩
  replace HB := bel_tr HB hb
  replace HZ := bel_tr HZ hb
  replace HX := Lib.hid (HX.out.keep hb)
  replace HY := Lib.hid (HY.out.keep hb)
  replace HW := Lib.hid (HW.out.keep hb)
  replace HC := Lib.hid (HC.out.keep hb)
  replace HO := Lib.hid (HO.out.below hb)
  clear hb
  go_wp2_with fail
  refine (HSt.out _ _ _ HO.out).mono ?_
  rintro e w9 ⟨rfl, hb⟩
  have HZ9 := Lib.hid (HZ.out.trans hb)
  have HX9 := Lib.hid (HX1.out.keep HZ9.out)
  have HW9 := Lib.hid (HW1.out.keep HZ9.out)
  replace HB := bel_tr HB1 HZ9.out
  clear hb HZ HX HY HW HC HO
  go_wp2_with fail
  refine (same_true l a _ c _ _ HX9.out HW9.out (by have := HLx.out; omega)).mono ?_
  rintro e w10 ⟨rfl, hb⟩
  replace HB := bel_tr HB hb
  clear hb
  go_wp2_with fail
  refine (known_any _).mono ?_
  rintro e w99 ⟨rfl, hb⟩
  replace HB := bel_tr HB hb
  clear hb
  go_wp2_with fail
  go_ret
  exact ⟨rfl, HB.out⟩
set_option maxRecDepth 100000 in
set_option maxHeartbeats 8000000 in
theorem joins_law (l m : List Nt) (a b : Option Addr) (c d : Nat) (w : World) (hX : Sl w a l.length c l) (hY : Sl w b m.length d m) :
    Calls Try.prog 4 #[.slice a l.length c, .slice b m.length d] w fun e w' => e = .returned (.bool true) ∧ Below w.heap.size w w' := by
  have HB := Lib.hid (Below.refl w.heap.size w)
  by_cases hbig : 60 < l.length
  · have hg : (60 : Int) < (l.length : Int) := by omega
    clear hX hY hbig
    go_enter Try.func4, Try.ntmps4
    go_wp2_with fail
    refine (known_any _).mono ?_
    rintro e w99 ⟨rfl, hb⟩
    replace HB := bel_tr HB hb
    clear hb
    go_wp2_with fail
    go_ret
    exact ⟨rfl, HB.out⟩
  by_cases hbig2 : 60 < m.length
  · have hg : ¬ (60 : Int) < (l.length : Int) := by omega
    have hg2 : (60 : Int) < (m.length : Int) := by omega
    clear hX hY hbig hbig2
    go_enter Try.func4, Try.ntmps4
    go_wp2_with fail
    refine (known_any _).mono ?_
    rintro e w99 ⟨rfl, hb⟩
    replace HB := bel_tr HB hb
    clear hb
    go_wp2_with fail
    go_ret
    exact ⟨rfl, HB.out⟩
  have hl1 : l.length ≤ 60 := by omega
  have hl2 : m.length ≤ 60 := by omega
  have hg : ¬ (60 : Int) < (l.length : Int) := by omega
  have hg2 : ¬ (60 : Int) < (m.length : Int) := by omega
  have HX := Lib.hid hX
  have HY := Lib.hid hY
  have HLx := Lib.hid hl1
  have HLy := Lib.hid hl2
  clear hX hY hbig hbig2
  have HVl := Lib.hid (fun w h => store_ref l a c w h (by omega))
  have HVm := Lib.hid (fun w h => store_ref m b d w h (by omega))
  have HAg := Lib.hid (fun w h1 h2 => agree_ref l m a b c d w h1 h2 (by omega) (by omega))
  have HAt := Lib.hid (fun t q w h h1 h2 => agree_true l m t q h a b c d w h1 h2 (by omega) (by omega))
  have HJt := Lib.hid (fun Z q w z cz h h1 h2 h3 => joins_true l m Z q h a b c d w z cz h1 h2 (by omega) (by omega) h3)
  rcases hv1 : validS l with _ | _
  · have HP := Lib.hid (joinP_no1 (b := m) hv1)
    rw [hv1] at HVl
    clear hl1 hl2 hv1 HVm HAg
    go_enter Try.func4, Try.ntmps4
    go_wp2_with fail
    refine (HVl.out _ HX.out.r).mono ?_
    rintro e w1 ⟨rfl, hb⟩
    replace HB := bel_tr HB hb
    replace HX := Lib.hid (HX.out.keep hb)
    replace HY := Lib.hid (HY.out.keep hb)
    clear hb
    go_wp2_with fail
    refine (HAt.out _ _ _ HP.out.2.1 HX.out HY.out).mono ?_
    rintro e w2 ⟨rfl, hb⟩
    replace HB := bel_tr HB hb
    replace HX := Lib.hid (HX.out.keep hb)
    replace HY := Lib.hid (HY.out.keep hb)
    clear hb
    go_wp2_with fail
    refine (HJt.out [] _ _ none 0 HP.out.1 HX.out HY.out (RowN.nil _ _)).mono ?_
    rintro e w3 ⟨rfl, hb⟩
    replace HB := bel_tr HB hb
    replace HX := Lib.hid (HX.out.keep hb)
    replace HY := Lib.hid (HY.out.keep hb)
    clear hb
    go_wp2_with fail
    refine (known_any _).mono ?_
    rintro e w99 ⟨rfl, hb⟩
    replace HB := bel_tr HB hb
    clear hb
    go_wp2_with fail
    go_ret
    exact ⟨rfl, HB.out⟩
  rcases hv2 : validS m with _ | _
  · have HP := Lib.hid (joinP_no2 (a := l) hv2)
    rw [hv1] at HVl
    rw [hv2] at HVm
    clear hl1 hl2 hv1 hv2 HAg
    go_enter Try.func4, Try.ntmps4
    go_wp2_with fail
    refine (HVl.out _ HX.out.r).mono ?_
    rintro e w1 ⟨rfl, hb⟩
    replace HB := bel_tr HB hb
    replace HX := Lib.hid (HX.out.keep hb)
    replace HY := Lib.hid (HY.out.keep hb)
    clear hb
    go_wp2_with fail
    refine (HVm.out _ HY.out.r).mono ?_
    rintro e w2 ⟨rfl, hb⟩
    replace HB := bel_tr HB hb
    replace HX := Lib.hid (HX.out.keep hb)
    replace HY := Lib.hid (HY.out.keep hb)
    clear hb
    go_wp2_with fail
    refine (HAt.out _ _ _ HP.out.2.1 HX.out HY.out).mono ?_
    rintro e w3 ⟨rfl, hb⟩
    replace HB := bel_tr HB hb
    replace HX := Lib.hid (HX.out.keep hb)
    replace HY := Lib.hid (HY.out.keep hb)
    clear hb
    go_wp2_with fail
    refine (HJt.out [] _ _ none 0 HP.out.1 HX.out HY.out (RowN.nil _ _)).mono ?_
    rintro e w4 ⟨rfl, hb⟩
    replace HB := bel_tr HB hb
    replace HX := Lib.hid (HX.out.keep hb)
    replace HY := Lib.hid (HY.out.keep hb)
    clear hb
    go_wp2_with fail
    refine (known_any _).mono ?_
    rintro e w99 ⟨rfl, hb⟩
    replace HB := bel_tr HB hb
    clear hb
    go_wp2_with fail
    go_ret
    exact ⟨rfl, HB.out⟩
  rcases hag : agS l m with _ | _
  · have HP := Lib.hid (joinP_clash hv1 hv2 hag)
    rw [hv1] at HVl
    rw [hv2] at HVm
    rw [hag] at HAg
    clear hl1 hl2 hv1 hv2 hag
    go_enter Try.func4, Try.ntmps4
    go_wp2_with fail
    refine (HVl.out _ HX.out.r).mono ?_
    rintro e w1 ⟨rfl, hb⟩
    replace HB := bel_tr HB hb
    replace HX := Lib.hid (HX.out.keep hb)
    replace HY := Lib.hid (HY.out.keep hb)
    clear hb
    go_wp2_with fail
    refine (HVm.out _ HY.out.r).mono ?_
    rintro e w2 ⟨rfl, hb⟩
    replace HB := bel_tr HB hb
    replace HX := Lib.hid (HX.out.keep hb)
    replace HY := Lib.hid (HY.out.keep hb)
    clear hb
    go_wp2_with fail
    refine (HAg.out _ HX.out.r HY.out.r).mono ?_
    rintro e w3 ⟨rfl, hb⟩
    replace HB := bel_tr HB hb
    replace HX := Lib.hid (HX.out.keep hb)
    replace HY := Lib.hid (HY.out.keep hb)
    clear hb
    go_wp2_with fail
    refine (HAt.out _ _ _ HP.out.2.1 HX.out HY.out).mono ?_
    rintro e w4 ⟨rfl, hb⟩
    replace HB := bel_tr HB hb
    replace HX := Lib.hid (HX.out.keep hb)
    replace HY := Lib.hid (HY.out.keep hb)
    clear hb
    go_wp2_with fail
    refine (HJt.out [] _ _ none 0 HP.out.1 HX.out HY.out (RowN.nil _ _)).mono ?_
    rintro e w5 ⟨rfl, hb⟩
    replace HB := bel_tr HB hb
    replace HX := Lib.hid (HX.out.keep hb)
    replace HY := Lib.hid (HY.out.keep hb)
    clear hb
    go_wp2_with fail
    refine (known_any _).mono ?_
    rintro e w99 ⟨rfl, hb⟩
    replace HB := bel_tr HB hb
    clear hb
    go_wp2_with fail
    go_ret
    exact ⟨rfl, HB.out⟩
  have HP := Lib.hid (joinP_yes hv1 hv2 hag)
  have HJr := Lib.hid (fun w h1 h2 h3 => join_ref l m a b c d w h1 h2 h3 (by omega) (by omega))
  rw [joinR_eq hv1 hv2 hag] at HJr
  have HLj : Hid ((joinL l m).length ≤ 120) := by have := joinL_len l m; show _ ≤ _; omega
  have HCl := Lib.hid (fun w h1 h2 => copy_ref l a c w h1 h2 (by omega))
  have HCm := Lib.hid (fun w h1 h2 => copy_ref m b d w h1 h2 (by omega))
  have HJp := Lib.hid (fun a2 c2 b2 d2 w (h1 : Sl w a2 l.length c2 l) (h2 : Sl w b2 m.length d2 m) => join_any l m a2 b2 c2 d2 w h1.r h1.z h1.c h2.r h2.z h2.c (by omega) (by omega))
  rw [(joinP_yes hv1 hv2 hag).1] at HJp
  have HSt := Lib.hid (fun v base w h => stain_ref (joinL l m) v base w h (by have := HLj.out; omega))
  rw [hv1] at HVl
  rw [hv2] at HVm
  rw [hag] at HAg
  clear hl1 hl2 hv1 hv2 hag
  generalize joinL l m = T at *
  go_enter Try.func4, Try.ntmps4
  go_wp2_with fail
  refine (HVl.out _ HX.out.r).mono ?_
  rintro e w1 ⟨rfl, hb⟩
  replace HB := bel_tr HB hb
  replace HX := Lib.hid (HX.out.keep hb)
  replace HY := Lib.hid (HY.out.keep hb)
  clear hb
  go_wp2_with fail
  refine (HVm.out _ HY.out.r).mono ?_
  rintro e w2 ⟨rfl, hb⟩
  replace HB := bel_tr HB hb
  replace HX := Lib.hid (HX.out.keep hb)
  replace HY := Lib.hid (HY.out.keep hb)
  clear hb
  go_wp2_with fail
  refine (HAg.out _ HX.out.r HY.out.r).mono ?_
  rintro e w3 ⟨rfl, hb⟩
  replace HB := bel_tr HB hb
  replace HX := Lib.hid (HX.out.keep hb)
  replace HY := Lib.hid (HY.out.keep hb)
  clear hb
  go_wp2_with fail
  refine (HCl.out _ HX.out.r HX.out.z).mono ?_
  rintro e w4 ⟨v1, rfl, ho, hb⟩
  replace HB := bel_tr HB hb
  replace HX := Lib.hid (HX.out.keep hb)
  replace HY := Lib.hid (HY.out.keep hb)
  obtain ⟨a1, c1, rfl, hsl⟩ := on_sl ho
  have HU := Lib.hid hsl
  clear hsl ho hb
  go_wp2_with fail
  refine (HCm.out _ HY.out.r HY.out.z).mono ?_
  rintro e w5 ⟨v2, rfl, ho, hb⟩
  replace HB := bel_tr HB hb
  replace HX := Lib.hid (HX.out.keep hb)
  replace HY := Lib.hid (HY.out.keep hb)
  replace HU := Lib.hid (HU.out.keep hb)
  obtain ⟨a2, c2, rfl, hsl⟩ := on_sl ho
  have HV := Lib.hid hsl
  clear hsl ho hb
  have HZ := Lib.hid (Below.refl w5.heap.size w5)
  have HX5 := Lib.hid HX.out
  have HY5 := Lib.hid HY.out
  have HU5 := Lib.hid HU.out
  have HV5 := Lib.hid HV.out
  have HB5 := Lib.hid HB.out
  go_wp2_with fail
  refine (HJp.out _ _ _ _ _ HU.out HV.out).mono ?_
  rintro e w6 ⟨v6, rfl, ho, hb⟩
  replace HB := bel_tr HB hb
  replace HZ := bel_tr HZ hb
  replace HX := Lib.hid (HX.out.keep hb)
  replace HY := Lib.hid (HY.out.keep hb)
  replace HU := Lib.hid (HU.out.keep hb)
  replace HV := Lib.hid (HV.out.keep hb)
  obtain ⟨a6, c6, rfl, hsl⟩ := on_sl ho
  have HS := Lib.hid hsl
  have HO := Lib.hid ho
  clear hsl ho hb
  go_wp2_with fail
  refine (HAt.out _ _ _ HP.out.2.1 HX.out HY.out).mono ?_
  rintro e w7 ⟨rfl, hb⟩
  replace HB := bel_tr HB hb
  replace HZ := bel_tr HZ hb
  replace HX := Lib.hid (HX.out.keep hb)
  replace HY := Lib.hid (HY.out.keep hb)
  replace HU := Lib.hid (HU.out.keep hb)
  replace HV := Lib.hid (HV.out.keep hb)
  replace HS := Lib.hid (HS.out.keep hb)
  replace HO := Lib.hid (HO.out.below hb)
  clear hb
  go_wp2_with fail
  refine (HJr.out _ HX.out.r HX.out.z HY.out.r).mono ?_
  rintro e w8 ⟨v8, rfl, ho, hb⟩
  replace HB := bel_tr HB hb
  replace HZ := bel_tr HZ hb
  replace HX := Lib.hid (HX.out.keep hb)
  replace HY := Lib.hid (HY.out.keep hb)
  replace HU := Lib.hid (HU.out.keep hb)
  replace HV := Lib.hid (HV.out.keep hb)
  replace HS := Lib.hid (HS.out.keep hb)
  replace HO := Lib.hid (HO.out.below hb)
  obtain ⟨a8, c8, rfl, hsl⟩ := on_sl ho
  have HR := Lib.hid hsl
  clear hsl ho hb
  go_wp2_with fail
  refine (same_true _ _ _ _ _ _ HS.out HR.out (by have := HLj.out; omega)).mono ?_
  rintro e w9 ⟨rfl, hb⟩
  replace HB := bel_tr HB hb
  replace HZ := bel_tr HZ hb
  replace HX := Lib.hid (HX.out.keep hb)
  replace HY := Lib.hid (HY.out.keep hb)
  replace HU := Lib.hid (HU.out.keep hb)
  replace HV := Lib.hid (HV.out.keep hb)
  replace HS := Lib.hid (HS.out.keep hb)
  replace HO := Lib.hid (HO.out.below hb)
  clear hb HR
  go_wp2_with fail
  refine (HSt.out _ _ _ HO.out).mono ?_
  rintro e w10 ⟨rfl, hb⟩
  have HZ10 := Lib.hid (HZ.out.trans hb)
  replace HX := Lib.hid (HX5.out.keep HZ10.out)
  replace HY := Lib.hid (HY5.out.keep HZ10.out)
  replace HU := Lib.hid (HU5.out.keep HZ10.out)
  replace HV := Lib.hid (HV5.out.keep HZ10.out)
  replace HB := bel_tr HB5 HZ10.out
  clear hb HZ HX5 HY5 HU5 HV5 HS HO
  go_wp2_with fail
  refine (same_true l _ a _ c _ HU.out HX.out (by have := HLx.out; omega)).mono ?_
  rintro e w11 ⟨rfl, hb⟩
  replace HB := bel_tr HB hb
  replace HX := Lib.hid (HX.out.keep hb)
  replace HY := Lib.hid (HY.out.keep hb)
  replace HU := Lib.hid (HU.out.keep hb)
  replace HV := Lib.hid (HV.out.keep hb)
  clear hb
  go_wp2_with fail
  refine (same_true m _ b _ d _ HV.out HY.out (by have := HLy.out; omega)).mono ?_
  rintro e w12 ⟨rfl, hb⟩
  replace HB := bel_tr HB hb
  replace HX := Lib.hid (HX.out.keep hb)
  replace HY := Lib.hid (HY.out.keep hb)
  replace HU := Lib.hid (HU.out.keep hb)
  replace HV := Lib.hid (HV.out.keep hb)
  clear hb
  go_wp2_with fail
  refine (known_any _).mono ?_
  rintro e w99 ⟨rfl, hb⟩
  replace HB := bel_tr HB hb
  clear hb
  go_wp2_with fail
  go_ret
  exact ⟨rfl, HB.out⟩
set_option maxRecDepth 100000 in
set_option maxHeartbeats 8000000 in
theorem withins_law (l m : List Nt) (a b : Option Addr) (c d : Nat) (w : World) (hX : Sl w a l.length c l) (hY : Sl w b m.length d m) :
    Calls Try.prog 6 #[.slice a l.length c, .slice b m.length d] w fun e w' => e = .returned (.bool true) ∧ Below w.heap.size w w' := by
  have HB := Lib.hid (Below.refl w.heap.size w)
  by_cases hbig : 60 < l.length
  · have hg : (60 : Int) < (l.length : Int) := by omega
    clear hX hY hbig
    go_enter Try.func6, Try.ntmps6
    go_wp2_with fail
    refine (known_any _).mono ?_
    rintro e w99 ⟨rfl, hb⟩
    replace HB := bel_tr HB hb
    clear hb
    go_wp2_with fail
    go_ret
    exact ⟨rfl, HB.out⟩
  by_cases hbig2 : 60 < m.length
  · have hg : ¬ (60 : Int) < (l.length : Int) := by omega
    have hg2 : (60 : Int) < (m.length : Int) := by omega
    clear hX hY hbig hbig2
    go_enter Try.func6, Try.ntmps6
    go_wp2_with fail
    refine (known_any _).mono ?_
    rintro e w99 ⟨rfl, hb⟩
    replace HB := bel_tr HB hb
    clear hb
    go_wp2_with fail
    go_ret
    exact ⟨rfl, HB.out⟩
  have hl1 : l.length ≤ 60 := by omega
  have hl2 : m.length ≤ 60 := by omega
  have hg : ¬ (60 : Int) < (l.length : Int) := by omega
  have hg2 : ¬ (60 : Int) < (m.length : Int) := by omega
  have HX := Lib.hid hX
  have HY := Lib.hid hY
  have HLx := Lib.hid hl1
  have HLy := Lib.hid hl2
  clear hX hY hbig hbig2
  have HVl := Lib.hid (fun w h => store_ref l a c w h (by omega))
  have HVm := Lib.hid (fun w h => store_ref m b d w h (by omega))
  have HAg := Lib.hid (fun w h1 h2 => agree_ref l m a b c d w h1 h2 (by omega) (by omega))
  have HWt := Lib.hid (fun t q w h h1 h2 => within_true l m t q h a b c d w h1 h2 (by omega) (by omega))
  rcases hv1 : validS l with _ | _
  · have HP := Lib.hid (joinP_no1 (b := m) hv1)
    rw [hv1] at HVl
    clear hl1 hl2 hv1 HVm HAg
    go_enter Try.func6, Try.ntmps6
    go_wp2_with fail
    refine (HVl.out _ HX.out.r).mono ?_
    rintro e w1 ⟨rfl, hb⟩
    replace HB := bel_tr HB hb
    replace HX := Lib.hid (HX.out.keep hb)
    replace HY := Lib.hid (HY.out.keep hb)
    clear hb
    go_wp2_with fail
    refine (HWt.out _ _ _ HP.out.2.2 HX.out HY.out).mono ?_
    rintro e w2 ⟨rfl, hb⟩
    replace HB := bel_tr HB hb
    replace HX := Lib.hid (HX.out.keep hb)
    replace HY := Lib.hid (HY.out.keep hb)
    clear hb
    go_wp2_with fail
    refine (known_any _).mono ?_
    rintro e w99 ⟨rfl, hb⟩
    replace HB := bel_tr HB hb
    clear hb
    go_wp2_with fail
    go_ret
    exact ⟨rfl, HB.out⟩
  rcases hv2 : validS m with _ | _
  · have HP := Lib.hid (joinP_no2 (a := l) hv2)
    rw [hv1] at HVl
    rw [hv2] at HVm
    clear hl1 hl2 hv1 hv2 HAg
    go_enter Try.func6, Try.ntmps6
    go_wp2_with fail
    refine (HVl.out _ HX.out.r).mono ?_
    rintro e w1 ⟨rfl, hb⟩
    replace HB := bel_tr HB hb
    replace HX := Lib.hid (HX.out.keep hb)
    replace HY := Lib.hid (HY.out.keep hb)
    clear hb
    go_wp2_with fail
    refine (HVm.out _ HY.out.r).mono ?_
    rintro e w2 ⟨rfl, hb⟩
    replace HB := bel_tr HB hb
    replace HX := Lib.hid (HX.out.keep hb)
    replace HY := Lib.hid (HY.out.keep hb)
    clear hb
    go_wp2_with fail
    refine (HWt.out _ _ _ HP.out.2.2 HX.out HY.out).mono ?_
    rintro e w3 ⟨rfl, hb⟩
    replace HB := bel_tr HB hb
    replace HX := Lib.hid (HX.out.keep hb)
    replace HY := Lib.hid (HY.out.keep hb)
    clear hb
    go_wp2_with fail
    refine (known_any _).mono ?_
    rintro e w99 ⟨rfl, hb⟩
    replace HB := bel_tr HB hb
    clear hb
    go_wp2_with fail
    go_ret
    exact ⟨rfl, HB.out⟩
  rcases hag : agS l m with _ | _
  · have HP := Lib.hid (joinP_clash hv1 hv2 hag)
    rw [hv1] at HVl
    rw [hv2] at HVm
    rw [hag] at HAg
    clear hl1 hl2 hv1 hv2 hag
    go_enter Try.func6, Try.ntmps6
    go_wp2_with fail
    refine (HVl.out _ HX.out.r).mono ?_
    rintro e w1 ⟨rfl, hb⟩
    replace HB := bel_tr HB hb
    replace HX := Lib.hid (HX.out.keep hb)
    replace HY := Lib.hid (HY.out.keep hb)
    clear hb
    go_wp2_with fail
    refine (HVm.out _ HY.out.r).mono ?_
    rintro e w2 ⟨rfl, hb⟩
    replace HB := bel_tr HB hb
    replace HX := Lib.hid (HX.out.keep hb)
    replace HY := Lib.hid (HY.out.keep hb)
    clear hb
    go_wp2_with fail
    refine (HAg.out _ HX.out.r HY.out.r).mono ?_
    rintro e w3 ⟨rfl, hb⟩
    replace HB := bel_tr HB hb
    replace HX := Lib.hid (HX.out.keep hb)
    replace HY := Lib.hid (HY.out.keep hb)
    clear hb
    go_wp2_with fail
    refine (HWt.out _ _ _ HP.out.2.2 HX.out HY.out).mono ?_
    rintro e w4 ⟨rfl, hb⟩
    replace HB := bel_tr HB hb
    replace HX := Lib.hid (HX.out.keep hb)
    replace HY := Lib.hid (HY.out.keep hb)
    clear hb
    go_wp2_with fail
    refine (known_any _).mono ?_
    rintro e w99 ⟨rfl, hb⟩
    replace HB := bel_tr HB hb
    clear hb
    go_wp2_with fail
    go_ret
    exact ⟨rfl, HB.out⟩
  have HP := Lib.hid (joinP_yes hv1 hv2 hag)
  have HJr := Lib.hid (fun w h1 h2 h3 => join_ref l m a b c d w h1 h2 h3 (by omega) (by omega))
  rw [joinR_eq hv1 hv2 hag] at HJr
  have HLj : Hid ((joinL l m).length ≤ 120) := by have := joinL_len l m; show _ ≤ _; omega
  have HSr := Lib.hid (fun a2 c2 w h1 h2 => same_ref (joinL l m) m a2 b c2 d w h1 h2 (by have := HLj.out; omega) (by omega))
  rw [hv1] at HVl
  rw [hv2] at HVm
  rw [hag] at HAg
  clear hl1 hl2 hv1 hv2 hag
  obtain ⟨q, hq⟩ : ∃ q, q = decide (joinL l m = m) := ⟨_, rfl⟩
  rw [← hq] at HSr HP
  clear hq
  generalize joinL l m = T at *
  go_enter Try.func6, Try.ntmps6
  go_wp2_with fail
  refine (HVl.out _ HX.out.r).mono ?_
  rintro e w1 ⟨rfl, hb⟩
  replace HB := bel_tr HB hb
  replace HX := Lib.hid (HX.out.keep hb)
  replace HY := Lib.hid (HY.out.keep hb)
  clear hb
  go_wp2_with fail
  refine (HVm.out _ HY.out.r).mono ?_
  rintro e w2 ⟨rfl, hb⟩
  replace HB := bel_tr HB hb
  replace HX := Lib.hid (HX.out.keep hb)
  replace HY := Lib.hid (HY.out.keep hb)
  clear hb
  go_wp2_with fail
  refine (HAg.out _ HX.out.r HY.out.r).mono ?_
  rintro e w3 ⟨rfl, hb⟩
  replace HB := bel_tr HB hb
  replace HX := Lib.hid (HX.out.keep hb)
  replace HY := Lib.hid (HY.out.keep hb)
  clear hb
  go_wp2_with fail
  refine (HJr.out _ HX.out.r HX.out.z HY.out.r).mono ?_
  rintro e w4 ⟨v4, rfl, ho, hb⟩
  replace HB := bel_tr HB hb
  replace HX := Lib.hid (HX.out.keep hb)
  replace HY := Lib.hid (HY.out.keep hb)
  obtain ⟨a4, c4, rfl, hsl⟩ := on_sl ho
  have HR := Lib.hid hsl
  clear hsl ho hb
  go_wp2_with fail
  refine (HSr.out _ _ _ HR.out.r HY.out.r).mono ?_
  rintro e w5 ⟨rfl, hb⟩
  replace HB := bel_tr HB hb
  replace HX := Lib.hid (HX.out.keep hb)
  replace HY := Lib.hid (HY.out.keep hb)
  clear hb HR
  go_wp2_with fail
  refine (HWt.out _ _ _ HP.out.2.2 HX.out HY.out).mono ?_
  rintro e w6 ⟨rfl, hb⟩
  replace HB := bel_tr HB hb
  replace HX := Lib.hid (HX.out.keep hb)
  replace HY := Lib.hid (HY.out.keep hb)
  clear hb
  go_wp2_with fail
  refine (known_any _).mono ?_
  rintro e w99 ⟨rfl, hb⟩
  replace HB := bel_tr HB hb
  clear hb
  go_wp2_with fail
  go_ret
  exact ⟨rfl, HB.out⟩
end Go.Proofs.Ytmdebedkljpagaa.Jn
