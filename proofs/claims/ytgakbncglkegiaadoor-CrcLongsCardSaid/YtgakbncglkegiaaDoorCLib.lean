/-
  The program's Append; the library's Equal and Clone at bytes.
-/
import Derived.Test.YtgakbncglkegiaaDoorCSumOf
import Derived.Test.YtgakbncglkegiaaDoorCConcat
import Derived.Lib.SliceRun
namespace Go.Proofs.YtgakbncglkegiaaDoor.C
set_option linter.unusedVariables false
open Go.RowKit V

theorem nil8 : ∀ (w : World) (a : Option Addr) (n c n' c' : Nat), (binOp .eql 23 (.slice a n c) (.slice none n' c')).run Tryd.prog w = .ok (.bool a.isNone) w := fun w a n c n' c' => Lib.run_eql_slice_nil w _ _ a n c n' c' Tryd.underlying23
theorem bel_drewN {B : Nat} {a w : World} (h : Below B a w) (n : Nat) : Below B a (w.drewN n) := h.trans ⟨rfl, rfl, rfl, Nat.le_refl _, fun _ _ => rfl⟩

set_option maxRecDepth 100000 in
set_option maxHeartbeats 1000000 in
theorem append_any (l : List UInt8) (a : Option Addr) (c : Nat) (w : World) (hL : Ld w) (hrow : Row8 w a l) (hnil : a = none → c = 0) (hlen : l.length ≤ 35184372088832) :
    Calls Tryd.prog 13 #[.slice a l.length c] w fun e w' => ∃ v, e = .returned v ∧ O8 w' w.heap.size v (app l) ∧ Below w.heap.size w w' := by
  have HC := Lib.hid (sumOf_any l a c w hL hrow (by omega))
  have HR := Lib.hid hrow
  have HN := Lib.hid hnil
  have HL := Lib.hid hlen
  have HA : Hid (l ++ be (sum l) = app l) := rfl
  have HF := Lib.hid (be_length (sum l))
  clear hL hrow hnil hlen
  generalize be (sum l) = m at *
  generalize app l = A at *
  go_enter Tryd.func13, Tryd.ntmps13
  go_wp2_with fail
  refine HC.out.mono ?_
  rintro e w1 ⟨v, rfl, ho, hb⟩
  obtain ⟨b, d, rfl, hrm, hnm, -⟩ := ho.row
  have HB := Lib.hid hb
  have HM := Lib.hid hrm
  have HNm := Lib.hid (fun h : b = none => (hnm h).1)
  clear ho hb hrm hnm HC
  go_wp2_with fail
  have hT : Two (w1.alloc (.cells #[.slice a l.length c, .slice b m.length d] 23)) w1.heap.size (.slice a l.length c) (.slice b m.length d) := ⟨by rw [World.cell?_alloc_new]; rfl, by rw [World.cell?_alloc_new]; rfl⟩
  have hA1 : Below w1.heap.size w1 (w1.alloc (.cells #[.slice a l.length c, .slice b m.length d] 23)) := (Below.refl _ _).alloc (Nat.le_refl _) _
  have hB1 : Below w.heap.size w (w1.alloc (.cells #[.slice a l.length c, .slice b m.length d] 23)) := HB.out.trans (hA1.mono HB.out.size)
  have hC := concat_any l m a b c d w1.heap.size _ hT ((HR.out.keep HB.out).keep hA1) (HM.out.keep hA1) HN.out HNm.out HL.out (by rw [HF.out]; omega)
  refine hC.mono ?_
  rintro e w2 ⟨v, rfl, ho, hb⟩
  have HO : Hid (O8 w2 w.heap.size v A) := by
    show O8 _ _ _ _
    rw [← HA.out]
    exact ho.mono fun k hk => Nat.le_trans hB1.size (ho.lt k hk).1
  have HB2 := Lib.hid (hB1.trans (hb.mono hB1.size))
  clear hT hA1 hB1 hC ho hb
  go_wp2_with fail
  go_ret
  exact ⟨v, rfl, HO.out, HB2.out⟩

set_option maxRecDepth 100000 in
set_option maxHeartbeats 1000000 in
theorem equal_any (xs ys : List UInt8) (a b : Option Addr) (c d : Nat) (w : World) (hlx : xs.length ≤ 140737488355328) (hly : ys.length ≤ 140737488355328) (hx : Row8 w a xs) (hy : Row8 w b ys) :
    Calls Tryd.prog 30 #[.slice a xs.length c, .slice b ys.length d] w fun e w' => e = .returned (.bool (decide (xs = ys))) ∧ Below w.heap.size w w' := by
  have HX := Lib.hid hx
  have HY := Lib.hid hy
  have HLx := Lib.hid hlx
  have hli : (xs.length : Int) ≤ 140737488355328 := by omega
  clear hx hy hlx hly
  by_cases hl : xs.length = ys.length
  · have q0 : ((xs.length : Int) != (ys.length : Int)) = false := by rw [bne_eq_false_iff_eq]; omega
    go_enter Tryd.func30, Tryd.ntmps30
    go_wp2_with fail
    go_loopw [5, 13] (fun _ i wr => ∃ k : Nat, k ≤ xs.length ∧ i = .int .i64 k ∧ Hid (Below w.heap.size w wr) ∧ Hid (∀ j (hj : j < xs.length) (hj2 : j < ys.length), j < k → xs[j] = ys[j])) (fun _ i _ => xs.length - (intOf i).toNat)
    case atStart => exact ⟨0, Nat.zero_le _, rfl, Below.refl _ _, fun j _ _ h => by omega⟩
    case round =>
      obtain ⟨k, hk, rfl, hh, HV⟩ := hrel
      by_cases hlt : k < xs.length
      · rcases HX.out with he | ⟨b1, o1, rfl, hc⟩
        · rw [he] at hlt; simp at hlt
        rcases HY.out with he | ⟨b2, o2, rfl, hd⟩
        · rw [hl, he] at hlt; simp at hlt
        obtain ⟨p, hp⟩ : ∃ p, p = xs[k] := ⟨_, rfl⟩
        obtain ⟨q, hq⟩ : ∃ q, q = ys[k]'(by omega) := ⟨_, rfl⟩
        have hcell0 := hc k hlt
        have hdell0 := hd k (by omega)
        rw [← hp] at hcell0
        rw [← hq] at hdell0
        have hcell : wr.cell? ⟨b1, o1 + k, none⟩ = some (.int .u8 (p.toNat : Int)) := by rw [hh.out.cell (p := ⟨b1, o1 + k, none⟩) (lt_of_cell hcell0)]; exact hcell0
        have hdell : wr.cell? ⟨b2, o2 + k, none⟩ = some (.int .u8 (q.toNat : Int)) := by rw [hh.out.cell (p := ⟨b2, o2 + k, none⟩) (lt_of_cell hdell0)]; exact hdell0
        have HP := Lib.hid hp
        have HQ := Lib.hid hq
        clear hc hd hp hq hcell0 hdell0
        have hlt2 : k < ys.length := by omega
        by_cases hpq : p = q
        · subst hpq
          go_wp2_with fail
          go_quiet (fail)
          go_wp2_with fail
          go_roundw
          case rel =>
            refine ⟨k + 1, by omega, by go_num, bel_drewN hh.out _, fun j hj hj2 hjk => ?_⟩
            by_cases hjk2 : j = k
            · subst hjk2; rw [← HP.out, ← HQ.out]
            · exact HV.out j hj hj2 (by omega)
          case measure => simp [intOf]; omega
        · have hpq' : ((p.toNat : Int) != (q.toNat : Int)) = true := by rw [bne_iff_ne]; intro e; exact hpq (UInt8.toNat_inj.1 (by omega))
          have HN : Hid (decide (xs = ys) = false) := by
            show _ = _
            rw [decide_eq_false_iff_not]
            rintro rfl
            exact hpq (by rw [HP.out, HQ.out])
          clear hpq
          go_wp2_with fail
          go_quiet (fail)
          go_wp2_with fail
          go_ret
          exact ⟨by rw [HN.out]; rfl, bel_drewN hh.out _⟩
      · obtain rfl : k = xs.length := by omega
        have HN : Hid (decide (xs = ys) = true) := by
          show _ = _
          rw [decide_eq_true_eq]
          exact List.ext_getElem hl fun j hj hj2 => HV.out j hj hj2 hj
        have hend : ¬ (xs.length : Int) < (xs.length : Int) := by omega
        go_wp2_with fail
        go_ret
        exact ⟨by rw [HN.out]; rfl, hh.out⟩
  · have q0 : ((xs.length : Int) != (ys.length : Int)) = true := by rw [bne_iff_ne]; omega
    have HN : Hid (decide (xs = ys) = false) := by
      show _ = _
      rw [decide_eq_false_iff_not]
      rintro rfl
      exact hl rfl
    go_enter Tryd.func30, Tryd.ntmps30
    go_wp2_with fail
    go_ret
    exact ⟨by rw [HN.out]; rfl, Below.refl _ _⟩

set_option maxRecDepth 100000 in
set_option maxHeartbeats 1000000 in
theorem clone_any (l : List UInt8) (a : Option Addr) (c : Nat) (w : World) (hrow : Row8 w a l) (hnil : a = none → c = 0) (hlen : l.length ≤ 35184372088832) :
    Calls Tryd.prog 31 #[.slice a l.length c] w fun e w' => ∃ v, e = .returned v ∧ O8 w' w.heap.size v l ∧ Below w.heap.size w w' := by
  have HR := Lib.hid hrow
  have HL := Lib.hid hlen
  rcases a with _ | ad
  · have hl : l = [] := by
      rcases hrow with h | ⟨_, _, e, _⟩
      · exact h
      · cases e
    subst hl
    clear hrow hlen hnil
    have q := nil8
    go_enter Tryd.func31, Tryd.ntmps31
    go_wp2_with fail
    go_ret
    exact ⟨_, rfl, O8.nil _ _, Below.refl _ _⟩
  · clear hrow hlen
    have q := nil8
    have HN := Lib.hid hnil
    clear hnil
    have HO : Hid (O8 (w.alloc (.cells #[] 5)) w.heap.size (.slice (some ⟨w.heap.size, 0, none⟩) 0 0) []) := World.ownsRow_made (base := w.heap.size) (size := 1) (e := 5) w #[] 0 (Nat.le_refl _) (Nat.zero_le _) rfl
    have HB : Hid (Below w.heap.size w (w.alloc (.cells #[] 5))) := (Below.refl _ _).alloc (Nat.le_refl _) _
    go_enter Tryd.func31, Tryd.ntmps31
    go_wp2_with (at_builtin; refine wpList_app8 rfl _ _ rfl w.heap.size _ _ rfl HO.out (some ad) l c rfl (HR.out.keep HB.out) HN.out (by have := HL.out; simp; omega) HB.out.size ?_)
    intro v' w' ho hg _
    have HO2 : Hid (O8 w' w.heap.size v' l) := ho
    have HB2 := Lib.hid (HB.out.grown hg HB.out.size (fun k hk => (HO.out.lt k hk).1))
    clear ho hg
    go_wp2_with fail
    go_ret
    exact ⟨_, rfl, HO2.out, HB2.out⟩
end Go.Proofs.YtgakbncglkegiaaDoor.C
