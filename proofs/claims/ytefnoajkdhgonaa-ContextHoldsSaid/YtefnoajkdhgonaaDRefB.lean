/-
  IsSet: the reference's and the program's.
-/
import Derived.Test.YtefnoajkdhgonaaDRefA
import Derived.Shelf.SlSortCmp.QuietGrown
namespace Go.Proofs.Ytefnoajkdhgonaa.D
set_option linter.unusedVariables false
open Go.RowKit V Go.Sort

theorem mixed : Try.prog.follows .mixedOrders = true := by kernel_rfl
theorem ix_dot (b o n c k : Nat) (z : Int) (hz : z = (k : Int)) (hk : k < n) : ∀ w, (Instr.indexAt 22 (.slice (some ⟨b, o, none⟩) n c) (.int .i64 z)).run Try.prog w = .ok (.pointer (some ⟨b, o + k * 2, none⟩)) w := by
  intro w
  subst hz
  have hk2 : (k : Int) < (n : Int) := by omega
  go_simp
theorem wrap_nat {k : Nat} (h : (k : Int) ≤ 140737488355328) : IntKind.i64.wrap (k : Int) = k := by simp [IntKind.wrap, IntKind.bits, IntKind.signed]; omega
/-- A cell, in every world that lays and draws. -/
theorem cellG {w : World} {a : Addr} {v : Value} (h : w.cell? a = some v) : ∀ n os, (grow (w.drewN n) os).cell? a = some v := fun n os => cell_grown (lt_of_cell h) h n os
theorem lessG (x y : Dt) (W : World) (n : Nat) (os : Array Obj) : Calls Try.prog 73 #[dv x, dv y] (grow (W.drewN n) os) fun e w'' => e = .returned (.bool (less x y)) ∧ ∃ p : GrownBy, w'' = grow (W.drewN p.n) p.os :=
  Calls.grown_of (less_ref x y _)
theorem cmpG (x y : Dt) (W : World) (n : Nat) (os : Array Obj) : Calls Try.prog 71 #[dv x, dv y] (grow (W.drewN n) os) fun e w'' => e = .returned (.int .i64 (cmpR x y)) ∧ ∃ p : GrownBy, w'' = grow (W.drewN p.n) p.os :=
  Calls.grown_of (compare_any x y _)
theorem bel_grown {B : Nat} {w w' : World} (h : Below B w w') (hB : B ≤ w'.heap.size) (n : Nat) (os : Array Obj) : Below B w (grow (w'.drewN n) os) := bel_grow (bel_drewN h n) hB os

set_option maxRecDepth 100000 in
set_option maxHeartbeats 1000000 in
theorem isSet_ref (l : List Dt) (a : Option Addr) (c : Nat) (w : World) (hx : RowD w a l) (hlx : l.length ≤ 140737488355328) :
    Calls Try.prog 47 #[.slice a l.length c] w fun e w' => e = .returned (.bool (isSetR l)) ∧ Below w.heap.size w w' := by
  have HX := Lib.hid hx
  have hli : (l.length : Int) ≤ 140737488355328 := by omega
  clear hx hlx
  go_enter Try.func47, Try.ntmps47
  go_wp2_with fail
  go_loopw [3] (fun i wr => ∃ k : Nat, (k + 1 ≤ l.length ∨ k = 0) ∧ i = .int .i64 ((k : Int) + 1) ∧ Hid (Below w.heap.size w wr) ∧ Hid (∀ j (hj : j + 1 < l.length), j < k → less l[j] l[j + 1] = true)) (fun i _ => l.length - (intOf i).toNat)
  case atStart => exact ⟨0, .inr rfl, rfl, Below.refl _ _, fun j _ h => by omega⟩
  case round =>
    obtain ⟨k, hk, rfl, hh, HV⟩ := hrel
    by_cases hlt : k + 1 < l.length
    · have hlt0 : k < l.length := by omega
      have hi1 : (k : Int) < (l.length : Int) := by omega
      have hi2 : (k : Int) + 1 < (l.length : Int) := by omega
      obtain ⟨b1, o1, rfl, p0, p1⟩ := HX.out.get hh.out k hlt0
      obtain ⟨b2, o2, e2, q0, q1⟩ := HX.out.get hh.out (k + 1) hlt
      cases e2
      obtain ⟨p, hp⟩ : ∃ p, p = l[k] := ⟨_, rfl⟩
      obtain ⟨q, hq⟩ : ∃ q, q = l[k + 1] := ⟨_, rfl⟩
      rw [← hp] at p0 p1
      rw [← hq] at q0 q1
      have HP := Lib.hid hp
      have HQ := Lib.hid hq
      clear hp hq
      replace p0 := cellG p0
      replace p1 := cellG p1
      replace q0 := cellG q0
      replace q1 := cellG q1
      have HL := Lib.hid (lessG p q wr)
      have HLn : Hid (less p q = less p q) := rfl
      generalize hb : less p q = b at HL
      clear HLn
      have HBB := Lib.hid hb
      clear hb
      have hwr := wrap_nat (show (k : Int) ≤ 140737488355328 by omega)
      have hix := ix_dot b1 o1 l.length c (k + 1) ((k : Int) + 1) (by omega) hlt
      have mixed := mixed
      go_wp2_with fail
      go_quiet_grown ((go_at_call 73; exact HL.out _ _))
      cases b
      · go_wp2_with fail
        go_ret
        have HN : Hid (isSetR l = false) := isSet_not k hlt (by rw [← HP.out, ← HQ.out]; exact HBB.out)
        exact ⟨by rw [HN.out]; rfl, bel_grown hh.out hh.out.size _ _⟩
      · go_wp2_with fail
        go_roundw
        case rel =>
          refine ⟨k + 1, .inl (by omega), by go_num, bel_grown hh.out hh.out.size _ _, fun j hj hjk => ?_⟩
          by_cases hjk2 : j = k
          · subst hjk2; rw [← HP.out, ← HQ.out]; exact HBB.out
          · exact HV.out j hj (by omega)
        case measure => simp [intOf]; omega
    · have HN : Hid (isSetR l = true) := isSet_at l fun j hj => HV.out j hj (by omega)
      have hend : ¬ (k : Int) + 1 < (l.length : Int) := by omega
      go_wp2_with fail
      go_ret
      exact ⟨by rw [HN.out]; rfl, hh.out⟩

theorem cmp_neg_lt {p q : Dt} (h : less p q = true) : ¬ (0 : Int) ≤ cmpR p q := by have := cmp_neg.2 h; omega
theorem cmp_neg_ge {p q : Dt} (h : less p q = false) : (0 : Int) ≤ cmpR p q := by
  rcases Int.lt_or_le (cmpR p q) 0 with k | k
  · rw [cmp_neg, h] at k; cases k
  · exact k
set_option maxRecDepth 100000 in
set_option maxHeartbeats 1000000 in
theorem isSet_any (l : List Dt) (a : Option Addr) (c : Nat) (w : World) (hx : RowD w a l) (hlx : l.length ≤ 140737488355328) :
    Calls Try.prog 43 #[.slice a l.length c] w fun e w' => e = .returned (.bool (isSetR l)) ∧ Below w.heap.size w w' := by
  have HX := Lib.hid hx
  have hli : (l.length : Int) ≤ 140737488355328 := by omega
  clear hx hlx
  go_enter Try.func43, Try.ntmps43
  go_wp2_with fail
  go_loopw [6] (fun i wr => ∃ k : Nat, k ≤ l.length ∧ i = .int .i64 (k : Int) ∧ Hid (Below w.heap.size w wr) ∧ Hid (∀ j (hj : j + 1 < l.length), j + 1 < k → less l[j] l[j + 1] = true)) (fun i _ => l.length - (intOf i).toNat)
  case atStart => exact ⟨0, Nat.zero_le _, rfl, Below.refl _ _, fun j _ h => by omega⟩
  case round =>
    obtain ⟨k, hk, rfl, hh, HV⟩ := hrel
    by_cases hlt : k < l.length
    · have mixed := mixed
      rcases k with _ | k
      · have hi0 : (0 : Int) < (l.length : Int) := by omega
        have hg : decide ((0 : Int) < 0) = false := rfl
        go_wp2_with fail
        refine wp_region_quiet_grown mixed (by kernel_rfl) ?_
        repeat (first | go_big_quiet_skip | (go_big_quiet_want; go_big_quiet_op; first | go_big_quiet_on | go_big_quiet_call (fail)))
        refine wpQuiet_nil ?_
        intro _ hw'
        obtain ⟨⟨nq, osq⟩, hw''⟩ := hw'
        subst hw''
        go_wp2_with fail
        go_roundw
        case rel => exact ⟨1, by omega, by go_num, bel_grown hh.out hh.out.size _ _, fun j hj hjk => by omega⟩
        case measure => simp [intOf]; omega
      · have hlt0 : k < l.length := by omega
        have hi1 : (k : Int) < (l.length : Int) := by omega
        have hi2 : (k : Int) + 1 < (l.length : Int) := by omega
        have hi3 : (0 : Int) < (k : Int) + 1 := by omega
        have hg : decide ((0 : Int) < (k : Int) + 1) = true := by rw [decide_eq_true_eq]; exact hi3
        obtain ⟨b1, o1, rfl, p0, p1⟩ := HX.out.get hh.out k hlt0
        obtain ⟨b2, o2, e2, q0, q1⟩ := HX.out.get hh.out (k + 1) hlt
        cases e2
        obtain ⟨p, hp⟩ : ∃ p, p = l[k] := ⟨_, rfl⟩
        obtain ⟨q, hq⟩ : ∃ q, q = l[k + 1] := ⟨_, rfl⟩
        rw [← hp] at p0 p1
        rw [← hq] at q0 q1
        have HP := Lib.hid hp
        have HQ := Lib.hid hq
        clear hp hq
        replace p0 := cellG p0
        replace p1 := cellG p1
        replace q0 := cellG q0
        replace q1 := cellG q1
        have HL := Lib.hid (cmpG p q wr)
        have hwr := wrap_nat (show (k : Int) ≤ 140737488355328 by omega)
        have hix := ix_dot b1 o1 l.length c (k + 1) ((k : Int) + 1) (by omega) hlt
        rcases hb : less p q with _ | _
        · have hc := cmp_neg_ge hb
          have HN : Hid (isSetR l = false) := isSet_not k hlt (by rw [← HP.out, ← HQ.out]; exact hb)
          clear hb
          generalize cmpR p q = z at *
          go_wp2_with fail
          refine wp_region_quiet_grown mixed (by kernel_rfl) ?_
          repeat (first | go_big_quiet_skip | (go_big_quiet_want; go_big_quiet_op; first | go_big_quiet_on | go_big_quiet_call ((go_at_call 71; exact HL.out _ _))))
          refine wpQuiet_nil ?_
          intro _ hw'
          obtain ⟨⟨nq, osq⟩, hw''⟩ := hw'
          subst hw''
          go_wp2_with fail
          go_ret
          exact ⟨by rw [HN.out]; rfl, bel_grown hh.out hh.out.size _ _⟩
        · have hc := cmp_neg_lt hb
          have HBB := Lib.hid hb
          clear hb
          have hc2 : decide ((0 : Int) ≤ cmpR p q) = false := by simpa using hc
          generalize cmpR p q = z at *
          go_wp2_with fail
          refine wp_region_quiet_grown mixed (by kernel_rfl) ?_
          repeat (first | go_big_quiet_skip | (go_big_quiet_want; go_big_quiet_op; first | go_big_quiet_on | go_big_quiet_call ((go_at_call 71; exact HL.out _ _))))
          refine wpQuiet_nil ?_
          intro _ hw'
          obtain ⟨⟨nq, osq⟩, hw''⟩ := hw'
          subst hw''
          go_wp2_with fail
          go_roundw
          case rel =>
            refine ⟨k + 2, by omega, by go_num, bel_grown hh.out hh.out.size _ _, fun j hj hjk => ?_⟩
            by_cases hjk2 : j = k
            · subst hjk2; rw [← HP.out, ← HQ.out]; exact HBB.out
            · exact HV.out j hj (by omega)
          case measure => simp [intOf]; omega
    · have HN : Hid (isSetR l = true) := isSet_at l fun j hj => HV.out j hj (by omega)
      have hend : ¬ (k : Int) < (l.length : Int) := by omega
      go_wp2_with fail
      go_ret
      exact ⟨by rw [HN.out]; rfl, hh.out⟩
end Go.Proofs.Ytefnoajkdhgonaa.D
