/-
  Which vector has all dots of which: the program's and the reference's within and Order.
-/
import Derived.Test.YtefnoajkdhgonaaEHas
namespace Go.Proofs.Ytefnoajkdhgonaa.E
set_option linter.unusedVariables false
open Go.RowKit V Go.Sort D

theorem within_no {a b : List Dt} {k : Nat} (hk : k < a.length) (h : hasV b a[k] = false) : withinV a b = false := by
  unfold withinV
  rw [List.all_eq_false]
  exact ⟨a[k], List.getElem_mem hk, by rw [h]; simp⟩
theorem within_yes {a b : List Dt} (h : ∀ j (hj : j < a.length), hasV b a[j] = true) : withinV a b = true := by
  unfold withinV
  rw [List.all_eq_true]
  intro x hx
  obtain ⟨j, hj, rfl⟩ := List.mem_iff_getElem.1 hx
  exact h j hj

set_option maxRecDepth 100000 in
set_option maxHeartbeats 1000000 in
theorem within_ref (xs ys : List Dt) (a b : Option Addr) (c d : Nat) (w : World) (hx : RowD w a xs) (hy : RowD w b ys) (hlx : xs.length ≤ 140737488355328) (hly : ys.length ≤ 140737488355328) :
    Calls Try.prog 67 #[.slice a xs.length c, .slice b ys.length d] w fun e w' => e = .returned (.bool (withinV xs ys)) ∧ Lays w w' := by
  have HX := Lib.hid hx
  have HY := Lib.hid hy
  have HH := Lib.hid (fun x wx (h : RowD wx b ys) => has_ref ys x b d wx h hly)
  have hli : (xs.length : Int) ≤ 140737488355328 := by omega
  clear hx hlx hy hly
  go_enter Try.func67, Try.ntmps67
  go_wp2_with fail
  go_loopw [5] (fun i wr => ∃ k : Nat, k ≤ xs.length ∧ i = .int .i64 (k : Int) ∧ Hid (Lays w wr) ∧ Hid (∀ j (hj : j < xs.length), j < k → hasV ys xs[j] = true)) (fun i _ => xs.length - (intOf i).toNat)
  case atStart => exact ⟨0, Nat.zero_le _, rfl, lays_refl _, fun j _ h => by omega⟩
  case round =>
    obtain ⟨k, hk, rfl, hh, HV⟩ := hrel
    by_cases hlt : k < xs.length
    · have hi0 : (k : Int) < (xs.length : Int) := by omega
      obtain ⟨b2, o2, rfl, q0, q1⟩ := HX.out.get hh.out.bel k hlt
      obtain ⟨q, hq⟩ : ∃ q, q = xs[k] := ⟨_, rfl⟩
      rw [← hq] at q0 q1
      have HQ := Lib.hid hq
      have HN : Hid (hasV ys q = hasV ys xs[k]) := by show _ = _; rw [hq]
      have HC := Lib.hid (HH.out q wr (HY.out.keep hh.out.bel))
      clear hq
      go_wp2_with fail
      refine HC.out.mono ?_
      rintro e w2 ⟨rfl, hl⟩
      have HL : Hid (Lays w w2) := lays_tr hh.out hl
      clear hl HC
      rcases hb : hasV ys q with _ | _
      · have HN2 : Hid (withinV xs ys = false) := within_no hlt (by rw [← HN.out]; exact hb)
        go_wp2_with fail
        go_ret
        exact ⟨by rw [HN2.out]; rfl, HL.out⟩
      · have HB := Lib.hid hb
        clear hb
        go_wp2_with fail
        go_roundw
        case rel =>
          refine ⟨k + 1, by omega, by go_num, HL, fun j hj hjk => ?_⟩
          by_cases e : j = k
          · subst e; rw [← HN.out]; exact HB.out
          · exact HV.out j hj (by omega)
        case measure => simp [intOf]; omega
    · have HN : Hid (withinV xs ys = true) := within_yes fun j hj => HV.out j hj (by omega)
      have hend : ¬ (k : Int) < (xs.length : Int) := by omega
      go_wp2_with fail
      go_ret
      exact ⟨by rw [HN.out]; rfl, hh.out⟩

set_option maxRecDepth 100000 in
set_option maxHeartbeats 1000000 in
theorem within_any (xs ys : List Dt) (a b : Option Addr) (c d : Nat) (w : World) (hx : RowD w a xs) (hy : RowD w b ys) (hlx : xs.length ≤ 140737488355328) (hly : ys.length ≤ 140737488355328) :
    Calls Try.prog 83 #[.slice a xs.length c, .slice b ys.length d] w fun e w' => e = .returned (.bool (withinV xs ys)) ∧ Lays w w' := by
  have HX := Lib.hid hx
  have HY := Lib.hid hy
  have HH := Lib.hid (fun x wx (h : RowD wx b ys) => has_any ys x b d wx h hly)
  have hli : (xs.length : Int) ≤ 140737488355328 := by omega
  clear hx hlx hy hly
  go_enter Try.func83, Try.ntmps83
  go_wp2_with fail
  go_loopw [9, 6] (fun i _ wr => ∃ k : Nat, k ≤ xs.length ∧ i = .int .i64 (k : Int) ∧ Hid (Lays w wr) ∧ Hid (∀ j (hj : j < xs.length), j < k → hasV ys xs[j] = true)) (fun i _ _ => xs.length - (intOf i).toNat)
  case atStart => exact ⟨0, Nat.zero_le _, rfl, lays_refl _, fun j _ h => by omega⟩
  case round =>
    obtain ⟨k, hk, rfl, hh, HV⟩ := hrel
    by_cases hlt : k < xs.length
    · have hi0 : (k : Int) < (xs.length : Int) := by omega
      obtain ⟨b2, o2, rfl, q0, q1⟩ := HX.out.get hh.out.bel k hlt
      obtain ⟨q, hq⟩ : ∃ q, q = xs[k] := ⟨_, rfl⟩
      rw [← hq] at q0 q1
      have HQ := Lib.hid hq
      have HN : Hid (hasV ys q = hasV ys xs[k]) := by show _ = _; rw [hq]
      have hLa : Lays w (wr.alloc (Obj.cells #[Value.int IntKind.i64 q.1, Value.int IntKind.i64 q.2] 38)) := lays_tr hh.out (lays_alloc _ _)
      have HC := Lib.hid (HH.out q _ (HY.out.keep hLa.bel))
      have HLa := Lib.hid hLa
      clear hq hLa
      go_wp2_with fail
      refine HC.out.mono ?_
      rintro e w2 ⟨rfl, hl⟩
      have HL : Hid (Lays w w2) := lays_tr HLa.out hl
      clear hl HC
      rcases hb : hasV ys q with _ | _
      · have HN2 : Hid (withinV xs ys = false) := within_no hlt (by rw [← HN.out]; exact hb)
        go_wp2_with fail
        go_ret
        exact ⟨by rw [HN2.out]; rfl, HL.out⟩
      · have HB := Lib.hid hb
        clear hb
        go_wp2_with fail
        go_roundw
        case rel =>
          refine ⟨k + 1, by omega, by go_num, HL, fun j hj hjk => ?_⟩
          by_cases e : j = k
          · subst e; rw [← HN.out]; exact HB.out
          · exact HV.out j hj (by omega)
        case measure => simp [intOf]; omega
    · have HN : Hid (withinV xs ys = true) := within_yes fun j hj => HV.out j hj (by omega)
      have hend : ¬ (k : Int) < (xs.length : Int) := by omega
      go_wp2_with fail
      go_ret
      exact ⟨by rw [HN.out]; rfl, hh.out⟩

/-- What Order says: a number, or an error. -/
def ordR (xs ys : List Dt) : Int × Int := if validV xs = true ∧ validV ys = true then (orderR xs ys, 0) else (0, 2)
set_option maxRecDepth 100000 in
set_option maxHeartbeats 1000000 in
theorem order_any (xs ys : List Dt) (a b : Option Addr) (c d : Nat) (w : World) (hx : RowD w a xs) (hy : RowD w b ys) (hlx : xs.length ≤ 140737488355328) (hly : ys.length ≤ 140737488355328) :
    Calls Try.prog 68 #[.slice a xs.length c, .slice b ys.length d] w fun e w' => e = .returned (.tuple #[.int .i64 (ordR xs ys).1, .int .i64 (ordR xs ys).2]) ∧ Lays w w' := by
  have HV := Lib.hid (validV_any xs a c w hx hlx)
  have HV2 := Lib.hid (fun w2 (h : Lays w w2) => validV_any ys b d w2 (hy.keep h.bel) hly)
  have HC := Lib.hid (fun w2 (h : Lays w w2) => within_any xs ys a b c d w2 (hx.keep h.bel) (hy.keep h.bel) hlx hly)
  have HD := Lib.hid (fun w2 (h : Lays w w2) => within_any ys xs b a d c w2 (hy.keep h.bel) (hx.keep h.bel) hly hlx)
  have HE : Hid (ordR xs ys = if validV xs = true ∧ validV ys = true then ((if withinV xs ys = true then (if withinV ys xs = true then 0 else -1) else if withinV ys xs = true then 1 else 2), 0) else (0, 2)) := rfl
  clear hx hy hlx hly
  generalize ordR xs ys = R at *
  generalize withinV xs ys = p at *
  generalize withinV ys xs = q at *
  generalize validV xs = va at *
  generalize validV ys = vb at *
  go_enter Try.func68, Try.ntmps68
  go_wp2_with fail
  refine HV.out.mono ?_
  rintro e w2 ⟨rfl, hl⟩
  have HL := Lib.hid hl
  clear hl HV
  rcases va with _ | _
  · have hE := HE.out
    simp at hE
    subst hE
    clear HE HC HD HV2
    go_wp2_with fail
    go_ret2
    exact ⟨rfl, HL.out⟩
  · have HV3 := Lib.hid (HV2.out w2 HL.out)
    clear HV2
    go_wp2_with fail
    refine HV3.out.mono ?_
    rintro e w3 ⟨rfl, hl⟩
    replace HL := Lib.hid (lays_tr HL.out hl)
    clear hl HV3
    rcases vb with _ | _
    · have hE := HE.out
      simp at hE
      subst hE
      clear HE HC HD
      go_wp2_with fail
      go_ret2
      exact ⟨rfl, HL.out⟩
    · have HC2 := Lib.hid (HC.out w3 HL.out)
      clear HC
      go_wp2_with fail
      refine HC2.out.mono ?_
      rintro e w4 ⟨rfl, hl⟩
      replace HL := Lib.hid (lays_tr HL.out hl)
      have HD2 := Lib.hid (HD.out w4 HL.out)
      clear hl HC2 HD
      go_wp2_with fail
      refine HD2.out.mono ?_
      rintro e w5 ⟨rfl, hl⟩
      replace HL := Lib.hid (lays_tr HL.out hl)
      clear hl HD2
      rcases p with _ | _ <;> rcases q with _ | _
      all_goals
        have hE := HE.out
        simp at hE
        subst hE
        clear HE
        go_wp2_with fail
        go_ret2
        exact ⟨rfl, HL.out⟩
end Go.Proofs.Ytefnoajkdhgonaa.E
