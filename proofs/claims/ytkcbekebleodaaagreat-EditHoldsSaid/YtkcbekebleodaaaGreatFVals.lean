/-
  Valid, equal, Has, as the program asks: closures over two boxes.
-/
import Derived.Test.YtkcbekebleodaaaGreatMDRefB
import Derived.Test.YtkcbekebleodaaaGreatMDText
import Derived.Test.YtkcbekebleodaaaGreatDHas
/-
  The library's IndexFunc and ContainsFunc at dots, by what the function value says of the dots of the list.
-/
section
namespace Go.Proofs.YtkcbekebleodaaaGreat.F
set_option linter.unusedVariables false
open Go.RowKit V Go.Sort D

/-- What a function value says of the dots of a list, wherever it is asked behind w. -/
def Ask (w : World) (g : Nat) (cb : Array Value) (l : List Dt) (p : Dt → Bool) : Prop :=
  ∀ W, Below w.heap.size w W → ∀ d ∈ l, Calls Tryz.prog g (#[dv d] ++ cb) W fun e w' => e = .returned (.bool (p d)) ∧ Below W.heap.size W w'
theorem any_here {l : List Dt} {k : Nat} {p : Dt → Bool} (hk : k < l.length) (h : p l[k] = true) : l.any p = true := by
  rw [List.any_eq_true]; exact ⟨l[k], List.getElem_mem hk, h⟩
theorem any_away {l : List Dt} {p : Dt → Bool} (h : ∀ j (hj : j < l.length), p l[j] = false) : l.any p = false := by
  rw [List.any_eq_false]
  intro x hx
  obtain ⟨j, hj, rfl⟩ := List.mem_iff_getElem.1 hx
  rw [h j hj]; simp

set_option maxRecDepth 100000 in
set_option maxHeartbeats 1000000 in
theorem indexF (l : List Dt) (a : Option Addr) (c g : Nat) (cb : Array Value) (p : Dt → Bool) (w : World) (eg : ∀ args w, (callFunc g args).run Tryz.prog w = .ok (.enter g args) w) (hp : Ask w g cb l p) (hx : RowD w a l) (hlx : l.length ≤ 1000000) :
    Calls Tryz.prog 89 #[.slice a l.length c, .func (.func g) #[] cb] w fun e w' => ∃ z : Int, e = .returned (.int .i64 z) ∧ decide (0 ≤ z) = l.any p ∧ Below w.heap.size w w' := by
  have HP := Lib.hid hp
  have HX := Lib.hid hx
  have hli : (l.length : Int) ≤ 1000000 := by omega
  clear hp hx hlx
  go_enter Tryz.func89, Tryz.ntmps89
  go_wp2_with fail
  go_loopw [5, 8] (fun _ i wr => ∃ k : Nat, k ≤ l.length ∧ i = .int .i64 (k : Int) ∧ Hid (Below w.heap.size w wr) ∧ Hid (∀ j (hj : j < l.length), j < k → p l[j] = false)) (fun _ i _ => l.length - (intOf i).toNat)
  case atStart => exact ⟨0, Nat.zero_le _, rfl, Below.refl _ _, fun j _ h => by omega⟩
  case round =>
    obtain ⟨k, hk, rfl, hh, HV⟩ := hrel
    by_cases hlt : k < l.length
    · obtain ⟨b1, o1, rfl, p0, p1⟩ := HX.out.get hh.out k hlt
      have HQ := Lib.hid (HP.out wr hh.out l[k] (List.getElem_mem hlt))
      have HT := Lib.hid (any_here (p := p) hlt)
      obtain ⟨q, hq⟩ : ∃ q, q = l[k] := ⟨_, rfl⟩
      rw [← hq] at p0 p1 HQ HT
      have HQe := Lib.hid hq
      have hi1 : (k : Int) < (l.length : Int) := by omega
      clear hq
      obtain ⟨q1, q2⟩ := q
      go_wp2_with fail
      refine HQ.out.mono ?_
      rintro e w3 ⟨rfl, hb⟩
      have HB := bel_tr hh hb
      clear hb HQ
      rcases hpq : p (q1, q2) with _ | _
      · go_wp2_with fail
        go_roundw
        case rel =>
          refine ⟨k + 1, by omega, by go_num, HB, fun j hj hjk => ?_⟩
          by_cases hjk2 : j = k
          · subst hjk2; rw [← HQe.out]; exact hpq
          · exact HV.out j hj (by omega)
        case measure => simp [intOf]; omega
      · have hT := HT.out hpq
        go_wp2_with fail
        go_ret
        exact ⟨k, rfl, by rw [hT]; simp, HB.out⟩
    · obtain rfl : k = l.length := by omega
      have HN : Hid (l.any p = false) := any_away fun j hj => HV.out j hj hj
      have hend : ¬ (l.length : Int) < (l.length : Int) := by omega
      go_wp2_with fail
      go_ret
      exact ⟨-1, rfl, by rw [HN.out]; simp, hh.out⟩

set_option maxRecDepth 100000 in
theorem containsF (l : List Dt) (a : Option Addr) (c g : Nat) (cb : Array Value) (p : Dt → Bool) (w : World) (eg : ∀ args w, (callFunc g args).run Tryz.prog w = .ok (.enter g args) w) (hp : Ask w g cb l p) (hx : RowD w a l) (hlx : l.length ≤ 1000000) :
    Calls Tryz.prog 71 #[.slice a l.length c, .func (.func g) #[] cb] w fun e w' => e = .returned (.bool (l.any p)) ∧ Below w.heap.size w w' := by
  have HI := Lib.hid (indexF l a c g cb p w eg hp hx hlx)
  clear hp hx hlx
  generalize l.any p = q at *
  go_enter Tryz.func71, Tryz.ntmps71
  go_wp2_with fail
  refine HI.out.mono ?_
  rintro e w2 ⟨z, rfl, hz, hb⟩
  have HB := Lib.hid hb
  clear hb HI
  cases q
  · have hz2 : ¬ (0 : Int) ≤ z := by simpa using hz
    go_wp2_with fail
    go_ret
    exact ⟨by simp, HB.out⟩
  · have hz2 : (0 : Int) ≤ z := by simpa using hz
    go_wp2_with fail
    go_ret
    exact ⟨by simp, HB.out⟩
end Go.Proofs.YtkcbekebleodaaaGreat.F
end

/-
  Which contexts are allowed: the program's and the reference's.
-/
section
namespace Go.Proofs.YtkcbekebleodaaaGreat.F
set_option linter.unusedVariables false
open Go.RowKit V Go.Sort D

/-- A context as a value. -/
abbrev cv (x y : Value) : Value := .agg #[x, y]
theorem any_valid (l : List Dt) : (l.any fun d => !validR d) = !(l.all validR) := by rw [← List.not_all_eq_any_not]

end Go.Proofs.YtkcbekebleodaaaGreat.F
end

/-
  The library's Equal at dots; Equal of contexts: the program's and the reference's.
-/
section
namespace Go.Proofs.YtkcbekebleodaaaGreat.F
set_option linter.unusedVariables false
open Go.RowKit V Go.Sort D

end Go.Proofs.YtkcbekebleodaaaGreat.F
end

/-
  Whether a dot is in a context: the program's and the reference's.
-/
section
namespace Go.Proofs.YtkcbekebleodaaaGreat.F
set_option linter.unusedVariables false
open Go.RowKit V Go.Sort D

/-- A box with a dot. -/
def Bd (g : Nat) (x y : Int) (w : World) : Prop := w.cell? ⟨g, 0, none⟩ = some (.int .i64 x) ∧ w.cell? ⟨g, 1, none⟩ = some (.int .i64 y)
theorem Bd.keep {w w' : World} {g : Nat} {x y : Int} (h : Bd g x y w) (hb : Below w.heap.size w w') : Bd g x y w' :=
  ⟨(hb.cell (p := ⟨g, 0, none⟩) (lt_of_cell h.1)).trans h.1, (hb.cell (p := ⟨g, 1, none⟩) (lt_of_cell h.2)).trans h.2⟩

end Go.Proofs.YtkcbekebleodaaaGreat.F
end

/-
  Whether all dots are valid; which contexts are: the reference's.
-/
section
namespace Go.Proofs.YtkcbekebleodaaaGreat.F
set_option linter.unusedVariables false
open Go.RowKit V Go.Sort D

end Go.Proofs.YtkcbekebleodaaaGreat.F
end
