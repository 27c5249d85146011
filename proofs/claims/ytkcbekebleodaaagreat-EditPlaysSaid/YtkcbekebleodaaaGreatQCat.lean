/-
  The library's Grow, Concat and Clone at nodes.
-/
import Derived.Test.YtkcbekebleodaaaGreatQRow
import Derived.Lib.AppendZeros
import Derived.Lib.SliceRun
import Derived.Laws.MakeOwn
namespace Go.Proofs.YtkcbekebleodaaaGreat.Qs
set_option linter.unusedVariables false
open Go.RowKit V Go.Sort D Nd

abbrev E : TypeId := 53
theorem infoN : (Tryz.prog.info? 53).map (fun i => (i.zero, i.size, i.bytes)) = some (some zeroNv, 6, 48) := by kernel_rfl

/-- A row of two slices, in memory. -/
def Two (w : World) (g : Nat) (x y : Value) : Prop := w.cell? ⟨g, 0, none⟩ = some x ∧ w.cell? ⟨g, 1, none⟩ = some y

theorem nilN : ∀ (w : World) (a : Option Addr) (n c n' c' : Nat), (binOp .eql 22 (.slice a n c) (.slice none n' c')).run Tryz.prog w = .ok (.bool a.isNone) w := fun w a n c n' c' => Lib.run_eql_slice_nil w _ _ a n c n' c' Tryz.underlying22
set_option maxRecDepth 100000 in
set_option maxHeartbeats 1000000 in
theorem cloneN (l : List Nt) (a : Option Addr) (c : Nat) (w : World) (hrow : RowN w a l) (hnil : a = none → c = 0) (hlen : l.length ≤ 1000000) :
    Calls Tryz.prog 74 #[.slice a l.length c] w fun e w' => ∃ v, e = .returned v ∧ ON w' w.heap.size E v l ∧ Below w.heap.size w w' := by
  have HR := Lib.hid hrow
  have HL := Lib.hid hlen
  rcases a with _ | ad
  · have hl : l = [] := by
      rcases hrow with h | ⟨_, _, e, _⟩
      · exact h
      · cases e
    subst hl
    clear hrow hlen hnil
    have q := nilN
    go_enter Tryz.func74, Tryz.ntmps74
    go_wp2_with fail
    go_ret
    exact ⟨_, rfl, ON.nil _ _ _, Below.refl _ _⟩
  · clear hrow hlen
    have q := nilN
    have HN := Lib.hid hnil
    clear hnil
    have HO : Hid (ON (w.alloc (.cells #[] 53)) w.heap.size E (.slice (some ⟨w.heap.size, 0, none⟩) 0 0) []) := World.ownsRow_made (base := w.heap.size) (size := 6) (e := 53) w #[] 0 (Nat.le_refl _) (Nat.zero_le _) rfl
    have HB : Hid (Below w.heap.size w (w.alloc (.cells #[] 53))) := (Below.refl _ _).alloc (Nat.le_refl _) _
    go_enter Tryz.func74, Tryz.ntmps74
    go_wp2_with (at_builtin; refine wpList_appN rfl _ _ _ rfl Tryz.underlying22 infoN _ _ rfl HO.out (some ad) l c _ rfl rfl (HR.out.keep HB.out) HN.out (by have := HL.out; simp; omega) HB.out.size ?_)
    intro v' w' ho hg _
    have HO2 : Hid (ON w' w.heap.size E v' l) := ho
    have HB2 := Lib.hid (HB.out.grown hg HB.out.size (fun k hk => (HO.out.lt k hk).1))
    clear ho hg
    go_wp2_with fail
    go_ret
    exact ⟨_, rfl, HO2.out, HB2.out⟩
end Go.Proofs.YtkcbekebleodaaaGreat.Qs
