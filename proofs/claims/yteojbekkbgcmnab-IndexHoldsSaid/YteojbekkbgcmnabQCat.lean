/-
  The library's Grow, Concat and Clone at nodes.
-/
import Derived.Test.YteojbekkbgcmnabQRow
import Derived.Lib.AppendZeros
import Derived.Lib.SliceRun
import Derived.Laws.MakeOwn
namespace Go.Proofs.Yteojbekkbgcmnab.Qs
set_option linter.unusedVariables false
open Go.RowKit V Go.Sort D Nd

abbrev E : TypeId := 37
theorem infoN : (Try.prog.info? 37).map (fun i => (i.zero, i.size, i.bytes)) = some (some zeroNv, 6, 48) := by kernel_rfl
theorem run_gr (n : Nat) (h0 : 0 < n) (h : n ≤ 2000000) (ty : TypeId) (w : World) :
    ∃ c w', (Builtin.append_ #[22, 3] ty #[.slice none 0 0, .int .i64 (n : Int)]).run Try.prog w = .ok (.slice (some ⟨w.heap.size, 0, none⟩) n c) w' ∧ n ≤ c ∧ ON w' w.heap.size E (.slice (some ⟨w.heap.size, 0, none⟩) 0 c) [] ∧ Below w.heap.size w w' := by
  obtain ⟨i, hi, hz0, hz1, hz2⟩ := G.info_of infoN
  have hr := Lib.run_append_nil_zeros (P := Try.prog) w 22 3 ty 37 i zeroNv .i64 .i64 Try.underlying22 Try.underlying3 hi hz0 n h0 (by rw [hz1]; omega) (by omega) (by rw [hz2]; omega)
  have hge := grownCap_ge w n 0 37
  have hle := grownCap_le_maxLen w n 0 37 (by unfold maxLen; omega)
  refine ⟨_, _, hr, hge, ?_, ((Below.refl _ _).drew).alloc (Nat.le_refl _) _⟩
  exact World.ownsRow_made (base := w.heap.size) (size := 6) (e := 37) w.drew _ (grownCap w n 0 37) (Nat.le_refl _) hle (by simp [Builtin.zeroCells, Value.cells]; omega)

/-- A row of two slices, in memory. -/
def Two (w : World) (g : Nat) (x y : Value) : Prop := w.cell? ⟨g, 0, none⟩ = some x ∧ w.cell? ⟨g, 1, none⟩ = some y

theorem nilN : ∀ (w : World) (a : Option Addr) (n c n' c' : Nat), (binOp .eql 22 (.slice a n c) (.slice none n' c')).run Try.prog w = .ok (.bool a.isNone) w := fun w a n c n' c' => Lib.run_eql_slice_nil w _ _ a n c n' c' Try.underlying22
set_option maxRecDepth 100000 in
set_option maxHeartbeats 1000000 in
theorem cloneN (l : List Nt) (a : Option Addr) (c : Nat) (w : World) (hrow : RowN w a l) (hnil : a = none → c = 0) (hlen : l.length ≤ 1000000) :
    Calls Try.prog 54 #[.slice a l.length c] w fun e w' => ∃ v, e = .returned v ∧ ON w' w.heap.size E v l ∧ Below w.heap.size w w' := by
  have HR := Lib.hid hrow
  have HL := Lib.hid hlen
  rcases a with _ | ad
  · have hl : l = [] := by
      rcases hrow with h | ⟨_, _, e, _⟩
      · exact h
      · cases e
    subst hl
    clear hrow hlen hnil
    have q := nilN
    go_enter Try.func54, Try.ntmps54
    go_wp2_with fail
    go_ret
    exact ⟨_, rfl, ON.nil _ _ _, Below.refl _ _⟩
  · clear hrow hlen
    have q := nilN
    have HN := Lib.hid hnil
    clear hnil
    have HO : Hid (ON (w.alloc (.cells #[] 37)) w.heap.size E (.slice (some ⟨w.heap.size, 0, none⟩) 0 0) []) := World.ownsRow_made (base := w.heap.size) (size := 6) (e := 37) w #[] 0 (Nat.le_refl _) (Nat.zero_le _) rfl
    have HB : Hid (Below w.heap.size w (w.alloc (.cells #[] 37))) := (Below.refl _ _).alloc (Nat.le_refl _) _
    go_enter Try.func54, Try.ntmps54
    go_wp2_with (at_builtin; refine wpList_appN rfl _ _ _ rfl Try.underlying22 infoN _ _ rfl HO.out (some ad) l c _ rfl rfl (HR.out.keep HB.out) HN.out (by have := HL.out; simp; omega) HB.out.size ?_)
    intro v' w' ho hg _
    have HO2 : Hid (ON w' w.heap.size E v' l) := ho
    have HB2 := Lib.hid (HB.out.grown hg HB.out.size (fun k hk => (HO.out.lt k hk).1))
    clear ho hg
    go_wp2_with fail
    go_ret
    exact ⟨_, rfl, HO2.out, HB2.out⟩
end Go.Proofs.Yteojbekkbgcmnab.Qs
