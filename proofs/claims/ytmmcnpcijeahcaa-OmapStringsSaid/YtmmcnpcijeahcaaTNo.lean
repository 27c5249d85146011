/-
  Maps: the iterators; the methods where there is no map.
-/
import Derived.Test.YtmmcnpcijeahcaaTIter
namespace Go.Proofs.Ytmmcnpcijeahcaa.Jt
set_option linter.unusedVariables false
open Go.RowKit V Go.Shelf

/-- An iterator over these pairs of a tree. -/
def It (w : World) (e : Ending) (w' : World) (S : List Pr) : Prop :=
  ∃ (b1 b2 : Nat) (T : Tr) (z : Int), e = .returned (.func (.func 75) #[] #[.pointer (some ⟨b1, 0, none⟩), .pointer (some ⟨b2, 0, none⟩)]) ∧ w'.cell? ⟨b1, 0, none⟩ = some (.pointer T.ad) ∧ w'.cell? ⟨b2, 0, none⟩ = some (.int .i64 z) ∧
    T.In w' ∧ T.list.drop z.toNat = S ∧ T.len ≤ 1000000 ∧ 0 ≤ z ∧ z ≤ 1000000 ∧ Below w.heap.size w w'
theorem enters_from : ∀ args w, (callFunc 75 args).run Try.prog w = .ok (.enter 75 args) w := enters_of Try.func75 (by kernel_rfl) rfl
set_option maxRecDepth 100000 in
theorem All_yes (g : Nat) (d : Bool) (L : List Pr) (w : World) (h : Mp w g d L) : Calls Try.prog 28 #[.pointer (some ⟨g, 0, none⟩)] w fun e w' => It w e w' L := by
  obtain ⟨T, h1, h2, rfl, h4, h5, h6, h7⟩ := h
  have HA := Lib.hid (all_yes g (fnOf d) T.ad w h1)
  have HT := Lib.hid h2
  have HF := Lib.hid (from_any T.ad 0 w)
  have H7 : Hid (T.len ≤ 1000000) := Nat.le_of_lt h7
  clear h1 h2 h4 h5 h6 h7
  go_enter Try.func28, Try.ntmps28
  go_wp2_with fail
  refine HA.out.mono ?_
  rintro e w2 ⟨rfl, rfl⟩
  go_wp2_with fail
  refine HF.out.mono ?_
  rintro e w3 ⟨b1, b2, rfl, c1, c2, hb⟩
  have C1 := Lib.hid c1
  have C2 := Lib.hid c2
  have HB := Lib.hid hb
  clear c1 c2 hb HF HA
  go_wp2_with fail
  go_ret
  exact ⟨b1, b2, T, 0, rfl, C1.out, C2.out, HT.out.keep HB.out, rfl, H7.out, by decide, by decide, HB.out⟩
end Go.Proofs.Ytmmcnpcijeahcaa.Jt
