/-
  What the rows' condition says of the variables; a start that meets it; the five laws, as the rows' frames ask for them.
-/
import Derived.Test.YtjdhdnlcaonnkaaDoorRows
import Derived.Test.YtjdhdnlcaonnkaaDoorDLawE
import Derived.Test.YtjdhdnlcaonnkaaDoorInD
import Derived.Lib.LaidTab
import Derived.Stop.LaidErr
import Derived.Stop.Joined
import Derived.LaidMore
import Derived.Lay
namespace Go.Proofs.YtjdhdnlcaonnkaaDoor.D
set_option linter.unusedVariables false
open Go.RowKit Go.Lib V

def Z64 : List Int := [0, 1, 56, 2, 57, 49, 28, 3, 61, 58, 42, 50, 38, 29, 17, 4, 62, 47, 59, 36, 45, 43, 51, 22, 53, 39, 33, 30, 24, 18, 12, 5, 63, 55, 48, 27, 60, 41, 37, 16, 46, 35, 44, 21, 52, 32, 23, 11, 54, 26, 40, 15, 34, 20, 31, 10, 25, 14, 19, 9, 13, 8, 7, 6]
theorem star : ("*" ++ "errors.errorString") = "*errors.errorString" := by kernel_rfl
theorem rowErr : ∀ u, Tryd.prog.typeName? 3 u = some "*errors.errorString" → u = 124 := fun u h =>
  typeName_ptr_named (nm := "errors.errorString") (by rw [star]; kernel_rfl) (by kernel_rfl) (by decide) u (by rw [star]; exact h)
theorem ld_of_laid {W : World} (h : laidMetH Tryd.prog Rows.dotOrdersRow.laid W) : Ld W := by
  rw [MakeChecks.laidMetH_plain _ _ _ (by kernel_rfl)] at h
  have h2 : laidMet Tryd.prog (("internal/strconv.uint64pow10", tabData .u64 pow10Tab) :: _) W := laidMet.tail (laidMet.tail h)
  have hT := tabIs_of_head (g := 1) (by kernel_rfl) (by kernel_rfl) Tryd.underlying108 Tryd.underlying85 (by kernel_rfl) (by kernel_rfl) h2
  have h4 := laidMet.tail h2
  obtain ⟨a, s, hv, -⟩ := laid_sentinel h4 (g := 3) (by kernel_rfl) (by kernel_rfl) Tryd.underlying71 rowErr Tryd.underlying124 Tryd.underlying126 rfl rfl Tryd.underlying9 (by kernel_rfl) (by kernel_rfl)
  have h5 := laidMet.tail h4
  obtain ⟨a2, s2, hv2, -⟩ := laid_sentinel h5 (g := 2) (by kernel_rfl) (by kernel_rfl) Tryd.underlying71 rowErr Tryd.underlying124 Tryd.underlying126 rfl rfl Tryd.underlying9 (by kernel_rfl) (by kernel_rfl)
  exact ⟨hT, ⟨_, World.var?_cell (by kernel_rfl) hv2 0, .inr ⟨_, _, rfl⟩⟩, ⟨_, World.var?_cell (by kernel_rfl) hv 0, .inr ⟨_, _, rfl⟩⟩⟩

/-- A start that meets the condition. -/
theorem start_met (os : Os) (args : Array Value) : laidMetH Tryd.prog Rows.dotOrdersRow.laid ((World.laidAll Tryd.prog os Rows.dotOrdersRow.laid).forCall (fun _ _ => 0) ⟨#[], args, []⟩).memory := by
  rw [MakeChecks.laidMetH_plain _ _ _ (by kernel_rfl)]
  exact laidMet_laidAll _ (by kernel_rfl) (by kernel_rfl)

theorem orders_law2 (x y : Dt) (w : World) (hL : Ld w) (hx : wfD x) (hy : wfD y) : Calls Tryd.prog 3 #[dv x, dv y] w fun e w' => e = .returned (.bool true) ∧ Below w.heap.size w w' := orders_law x y w hL
theorem texts_law2 (x : Dt) (s : List UInt8) (w : World) (hL : Ld w) (hx : wfD x) (hlen : s.length ≤ 9223372036854775807) : Calls Tryd.prog 6 #[dv x, .string ⟨s.toArray⟩] w fun e w' => e = .returned (.bool true) ∧ Below w.heap.size w w' := texts_law x s w hL hlen
theorem sets_law2 (xs : List Dt) (a : Option Addr) (c : Nat) (d : Dt) (w : World) (hL : Ld w) (hlx : xs.length ≤ 9223372036854775807) (hx : RowD w a xs) (hna : a = none → c = 0) (hwf : ∀ x ∈ xs, wfD x) (hlc : xs.length ≤ c) (hd : wfD d) :
    Calls Tryd.prog 4 #[.slice a xs.length c, dv d] w fun e w' => e = .returned (.bool true) ∧ Below w.heap.size w w' := sets_law xs a c d w hL hx hna hlx
theorem pairs_law2 (xs : List Dt) (a : Option Addr) (c : Nat) (ys : List Dt) (b : Option Addr) (d : Nat) (w : World) (hL : Ld w) (hlx : xs.length ≤ 9223372036854775807) (hx : RowD w a xs) (hna : a = none → c = 0) (hwf : ∀ x ∈ xs, wfD x) (hlc : xs.length ≤ c)
    (hly : ys.length ≤ 9223372036854775807) (hy : RowD w b ys) (hnb : b = none → d = 0) (hwf2 : ∀ x ∈ ys, wfD x) (hlc2 : ys.length ≤ d) :
    Calls Tryd.prog 5 #[.slice a xs.length c, .slice b ys.length d] w fun e w' => e = .returned (.bool true) ∧ Below w.heap.size w w' := pairs_law xs ys a b c d w hL hx hy hna hnb hlx hly
theorem holds_law2 (xs : List Dt) (a : Option Addr) (c : Nat) (ys : List Dt) (b : Option Addr) (d : Nat) (x y z : Dt) (w : World) (hL : Ld w) (hlx : xs.length ≤ 9223372036854775807) (hx : RowD w a xs) (hna : a = none → c = 0) (hwf : ∀ x ∈ xs, wfD x) (hlc : xs.length ≤ c)
    (hly : ys.length ≤ 9223372036854775807) (hy : RowD w b ys) (hnb : b = none → d = 0) (hwf2 : ∀ x ∈ ys, wfD x) (hlc2 : ys.length ≤ d) (h1 : wfD x) (h2 : wfD y) (h3 : wfD z) :
    Calls Tryd.prog 7 #[.slice a xs.length c, .slice b ys.length d, dv x, dv y, dv z] w fun e w' => e = .returned (.bool true) ∧ Below w.heap.size w w' := holds_law xs ys a b c d x y z w hL hx hy hna hnb hlx hly
end Go.Proofs.YtjdhdnlcaonnkaaDoor.D
