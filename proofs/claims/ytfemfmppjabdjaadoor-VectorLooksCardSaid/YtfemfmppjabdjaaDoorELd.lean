/-
  What the rows' condition says of the variables; a start that meets it; the five laws, as the rows' frames ask for them.
-/
import Derived.Test.YtfemfmppjabdjaaDoorRows
import Derived.Test.YtfemfmppjabdjaaDoorELHolds
import Derived.Test.YtfemfmppjabdjaaDoorELTexts
import Derived.Test.YtfemfmppjabdjaaDoorInD
import Derived.Lib.LaidTab
import Derived.Stop.LaidErr
import Derived.Stop.Joined
import Derived.LaidMore
import Derived.Lay
namespace Go.Proofs.YtfemfmppjabdjaaDoor.E
set_option linter.unusedVariables false
open Go.RowKit Go.Lib V D

def Z64 : List Int := [0, 1, 56, 2, 57, 49, 28, 3, 61, 58, 42, 50, 38, 29, 17, 4, 62, 47, 59, 36, 45, 43, 51, 22, 53, 39, 33, 30, 24, 18, 12, 5, 63, 55, 48, 27, 60, 41, 37, 16, 46, 35, 44, 21, 52, 32, 23, 11, 54, 26, 40, 15, 34, 20, 31, 10, 25, 14, 19, 9, 13, 8, 7, 6]
theorem star : ("*" ++ "errors.errorString") = "*errors.errorString" := by kernel_rfl
theorem rowErr : ∀ u, Tryd.prog.typeName? 3 u = some "*errors.errorString" → u = 141 := fun u h =>
  typeName_ptr_named (nm := "errors.errorString") (by rw [star]; kernel_rfl) (by kernel_rfl) (by decide) u (by rw [star]; exact h)
theorem ld_of_laid {W : World} (h : laidMetH Tryd.prog Rows.vectorLooksRow.laid W) : Ld W := by
  rw [MakeChecks.laidMetH_plain _ _ _ (by kernel_rfl)] at h
  have h2 : laidMet Tryd.prog (("internal/strconv.uint64pow10", tabData .u64 pow10Tab) :: _) W := laidMet.tail (laidMet.tail h)
  have hT := tabIs_of_head (g := 3) (by kernel_rfl) (by kernel_rfl) Tryd.underlying126 Tryd.underlying107 (by kernel_rfl) (by kernel_rfl) h2
  have h4 := laidMet.tail (laidMet.tail h2)
  obtain ⟨a, s, hv, -⟩ := laid_sentinel h4 (g := 5) (by kernel_rfl) (by kernel_rfl) Tryd.underlying88 rowErr Tryd.underlying141 Tryd.underlying143 rfl rfl Tryd.underlying9 (by kernel_rfl) (by kernel_rfl)
  have h5 := laidMet.tail h4
  obtain ⟨a2, s2, hv2, -⟩ := laid_sentinel h5 (g := 4) (by kernel_rfl) (by kernel_rfl) Tryd.underlying88 rowErr Tryd.underlying141 Tryd.underlying143 rfl rfl Tryd.underlying9 (by kernel_rfl) (by kernel_rfl)
  exact ⟨hT, ⟨_, World.var?_cell (by kernel_rfl) hv2 0, .inr ⟨_, _, rfl⟩⟩, ⟨_, World.var?_cell (by kernel_rfl) hv 0, .inr ⟨_, _, rfl⟩⟩⟩

/-- A start that meets the condition. -/
theorem start_met (os : Os) (args : Array Value) : laidMetH Tryd.prog Rows.vectorLooksRow.laid ((World.laidAll Tryd.prog os Rows.vectorLooksRow.laid).forCall (fun _ _ => 0) ⟨#[], args, []⟩).memory := by
  rw [MakeChecks.laidMetH_plain _ _ _ (by kernel_rfl)]
  exact laidMet_laidAll _ (by kernel_rfl) (by kernel_rfl)

theorem looks_law2 (xs : List Dt) (a : Option Addr) (c : Nat) (n : Int) (p : Dt) (w : World) (hL : Ld w) (hlx : xs.length ≤ 9223372036854775807) (hx : RowD w a xs) (hna : a = none → c = 0) (hwf : ∀ x ∈ xs, wfD x) (hlc : xs.length ≤ c) (hn : (Lit.int .i64 n).wf = true) (hp : wfD p) :
    Calls Tryd.prog 3 #[.slice a xs.length c, .int .i64 n, dv p] w fun e w' => e = .returned (.bool true) ∧ Below w.heap.size w w' := looks_law xs a c n p w hL hx hlx
theorem makes_law2 (xs : List Dt) (a : Option Addr) (c : Nat) (ys : List Dt) (b : Option Addr) (d : Nat) (p : Dt) (w : World) (hL : Ld w) (hlx : xs.length ≤ 9223372036854775807) (hx : RowD w a xs) (hna : a = none → c = 0) (hwf : ∀ x ∈ xs, wfD x) (hlc : xs.length ≤ c) (hly : ys.length ≤ 9223372036854775807) (hy : RowD w b ys) (hnb : b = none → d = 0) (hwf2 : ∀ x ∈ ys, wfD x) (hlc2 : ys.length ≤ d) (hp : wfD p) :
    Calls Tryd.prog 4 #[.slice a xs.length c, .slice b ys.length d, dv p] w fun e w' => e = .returned (.bool true) ∧ Below w.heap.size w w' := makes_law xs ys a b c d p w hL hx hy hna hnb hlc2 hlx hly
theorem merges_law2 (xs : List Dt) (a : Option Addr) (c : Nat) (ys : List Dt) (b : Option Addr) (d : Nat) (w : World) (hL : Ld w) (hlx : xs.length ≤ 9223372036854775807) (hx : RowD w a xs) (hna : a = none → c = 0) (hwf : ∀ x ∈ xs, wfD x) (hlc : xs.length ≤ c) (hly : ys.length ≤ 9223372036854775807) (hy : RowD w b ys) (hnb : b = none → d = 0) (hwf2 : ∀ x ∈ ys, wfD x) (hlc2 : ys.length ≤ d) :
    Calls Tryd.prog 5 #[.slice a xs.length c, .slice b ys.length d] w fun e w' => e = .returned (.bool true) ∧ Below w.heap.size w w' := merges_law xs ys a b c d w hL hx hy hna hnb hlc hlx hly
theorem texts_law2 (xs : List Dt) (a : Option Addr) (c : Nat) (s : List UInt8) (w : World) (hL : Ld w) (hlx : xs.length ≤ 9223372036854775807) (hx : RowD w a xs) (hna : a = none → c = 0) (hwf : ∀ x ∈ xs, wfD x) (hlc : xs.length ≤ c) (hls : s.length ≤ 9223372036854775807) :
    Calls Tryd.prog 6 #[.slice a xs.length c, .string ⟨s.toArray⟩] w fun e w' => e = .returned (.bool true) ∧ Below w.heap.size w w' := texts_law xs a c s w hL hx hlx hls
theorem holds_law2 (xs : List Dt) (a : Option Addr) (c : Nat) (ys : List Dt) (b : Option Addr) (d : Nat) (zs : List Dt) (g : Option Addr) (e : Nat) (p : Dt) (w : World) (hL : Ld w) (hlx : xs.length ≤ 9223372036854775807) (hx : RowD w a xs) (hna : a = none → c = 0) (hwf : ∀ x ∈ xs, wfD x) (hlc : xs.length ≤ c) (hly : ys.length ≤ 9223372036854775807) (hy : RowD w b ys) (hnb : b = none → d = 0) (hwf2 : ∀ x ∈ ys, wfD x) (hlc2 : ys.length ≤ d) (hlz : zs.length ≤ 9223372036854775807) (hz : RowD w g zs) (hnc : g = none → e = 0) (hwf3 : ∀ x ∈ zs, wfD x) (hlc3 : zs.length ≤ e) (hp : wfD p) :
    Calls Tryd.prog 7 #[.slice a xs.length c, .slice b ys.length d, .slice g zs.length e, dv p] w fun e w' => e = .returned (.bool true) ∧ Below w.heap.size w w' := holds_law xs ys zs a b g c d e p w hL hx hy hz hna hnb hnc hlc hlx hly hlz
end Go.Proofs.YtfemfmppjabdjaaDoor.E
