/-
  The six laws, as the rows' frames ask for them.
-/
import Derived.Test.YtjkiollopajmoabDoorRLawC
import Derived.Test.YtjkiollopajmoabDoorRLd
import Derived.Test.YtjkiollopajmoabDoorIn
namespace Go.Proofs.YtjkiollopajmoabDoor.R
set_option linter.unusedVariables false
open Go.RowKit V

theorem one_law (r : Int) (w : World) (hL : Ld w) (h : (Lit.int .i32 r).wf = true) :
    Calls Tryd.prog 3 #[.int .i32 r] w fun e w' => e = .returned (.bool true) ∧ Below w.heap.size w w' := one_any r w hL (G.wf_i32 h)
theorem cuts_law2 (l : List UInt8) (x y : Int) (w : World) (hL : Ld w) (hl : l.length ≤ 9223372036854775807) (hx : (Lit.int .i64 x).wf = true) (hy : (Lit.int .i64 y).wf = true) :
    Calls Tryd.prog 6 #[.string ⟨l.toArray⟩, .int .i64 x, .int .i64 y] w fun e w' => e = .returned (.bool true) ∧ Below w.heap.size w w' := cuts_law l x y w hL hl (G.wf_i64 hx) (G.wf_i64 hy)
theorem encs_law2 (zs : List Int) (a : Option Addr) (c : Nat) (w : World) (hL : Ld w) (hlen : zs.length ≤ 9223372036854775807) (hrow : G.RowI .i32 w a zs) (hnil : a = none → c = 0) (h32 : ∀ z ∈ zs, (Lit.int .i32 z).wf = true) :
    Calls Tryd.prog 5 #[.slice a zs.length c] w fun e w' => e = .returned (.bool true) ∧ Below w.heap.size w w' := encs_law zs a c w hL hlen hrow hnil (fun z hz => G.wf_i32 (h32 z hz))
theorem holds_law (l : List UInt8) (zs : List Int) (a : Option Addr) (c : Nat) (x y z : Int) (w : World) (hL : Ld w) (hl : l.length ≤ 9223372036854775807) (hlen : zs.length ≤ 9223372036854775807) (hrow : G.RowI .i32 w a zs) (_ : a = none → c = 0) (_ : ∀ z ∈ zs, (Lit.int .i32 z).wf = true)
    (hx : (Lit.int .i64 x).wf = true) (hy : (Lit.int .i64 y).wf = true) (hz : (Lit.int .i64 z).wf = true) :
    Calls Tryd.prog 8 #[.string ⟨l.toArray⟩, .slice a zs.length c, .int .i64 x, .int .i64 y, .int .i64 z] w fun e w' => e = .returned (.bool true) ∧ Below w.heap.size w w' := holds_any l zs a c x y z w hL hl hlen hrow (G.wf_i64 hx) (G.wf_i64 hy) (G.wf_i64 hz)
end Go.Proofs.YtjkiollopajmoabDoor.R
