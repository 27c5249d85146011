/-
  A contract of the library at this program, by the kit.
-/
import Derived.Shelf.SlicesQ.Reverse
import Derived.Test.YtkcbekebleodaaaGreatProg
namespace Go.Proofs
open Go.Shelf
def Tryz.revA_ren : Go.Shelf.Ren := ⟨fun | 35 => 136 | n => n, fun | 22 => 158 | 23 => 161 | 3 => 3 | 4 => 4 | 0 => 0 | n => n, fun | n => n⟩
theorem Tryz.revA : Go.Proofs.SlLaysE0.n35 Tryz.prog Tryz.revA_ren := {
  mixed := by kernel_rfl
  f35 := ⟨Tryz.f136.name, by decide, Tryz.func136.trans (congrArg some (by kernel_rfl))⟩
  t0 := Tryz.underlying0
  a0 := Tryz.isAgg0
  z0 := Tryz.sizeOf0
  v0 := Tryz.zeroValue0
  t3 := Tryz.underlying3
  a3 := Tryz.isAgg3
  z3 := Tryz.sizeOf3
  v3 := Tryz.zeroValue3
  t4 := Tryz.underlying4
  a4 := Tryz.isAgg4
  z4 := Tryz.sizeOf4
  v4 := Tryz.zeroValue4
  t22 := Tryz.underlying158
  a22 := Tryz.isAgg158
  z22 := Tryz.sizeOf158
  v22 := Tryz.zeroValue158 }
end Go.Proofs
