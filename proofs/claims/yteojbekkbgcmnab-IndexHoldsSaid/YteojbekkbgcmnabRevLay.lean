/-
  A contract of the library at this program, by the kit.
-/
import Derived.Shelf.SlicesQ.Reverse
import Derived.Test.YteojbekkbgcmnabProg
namespace Go.Proofs
open Go.Shelf
def Try.revA_ren : Go.Shelf.Ren := ⟨fun | 35 => 105 | n => n, fun | 22 => 127 | 23 => 130 | 3 => 3 | 4 => 4 | 0 => 0 | n => n, fun | n => n⟩
theorem Try.revA : Go.Proofs.SlLaysE0.n35 Try.prog Try.revA_ren := {
  mixed := by kernel_rfl
  f35 := ⟨Try.f105.name, by decide, Try.func105.trans (congrArg some (by kernel_rfl))⟩
  t0 := Try.underlying0
  a0 := Try.isAgg0
  z0 := Try.sizeOf0
  v0 := Try.zeroValue0
  t3 := Try.underlying3
  a3 := Try.isAgg3
  z3 := Try.sizeOf3
  v3 := Try.zeroValue3
  t4 := Try.underlying4
  a4 := Try.isAgg4
  z4 := Try.sizeOf4
  v4 := Try.zeroValue4
  t22 := Try.underlying127
  a22 := Try.isAgg127
  z22 := Try.sizeOf127
  v22 := Try.zeroValue127 }
end Go.Proofs
