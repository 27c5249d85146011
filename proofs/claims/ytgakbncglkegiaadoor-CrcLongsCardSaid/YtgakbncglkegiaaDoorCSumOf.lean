/-
  The bytes of a check sum, as the program makes them.
-/
import Derived.Test.YtgakbncglkegiaaDoorCUpd
import Derived.Test.YtgakbncglkegiaaDoorCOwn
namespace Go.Proofs.YtgakbncglkegiaaDoor.C
set_option linter.unusedVariables false
open Go.RowKit V

def part (z k : Nat) : List UInt8 := (be z).take k ++ List.replicate (4 - k) 0
theorem part_len {z k : Nat} (h : k ≤ 4) : (part z k).length = 4 := by unfold part; rw [List.length_append, List.length_take, be_length, List.length_replicate]; omega
theorem part_set (z : Nat) : ∀ k, k < 4 → (part z k).set k ((be z).getD k 0) = part z (k + 1) := by
  intro k hk
  have : k = 0 ∨ k = 1 ∨ k = 2 ∨ k = 3 := by omega
  rcases this with rfl | rfl | rfl | rfl <;> rfl
theorem be_at (z : Nat) (hz : z < 4294967296) : ∀ k, k < 4 → (((be z).getD k 0).toNat : Int) = (z : Int) / 2 ^ (8 * (3 - k)) % 256 := by
  intro k hk
  have : k = 0 ∨ k = 1 ∨ k = 2 ∨ k = 3 := by omega
  rcases this with rfl | rfl | rfl | rfl
  · show ((u (z / 16777216)).toNat : Int) = _
    rw [u_toNat (by omega)]
    simp
    omega
  · show ((u (z / 65536 % 256)).toNat : Int) = _
    rw [u_toNat (by omega)]
    simp
  · show ((u (z / 256 % 256)).toNat : Int) = _
    rw [u_toNat (by omega)]
    simp
  · show ((u (z % 256)).toNat : Int) = _
    rw [u_toNat (by omega)]
    simp

set_option maxRecDepth 100000 in
set_option maxHeartbeats 1000000 in
theorem sumOf_any (l : List UInt8) (a : Option Addr) (c : Nat) (w : World) (hL : Ld w) (hrow : Row8 w a l) (hlen : l.length ≤ 140737488355328) :
    Calls Tryd.prog 24 #[.slice a l.length c] w fun e w' => ∃ v, e = .returned v ∧ O8 w' w.heap.size v (be (sum l)) ∧ Below w.heap.size w w' := by
  have HC := Lib.hid (sum_any l a c w hL hrow hlen)
  have HZ := Lib.hid (sum_lt l)
  have hmk : (Instr.makeSlice 23 (.int .i64 4) (.int .i64 4)).run Tryd.prog w = .ok (.slice (some ⟨w.heap.size, 0, none⟩) 4 4) (w.alloc (.cells (madeCells #[.int .u8 0] 4) 5)) := mk8 4 (by omega) .i64 .i64 w
  clear hL hrow hlen
  generalize sum l = z at *
  go_enter Tryd.func24, Tryd.ntmps24
  go_wp2_with fail
  refine HC.out.mono ?_
  rintro e w' ⟨rfl, rfl⟩
  go_wp2_with fail
  have HO : Hid (O8 (w.alloc (.cells (madeCells #[.int .u8 0] 4) 5)) w.heap.size (.slice (some ⟨w.heap.size, 0, none⟩) 4 4) (part z 0)) := made8 w w.heap.size 4 (by omega) (Nat.le_refl _)
  have HB : Hid (Below w.heap.size w (w.alloc (.cells (madeCells #[.int .u8 0] 4) 5))) := (Below.refl _ _).alloc (Nat.le_refl _) _
  generalize w.alloc (.cells (madeCells #[.int .u8 0] 4) 5) = w1 at *
  obtain ⟨g, hg⟩ : ∃ g, g = w.heap.size := ⟨_, rfl⟩
  have HG := Lib.hid hg
  have HO2 : Hid (O8 w1 w.heap.size (.slice (some ⟨g, 0, none⟩) 4 4) (part z 0)) := by rw [hg]; exact HO
  clear HO hmk HC
  rw [← hg]
  clear hg
  go_loopw [5, 11] (fun i x wr => ∃ k : Nat, k ≤ 4 ∧ x = .int .i64 k ∧ Hid (O8 wr w.heap.size (.slice (some ⟨g, 0, none⟩) 4 4) (part z k)) ∧ Hid (Below w.heap.size w wr)) (fun i x _ => 4 - (intOf x).toNat)
  case atStart => exact ⟨0, by omega, rfl, HO2, HB⟩
  case round =>
    obtain ⟨k, hk, rfl, HO, HB⟩ := hrel
    by_cases hlt : k < 4
    · have hcell := cell8 HO.out k (by rw [part_len (by omega)]; exact hlt)
      have hfree := free8 HO.out k
      have hX := stored8 HO.out k ((be z).getD k 0)
      rw [part_set z k hlt] at hX
      have HX := Lib.hid hX
      clear hX
      have HY := Lib.hid (be_at z HZ.out k hlt)
      have HBel := Lib.hid (below_gb HB.out (gb_setCell wr g k (.int .u8 (((be z).getD k 0).toNat : Int))) HB.out.size (by rw [HG.out]; exact Nat.le_refl _))
      generalize (be z).getD k 0 = q at *
      generalize ((part z k)[k]'(_)).toNat = old at hcell
      have : k = 0 ∨ k = 1 ∨ k = 2 ∨ k = 3 := by omega
      rcases this with rfl | rfl | rfl | rfl
      all_goals
        have hy := HY.out.symm
        simp at hy
        go_wp2_with fail
        go_roundw
        case rel => first | exact ⟨1, by omega, rfl, HX, HBel⟩ | exact ⟨2, by omega, rfl, HX, HBel⟩ | exact ⟨3, by omega, rfl, HX, HBel⟩ | exact ⟨4, by omega, rfl, HX, HBel⟩
        case measure => simp [intOf]
    · obtain rfl : k = 4 := by omega
      go_wp2_with fail
      go_ret
      exact ⟨_, rfl, HO.out, HB.out⟩
end Go.Proofs.YtgakbncglkegiaaDoor.C
