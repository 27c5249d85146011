/-
  What the program's and the library's variables hold; four steps by the table.
-/
import Derived.Test.YtgakbncglkegiaaDoorRows
import Derived.Test.YtgakbncglkegiaaDoorVMem
import Derived.Test.YtgakbncglkegiaaDoorCHex
import Derived.Laws.BitsAllLaws
import Derived.WalkSmall
import Derived.OneCell
namespace Go.Proofs.YtgakbncglkegiaaDoor.C
set_option linter.unusedVariables false
open Go.RowKit V

/-- What the variables hold. -/
def Ld (w : World) : Prop :=
  (∀ d, d < 16 → w.cell? ⟨0, d, none⟩ = some (.int .u32 (nib d : Int))) ∧
  w.cell? ⟨6, 15, none⟩ = some (.int .u8 4) ∧
  (∃ ev, w.cell? ⟨3, 0, none⟩ = some ev ∧ (ev = .nilIface ∨ ∃ te pe, ev = .iface te pe)) ∧
  (∃ ev, w.cell? ⟨4, 0, none⟩ = some ev ∧ (ev = .nilIface ∨ ∃ te pe, ev = .iface te pe))
theorem Ld.keep {w w' : World} {B : Nat} (h : Ld w) (hb : Below B w w') (hB : w.heap.size ≤ B) : Ld w' := by
  obtain ⟨h0, h1, ⟨e2, h2, g2⟩, ⟨e3, h3, g3⟩⟩ := h
  refine ⟨fun d hd => ?_, ?_, ⟨e2, ?_, g2⟩, ⟨e3, ?_, g3⟩⟩
  · have := h0 d hd
    rw [hb.cell (p := ⟨_, _, none⟩) (Nat.lt_of_lt_of_le (lt_of_cell this) hB)]; exact this
  · rw [hb.cell (p := ⟨_, _, none⟩) (Nat.lt_of_lt_of_le (lt_of_cell h1) hB)]; exact h1
  · rw [hb.cell (p := ⟨_, _, none⟩) (Nat.lt_of_lt_of_le (lt_of_cell h2) hB)]; exact h2
  · rw [hb.cell (p := ⟨_, _, none⟩) (Nat.lt_of_lt_of_le (lt_of_cell h3) hB)]; exact h3
theorem Ld.below {w w' : World} (h : Ld w) (hb : Below w.heap.size w w') : Ld w' := h.keep hb (Nat.le_refl _)

theorem and15 (n : Nat) (h : n < 4294967296) : bits .and .u32 (n : Int) 15 = ((n % 16 : Nat) : Int) := by
  have := u32_and_nat n 15 h (by omega)
  have e : n &&& 15 = n % 16 := Nat.and_two_pow_sub_one_eq_mod n 4
  rw [e] at this
  exact this

theorem inv_nat (s : Nat) (h : s < 4294967296) : 4294967295 ^^^ s = 4294967295 - s := by
  have e : (BitVec.allOnes 32 ^^^ BitVec.ofNat 32 s) = ~~~(BitVec.ofNat 32 s) := by rw [BitVec.xor_comm, BitVec.xor_allOnes]
  have := congrArg BitVec.toNat e
  rw [BitVec.toNat_xor, BitVec.toNat_not, BitVec.toNat_allOnes, BitVec.toNat_ofNat, Nat.mod_eq_of_lt (by simpa using h)] at this
  simpa using this
theorem inv_int (s : Nat) (h : s < 4294967296) : bits .xor .u32 IntKind.u32.max (s : Int) = ((4294967295 - s : Nat) : Int) := by
  have := u32_xor_nat 4294967295 s (by omega) h
  rw [inv_nat s h] at this
  exact this

set_option maxHeartbeats 400000 in
theorem four_any (n : Nat) (hn : n < 4294967296) (w : World) (hL : Ld w) :
    Calls Tryd.prog 21 #[.int .u32 (n : Int)] w fun e w' => e = .returned (.int .u32 (bits4 n : Int)) ∧ w = w' := by
  have hd : n % 16 < 16 := Nat.mod_lt _ (by omega)
  have h1 := and15 n hn
  have h2 := hL.1 (n % 16) hd
  have h3 := u32_xor_nat (n / 16) (nib (n % 16)) (by omega) (nib_lt hd)
  rw [four, show ((n / 16 : Nat) : Int) = (n : Int) / 16 by omega] at h3
  have HN := Lib.hid hn
  clear hL hn
  generalize bits4 n = B at *
  generalize nib (n % 16) = K at *
  obtain ⟨d, hd'⟩ : ∃ d, d = n % 16 := ⟨_, rfl⟩
  rw [← hd'] at h1 h2 hd
  clear hd'
  go_enter Tryd.func21, Tryd.ntmps21
  go_wp2
  go_ret
  exact ⟨rfl, rfl⟩
end Go.Proofs.YtgakbncglkegiaaDoor.C
