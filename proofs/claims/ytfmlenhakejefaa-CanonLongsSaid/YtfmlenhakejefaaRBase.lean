/-
  Numbers as hexadecimal text: the library's way.
-/
import Derived.Test.YtfmlenhakejefaaVOwn
import Derived.Test.YtfmlenhakejefaaMGen
import Derived.Test.YtfmlenhakejefaaRHex
import Derived.Laws.BitsAllLaws
import Derived.WalkSmall
import Derived.OneCell
namespace Go.Proofs.Ytfmlenhakejefaa.R
set_option linter.unusedVariables false
open Go.RowKit V

theorem and_neg16 : bits .and .u64 16 18446744073709551600 = 16 := by kernel_rfl
theorem and_15i : bits .and .i64 16 15 = 0 := by kernel_rfl
theorem and15 (n : Nat) (h : n < 18446744073709551616) : bits .and .u64 (n : Int) 15 = ((n % 16 : Nat) : Int) := by
  have := u64_and_nat n 15 h (by omega)
  have e : n &&& 15 = n % 16 := Nat.and_two_pow_sub_one_eq_mod n 4
  rw [e] at this
  exact this

theorem wneg16 : IntKind.u64.wrap (-16) = 18446744073709551600 := by kernel_rfl
theorem wmul16 : IntKind.u64.wrap (16 * 285870213051353865) = 4573923408821661840 := by kernel_rfl
theorem wmul16' : IntKind.u64.wrap 4573923408821661840 = 4573923408821661840 := by kernel_rfl
/-- Block g is an array of 65 bytes, the last ones of which are l. -/
def Buf (w : World) (g : Nat) (l : List UInt8) : Prop :=
  ∃ (C : Array Value) (T : TypeId), w.heap[g]? = some (.cells C T (0, 0)) ∧ C.size = 65 ∧ l.length ≤ 65 ∧ ∀ j, j < l.length → C[65 - l.length + j]? = some (.int .u8 ((l.getD j 0).toNat : Int))
theorem Buf.cell {w : World} {g : Nat} {l : List UInt8} (h : Buf w g l) (k : Nat) (hk : k < 65) : ∃ v, w.cell? ⟨g, k, none⟩ = some v := by
  obtain ⟨C, T, h1, h2, _⟩ := h
  exact ⟨C[k]'(by omega), by simp [World.cell?, h1, h2, hk]⟩
theorem Buf.free {w : World} {g : Nat} {l : List UInt8} (h : Buf w g l) (k : Nat) : w.frozen? ⟨g, k, none⟩ = false := by
  obtain ⟨C, T, h1, _⟩ := h
  simp [World.frozen?, h1]
theorem Buf.put {w : World} {g : Nat} {l : List UInt8} (h : Buf w g l) (c : UInt8) (k : Nat) (hk : k + l.length + 1 = 65) : Buf (w.setCell ⟨g, k, none⟩ (.int .u8 (c.toNat : Int))) g (c :: l) := by
  obtain ⟨C, T, h1, h2, h3, h4⟩ := h
  refine ⟨C.setIfInBounds k (.int .u8 (c.toNat : Int)), T, ?_, by simpa using h2, by rw [List.length_cons]; omega, ?_⟩
  · simp [World.setCell, Array.getElem?_modify, h1]
  · intro j hj
    have e : 65 - (c :: l).length = k := by rw [List.length_cons]; omega
    rw [e]
    rcases j with _ | j
    · have hkk : k < C.size := by omega
      simp [hkk]
    · have := h4 j (by simpa using hj)
      rw [Array.getElem?_setIfInBounds_ne (by omega), show k + (j + 1) = 65 - l.length + j by omega, this]
      simp
theorem Buf.row {w : World} {g : Nat} {l : List UInt8} (h : Buf w g l) (k : Nat) (hk : k + l.length = 65) : Row8 w (some ⟨g, k, none⟩) l := by
  obtain ⟨C, T, h1, h2, h3, h4⟩ := h
  by_cases hl : l = []
  · exact .inl hl
  refine .inr ⟨g, k, rfl, fun i hi => ?_⟩
  have := h4 i hi
  rw [show 65 - l.length + i = k + i by omega] at this
  simp only [World.cell?, h1]
  simp [this, hi]

def hex (n : Nat) : List UInt8 := (digs n).map dl
theorem hex_big {n : Nat} (h : ¬ n < 16) : hex n = hex (n / 16) ++ [dl (n % 16)] := by unfold hex; rw [digs_big h]; simp
theorem hex_small {n : Nat} (h : n < 16) : hex n = [dl n] := by unfold hex; rw [digs_small h]; rfl
theorem hex_pos (n : Nat) : 1 ≤ (hex n).length := by unfold hex; rw [List.length_map]; exact digs_pos n
theorem hex_len {n : Nat} (h : n < 18446744073709551616) : (hex n).length ≤ 16 := by unfold hex; rw [List.length_map]; exact digs_len n 16 (by simpa using h) (by omega)

theorem idx_dig (d : Nat) (h : d < 16) (w : World) :
    (Instr.index 9 (.string { data := #[48, 49, 50, 51, 52, 53, 54, 55, 56, 57, 97, 98, 99, 100, 101, 102, 103, 104, 105, 106, 107, 108, 109, 110, 111, 112, 113, 114, 115, 116, 117, 118, 119, 120, 121, 122] }) (.int .u64 (d : Int))).run Try.prog w = .ok (.int .u8 ((dl d).toNat : Int)) w := by
  have : d = 0 ∨ d = 1 ∨ d = 2 ∨ d = 3 ∨ d = 4 ∨ d = 5 ∨ d = 6 ∨ d = 7 ∨ d = 8 ∨ d = 9 ∨ d = 10 ∨ d = 11 ∨ d = 12 ∨ d = 13 ∨ d = 14 ∨ d = 15 := by omega
  rcases this with rfl | rfl | rfl | rfl | rfl | rfl | rfl | rfl | rfl | rfl | rfl | rfl | rfl | rfl | rfl | rfl
  all_goals (show Sem.run _ _ _ = _; kernel_rfl)

end Go.Proofs.Ytfmlenhakejefaa.R
