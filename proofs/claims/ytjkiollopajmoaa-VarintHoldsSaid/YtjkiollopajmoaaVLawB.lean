/-
  The statements' own helpers round a writer, and the chapter's examples.
-/
import Derived.Test.YtjkiollopajmoaaVWriterB
import Derived.Test.YtjkiollopajmoaaVLawA
namespace Go.Proofs.Ytjkiollopajmoaa.V
set_option linter.unusedVariables false
open Go.RowKit

/-- A new writer. -/
theorem wr_new (w : World) (base : Nat) (t : TypeId) (hb : base ≤ w.heap.size) : Wr (w.alloc (.cells #[.slice none 0 0] t)) base w.heap.size (.slice none 0 0) [] := by
  refine ⟨⟨t, ?_⟩, O8.nil _ _, by simp [Value.ownBlock]⟩
  show (w.heap.push _)[w.heap.size]? = _
  simp

set_option maxRecDepth 100000 in
set_option maxHeartbeats 400000 in
theorem lnum_any (n : Nat) (hn : n < 18446744073709551616) (x : Int) (hx : x = (n : Int)) (w : World) :
    Calls Try.prog 10 #[.int .u64 x] w fun e w' => e = .returned (.string ⟨(num n).toArray⟩) ∧ Below w.heap.size w w' := by
  subst hx
  have h0 := wr_new w w.heap.size 40 (Nat.le_refl _)
  have HN := Lib.hid (wnum_one _ w.heap.size w.heap.size _ [] n h0 hn (by simp) (by simp))
  clear h0
  have h10 := num_ten hn
  go_enter Try.func10, Try.ntmps10
  go_wp2_with fail
  refine (HN.out _ _ (by simp)).mono ?_
  rintro e w2 ⟨rfl, v2, hw2, hf2, _⟩
  have hb2 : Below w.heap.size w w2 := hf2.below ((Below.refl _ _).alloc (Nat.le_refl _) _) (by simp) (Nat.le_refl _) (by intro k hk; cases hk)
  have HB := Lib.hid (wbytes_any w2 _ _ v2 _ hw2 (by simp; omega))
  have HB2 := Lib.hid hb2
  clear hw2 hf2 hb2
  go_wp2_with fail
  refine HB.out.mono ?_
  rintro e w3 ⟨v3, rfl, ho3, hb3⟩
  obtain ⟨a, c, rfl, hrow, _⟩ := ho3.row
  have hcv := conv_row (P := Try.prog) hrow c 23 9 5 Try.underlying23 Try.underlying5 Try.underlying9
  simp only [List.nil_append] at hcv
  have HB3 := Lib.hid (HB2.out.trans (hb3.mono HB2.out.size))
  clear ho3 hrow hb3
  go_wp2
  go_ret
  exact ⟨rfl, HB3.out⟩

set_option maxHeartbeats 400000 in
theorem nines_any (c : UInt8) (x : Int) (hx : x = (c.toNat : Int)) (w : World) :
    Calls Try.prog 42 #[.int .u8 x] w fun e w' => e = .returned (.slice (some ⟨w.heap.size, 0, none⟩) 10 10) ∧ Row8 w' (some ⟨w.heap.size, 0, none⟩) [255, 255, 255, 255, 255, 255, 255, 255, 255, c] ∧ Below w.heap.size w w' := by
  subst hx
  go_enter Try.func42, Try.ntmps42
  go_wp2
  go_ret
  refine ⟨rfl, ?_, (Below.refl _ _).alloc (Nat.le_refl _) _⟩
  refine .inr ⟨_, _, rfl, fun i hi => ?_⟩
  have hi10 : i < 10 := by simpa using hi
  have hh : ∀ (C : Array Value) (t : TypeId), (w.alloc (.cells C t)).cell? ⟨w.heap.size, 0 + i, none⟩ = C[i]? := fun C t => by rw [Nat.zero_add]; exact World.cell?_alloc_new w C t i
  rw [hh]
  match i, hi10 with
  | 0, _ => rfl
  | 1, _ => rfl
  | 2, _ => rfl
  | 3, _ => rfl
  | 4, _ => rfl
  | 5, _ => rfl
  | 6, _ => rfl
  | 7, _ => rfl
  | 8, _ => rfl
  | 9, _ => rfl

end Go.Proofs.Ytjkiollopajmoaa.V
