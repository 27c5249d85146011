/-
  The examples: what they ask, and what is answered.
-/
import Derived.Test.YtgakbncglkegiaaDoorCLaw
namespace Go.Proofs.YtgakbncglkegiaaDoor.C
set_option linter.unusedVariables false
open Go.RowKit V

theorem bel_al {w w1 w2 : World} {o : Obj} (h : Hid (Below w.heap.size w w1)) (hb : Below (w1.alloc o).heap.size (w1.alloc o) w2) : Hid (Below w.heap.size w w2) :=
  (h.out.alloc h.out.size o).trans (hb.mono (h.out.alloc h.out.size o).size)
theorem bel_tr {w w1 w2 : World} (h : Hid (Below w.heap.size w w1)) (hb : Below w1.heap.size w1 w2) : Hid (Below w.heap.size w w2) := h.out.trans (hb.mono h.out.size)
theorem bel_a {w w1 : World} (o : Obj) (h : Hid (Below w.heap.size w w1)) : Hid (Below w.heap.size w (w1.alloc o)) := h.out.alloc h.out.size o
/-- A new row of bytes that are written out. -/
theorem lit8 (w : World) (l : List UInt8) (C : Array Value) (t : TypeId) (hC : C.toList = cells8 l) : Row8 (w.alloc (.cells C t)) (some ⟨w.heap.size, 0, none⟩) l := by
  by_cases hl : l = []
  · exact .inl hl
  refine .inr ⟨_, _, rfl, fun i hi => ?_⟩
  rw [Nat.zero_add, World.cell?_alloc_new w C t i, ← Array.getElem?_toList, hC]
  simp [cells8, hi]

theorem sum_lit (l : List UInt8) (n : Nat) (z : Int) (hn : n = l.length) (hz : ((sum l : Nat) : Int) = z) (a : Option Addr) (c : Nat) (w : World) (hL : Ld w) (hrow : Row8 w a l) (hlen : l.length ≤ 100) :
    Calls Tryd.prog 9 #[.slice a n c] w fun e w' => e = .returned (.int .u32 z) ∧ w = w' := by
  subst hn hz
  exact sum_any l a c w hL hrow (by omega)
theorem upd_lit (s : Nat) (sz : Int) (hs : s < 4294967296) (hsz : (s : Int) = sz) (l : List UInt8) (n : Nat) (z : Int) (hn : n = l.length) (hz : ((upd s l : Nat) : Int) = z) (a : Option Addr) (c : Nat) (w : World) (hL : Ld w) (hrow : Row8 w a l) (hlen : l.length ≤ 100) :
    Calls Tryd.prog 11 #[.int .u32 sz, .slice a n c] w fun e w' => e = .returned (.int .u32 z) ∧ w = w' := by
  subst hn hz hsz
  exact update_any s hs l a c w hL hrow (by omega)
theorem text_lit (n : Nat) (z : Int) (hn : n < 4294967296) (hz : (n : Int) = z) (l : List UInt8) (hl : txt n = l) (w : World) (hL : Ld w) :
    Calls Tryd.prog 17 #[.int .u32 z] w fun e w' => e = .returned (.string ⟨l.toArray⟩) ∧ Below w.heap.size w w' := by
  subst hz hl
  exact text_any n hn w hL

theorem k_sum0 : sum [] = 0 := by kernel_rfl
theorem k_sum1 : sum [97] = 3251651376 := by kernel_rfl
theorem k_sum3 : sum [97, 98, 99] = 910901175 := by kernel_rfl
theorem k_sum9 : sum [49, 50, 51, 52, 53, 54, 55, 56, 57] = 3808858755 := by kernel_rfl
theorem k_sum5 : sum [49, 50, 51, 52, 53] = 416359221 := by kernel_rfl
theorem k_upd : upd 416359221 [54, 55, 56, 57] = 3808858755 := by kernel_rfl
theorem k_txt0 : txt 0 = [48, 48, 48, 48, 48, 48, 48, 48] := by kernel_rfl
theorem k_txt1 : txt 3251651376 = [99, 49, 100, 48, 52, 51, 51, 48] := by kernel_rfl
theorem k_txt3 : txt 910901175 = [51, 54, 52, 98, 51, 102, 98, 55] := by kernel_rfl
theorem k_txt9 : txt 3808858755 = [101, 51, 48, 54, 57, 50, 56, 51] := by kernel_rfl
theorem k_app : app [97] = [97, 193, 208, 67, 48] := by kernel_rfl
theorem k_opn5 : opn [97, 193, 208, 67, 48] = ([97], 0) := by rw [← k_app]; exact opn_app [97]
theorem k_opn0 : opn [] = ([], 4) := by kernel_rfl
theorem k_opn4 : opn [0, 0, 0, 0] = ([], 0) := by kernel_rfl
theorem k_opn41 : opn [0, 0, 0, 1] = ([], 10) := by kernel_rfl
theorem k_opn51 : opn [97, 193, 208, 67, 49] = ([], 10) := by kernel_rfl
theorem k_not : ∀ n : Nat, n < 4294967296 → [67, 49, 68, 48, 52, 51, 51, 48] ≠ txt n := prs_none (by kernel_rfl)
end Go.Proofs.YtgakbncglkegiaaDoor.C
