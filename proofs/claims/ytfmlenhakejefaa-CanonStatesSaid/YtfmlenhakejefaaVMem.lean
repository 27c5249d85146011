/-
  Bytes in memory: what a slice reads as, and what stays when other memory is written.
-/
import Derived.Below
import Derived.WalkKit
import Derived.WalkSpells
import Derived.WalkLawsBesides
import Derived.Deep.Draws
import Derived.Deep.QuietTactic
import Derived.BigQuiet
import Derived.Lib.Hide
import Derived.Lib.Strings
namespace Go.Proofs.Ytfmlenhakejefaa.V
set_option linter.unusedVariables false
open Go.RowKit

/-- The cells behind an address hold the bytes l. -/
def Row8 (w : World) (a : Option Addr) (l : List UInt8) : Prop :=
  l = [] ∨ ∃ b o, a = some ⟨b, o, none⟩ ∧ ∀ i (h : i < l.length), w.cell? ⟨b, o + i, none⟩ = some (.int .u8 (l[i].toNat : Int))

theorem Row8.nil (w : World) (a : Option Addr) : Row8 w a [] := .inl rfl

theorem lt_of_cell {w : World} {a : Addr} {v : Value} (h : w.cell? a = some v) : a.block < w.heap.size := by
  rcases Nat.lt_or_ge a.block w.heap.size with h' | h'
  · exact h'
  · simp [World.cell?, h'] at h

/-- What was there stays, whatever is made. -/
theorem Row8.keep {w w' : World} {a : Option Addr} {l : List UInt8} (h : Row8 w a l) (hb : Below w.heap.size w w') : Row8 w' a l := by
  rcases h with h | ⟨b, o, rfl, h⟩
  · exact .inl h
  · refine .inr ⟨b, o, rfl, fun i hi => ?_⟩
    have := h i hi
    rw [hb.cell (p := ⟨b, o + i, none⟩) (lt_of_cell this)]
    exact this

theorem Row8.drewN {w : World} {a : Option Addr} {l : List UInt8} (h : Row8 w a l) (q : Nat) : Row8 (w.drewN q) a l := by
  rcases h with h | ⟨b, o, rfl, h⟩
  · exact .inl h
  · exact .inr ⟨b, o, rfl, fun i hi => by simpa using h i hi⟩

/-- A part of a row. -/
theorem Row8.part {w : World} {b o : Nat} {l : List UInt8} (h : Row8 w (some ⟨b, o, none⟩) l) (i n : Nat) (hn : i + n ≤ l.length) : Row8 w (some ⟨b, o + i, none⟩) ((l.drop i).take n) := by
  rcases h with rfl | ⟨b', o', e, h⟩
  · exact .inl (by simp)
  · simp only [Option.some.injEq, Addr.mk.injEq] at e
    obtain ⟨rfl, rfl, _⟩ := e
    refine .inr ⟨b, o + i, rfl, fun j hj => ?_⟩
    have hj' : j < n := by
      rw [List.length_take, List.length_drop] at hj
      omega
    rw [Nat.add_assoc, h (i + j) (by omega)]
    simp

/-! ### What is kept when one block may be written -/
theorem gb_refl (w : World) (row : Option Nat) : w.grownBy w row := ⟨rfl, rfl, rfl, Nat.le_refl _, fun _ _ _ => rfl⟩
theorem gb_trans {a b c : World} {row : Option Nat} (h : a.grownBy b row) (k : b.grownBy c row) : a.grownBy c row :=
  ⟨k.os.trans h.os, k.tape.trans h.tape, k.output.trans h.output, Nat.le_trans h.size k.size, fun i hi hr => (k.block i (Nat.lt_of_lt_of_le hi h.size) hr).trans (h.block i hi hr)⟩
theorem gb_below {w w' : World} (h : Below w.heap.size w w') (row : Option Nat) : w.grownBy w' row := ⟨h.os, h.tape, h.output, h.size, fun i hi _ => h.block i hi⟩
theorem gb_drewN (w : World) (n : Nat) (row : Option Nat) : w.grownBy (w.drewN n) row := ⟨rfl, rfl, rfl, Nat.le_refl _, fun _ _ _ => rfl⟩
theorem gb_setCell (w : World) (r o : Nat) (u : Value) : w.grownBy (w.setCell ⟨r, o, none⟩ u) (some r) :=
  ⟨rfl, rfl, rfl, by simp [World.setCell], fun k _ hne => Below.heap_setCell w ⟨r, o, none⟩ u k (fun e => hne (by simp [e]))⟩
theorem gb_alloc (w : World) (o : Obj) (row : Option Nat) : w.grownBy (w.alloc o) row := World.grownBy_alloc w o row
/-- A row that is new may be written: of what was there nothing has turned. -/
theorem below_gb {B : Nat} {a w w' : World} {r : Nat} (h : Below B a w) (hg : w.grownBy w' (some r)) (hB : B ≤ w.heap.size) (hr : B ≤ r) : Below B a w' :=
  h.grown hg hB (fun k hk => by simp only [Option.some.injEq] at hk; omega)

theorem Row8.gb {w w' : World} {a : Option Addr} {l : List UInt8} {r : Nat} (h : Row8 w a l) (hg : w.grownBy w' (some r)) (hne : ∀ b o, a = some ⟨b, o, none⟩ → l ≠ [] → b ≠ r) : Row8 w' a l := by
  by_cases hl : l = []
  · exact .inl hl
  · obtain ⟨b, o, rfl, hc⟩ := h.resolve_left hl
    refine .inr ⟨b, o, rfl, fun i hi => ?_⟩
    have h' := hc i hi
    rw [World.cell?_of_block (w := w) (hg.block b (lt_of_cell h') (by have := hne b o rfl hl; simpa using this))]
    exact h'

/-! ### A reader in memory -/
/-- Block r is a reader of the string s, of which p bytes were read. -/
def Rd (w : World) (r : Nat) (s : ByteArray) (p : Nat) : Prop :=
  (∃ T, w.heap[r]? = some (.cells #[.string s, .int .i64 (p : Int), .bool true] T (0, 0))) ∧ p ≤ s.size ∧ s.size ≤ 9223372036854775807
/-- The pointer is nil, or block r is a zero reader. -/
def Zr (w : World) (a : Option Addr) : Prop := a = none ∨ ∃ r T s p, a = some ⟨r, 0, none⟩ ∧ w.heap[r]? = some (.cells #[.string s, .int .i64 p, .bool false] T (0, 0))

section
variable {w w' : World} {r p : Nat} {s : ByteArray}
theorem Rd.lt (h : Rd w r s p) : r < w.heap.size := by
  obtain ⟨⟨T, h⟩, _⟩ := h
  exact (Array.getElem?_eq_some_iff.1 h).1
theorem Rd.c0 (h : Rd w r s p) : w.cell? ⟨r, 0, none⟩ = some (.string s) := by
  obtain ⟨⟨T, h⟩, _⟩ := h
  simp [World.cell?, h]
theorem Rd.c1 (h : Rd w r s p) : w.cell? ⟨r, 1, none⟩ = some (.int .i64 (p : Int)) := by
  obtain ⟨⟨T, h⟩, _⟩ := h
  simp [World.cell?, h]
theorem Rd.c2 (h : Rd w r s p) : w.cell? ⟨r, 2, none⟩ = some (.bool true) := by
  obtain ⟨⟨T, h⟩, _⟩ := h
  simp [World.cell?, h]
theorem Rd.free (h : Rd w r s p) (o : Nat) : w.frozen? ⟨r, o, none⟩ = false := by
  obtain ⟨⟨T, h⟩, _⟩ := h
  simp [World.frozen?, h]
theorem Rd.of_heap (h : Rd w r s p) (hh : w'.heap[r]? = w.heap[r]?) : Rd w' r s p := ⟨by obtain ⟨⟨T, h⟩, _⟩ := h; exact ⟨T, by rw [hh, h]⟩, h.2⟩
theorem Rd.drewN (h : Rd w r s p) (n : Nat) : Rd (w.drewN n) r s p := h.of_heap rfl
theorem Rd.keep (h : Rd w r s p) (hb : Below w.heap.size w w') : Rd w' r s p := h.of_heap (hb.block r h.lt)
theorem Rd.gb {r' : Nat} (h : Rd w r s p) (hg : w.grownBy w' (some r')) (hne : r ≠ r') : Rd w' r s p := h.of_heap (hg.block r h.lt (by simpa using hne))
theorem Rd.set (h : Rd w r s p) {q : Nat} (hq : q ≤ s.size) : Rd (w.setCell ⟨r, 1, none⟩ (.int .i64 (q : Int))) r s q := by
  obtain ⟨⟨T, h⟩, hp, hs⟩ := h
  refine ⟨⟨T, ?_⟩, hq, hs⟩
  simp [World.setCell, Array.getElem?_modify, h]
/-- A slice of bytes does not lie in a reader. -/
theorem Rd.apart {a : Option Addr} {l : List UInt8} (h : Rd w r s p) (hrow : Row8 w a l) : ∀ b o, a = some ⟨b, o, none⟩ → l ≠ [] → b ≠ r := by
  rintro b o rfl hl rfl
  obtain ⟨b', o', e, hc⟩ := hrow.resolve_left hl
  simp only [Option.some.injEq, Addr.mk.injEq] at e
  obtain ⟨rfl, rfl, _⟩ := e
  obtain ⟨⟨T, h⟩, _⟩ := h
  have h0 := hc 0 (List.length_pos_iff.2 hl)
  simp only [World.cell?, h, Nat.add_zero] at h0
  rcases o with _ | _ | _ | o
  all_goals simp at h0
end

theorem Row8.drew {w : World} {a : Option Addr} {l : List UInt8} (h : Row8 w a l) : Row8 w.drew a l := h
theorem Rd.drew {w : World} {r p : Nat} {s : ByteArray} (h : Rd w r s p) : Rd w.drew r s p := h
theorem gb_drew {a w : World} {row : Option Nat} (h : a.grownBy w row) : a.grownBy w.drew row := ⟨h.os, h.tape, h.output, h.size, h.block⟩

theorem part_bytes (s : ByteArray) (p n : Nat) : (s.extract p (p + n)).data.toList = (s.data.toList.drop p).take n := by
  rw [Lib.extract_data]
  congr 1
  omega

theorem drop_bytes (s : ByteArray) (p : Nat) : (s.extract p s.size).data.toList = s.data.toList.drop p := by
  rw [Lib.extract_data, List.take_of_length_le]
  rw [List.length_drop]
  simp

end Go.Proofs.Ytfmlenhakejefaa.V
