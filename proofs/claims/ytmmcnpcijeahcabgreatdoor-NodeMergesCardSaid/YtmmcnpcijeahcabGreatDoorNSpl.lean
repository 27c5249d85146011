/-
  The parts of a string between spaces: the library's SplitN at 5.
-/
import Derived.Test.YtmmcnpcijeahcabGreatDoorNPure
import Derived.Test.YtmmcnpcijeahcabGreatDoorDVal
import Derived.Test.YtmmcnpcijeahcabGreatDoorDNum
import Derived.Shelf.Strings.SplitCore
import Derived.Shelf.Strings.Count
import Derived.Lib.SplitLaws
namespace Go.Proofs.YtmmcnpcijeahcabGreatDoor.Nd
set_option linter.unusedVariables false
open Go.RowKit V Go.Sort D

/-- The cells behind an address hold these strings. -/
def RowW (w : World) (g : Nat) (l : List (List UInt8)) : Prop := ∀ i (h : i < l.length), w.cell? ⟨g, i, none⟩ = some (.string ⟨l[i].toArray⟩)
theorem RowW.keep {w w' : World} {g : Nat} {l : List (List UInt8)} (h : RowW w g l) (hb : Below w.heap.size w w') : RowW w' g l := fun i hi => (hb.cell (p := ⟨g, i, none⟩) (lt_of_cell (h i hi))).trans (h i hi)

set_option maxRecDepth 100000 in
theorem index_sp (s : ByteArray) (w : World) : Calls Tryz.prog 77 #[.string s, .string ⟨#[32]⟩] w fun e w' => e = .returned (.int .i64 (Lib.indexB s ⟨#[32]⟩)) ∧ w' = w := by
  have HI := Lib.hid (Tryz.stringslite_Index_one s 32 w)
  have HE : Hid (Lib.indexB s ⟨#[32]⟩ = Lib.indexByte s.data.toList 32) := Lib.index_one s.data.toList 32
  rw [← HE.out] at HI
  clear HE
  generalize Lib.indexB s ⟨#[32]⟩ = z at *
  go_enter Tryz.func77, Tryz.ntmps77
  go_wp2_with fail
  refine HI.out.mono ?_
  rintro e w' ⟨rfl, rfl⟩
  go_wp2_with fail
  go_ret
  exact ⟨rfl, rfl⟩

theorem index_list {l : List UInt8} : Lib.indexByte l 32 = if (32 : UInt8) ∈ l then ((l.takeWhile (· ≠ 32)).length : Int) else -1 := by
  induction l with
  | nil => rfl
  | cons c t ih =>
    rw [Lib.indexByte]
    by_cases hc : c = 32
    · subst hc
      simp
    · have h1 : (c == 32) = false := by rw [beq_eq_false_iff_ne]; exact hc
      by_cases ht : (32 : UInt8) ∈ t
      · have h2 : (32 : UInt8) ∈ c :: t := by simp [ht]
        rw [if_pos ht] at ih
        have hb : (Lib.indexByte t 32 == -1) = false := by rw [beq_eq_false_iff_ne, ih]; omega
        rw [h1, hb, if_neg (by simp), if_neg (by simp), if_pos h2, ih, List.takeWhile_cons, if_pos (by simp [hc])]
        simp
      · have h2 : (32 : UInt8) ∉ c :: t := fun h => (List.mem_cons.1 h).elim (fun e => hc e.symm) ht
        rw [if_neg ht] at ih
        rw [h1, ih, if_neg (by simp), if_pos (by decide), if_neg h2]
theorem tw_take (l : List UInt8) : l.take (l.takeWhile (· ≠ 32)).length = l.takeWhile (· ≠ 32) := by
  conv => lhs; arg 2; rw [← List.takeWhile_append_dropWhile (p := (· ≠ 32)) (l := l)]
  rw [List.take_left' rfl]
theorem tw_drop (l : List UInt8) : l.drop (l.takeWhile (· ≠ 32)).length = l.dropWhile (· ≠ 32) := by
  conv => lhs; arg 2; rw [← List.takeWhile_append_dropWhile (p := (· ≠ 32)) (l := l)]
  rw [List.drop_left' rfl]
/-- The library's parts. -/
theorem split_w : ∀ (k : Nat) (s : ByteArray), (Lib.splitB ⟨#[32]⟩ 0 k s).map (·.data.toList) = splitW k s.data.toList
  | 0, s => rfl
  | k + 1, s => by
    have hi : Lib.indexB s ⟨#[32]⟩ = if (32 : UInt8) ∈ s.data.toList then ((s.data.toList.takeWhile (· ≠ 32)).length : Int) else -1 := (Lib.index_one s.data.toList 32).trans index_list
    rw [splitW]
    by_cases h : (32 : UInt8) ∈ s.data.toList
    · rw [if_pos h] at hi ⊢
      rw [Lib.splitB_hit _ _ _ _ _ hi, List.map_cons, split_w k]
      congr 1
      · rw [Lib.extract_data, Nat.add_zero, Nat.sub_zero, List.drop_zero]
        exact tw_take _
      · rw [Lib.extract_data, List.take_of_length_le (by rw [List.length_drop, Lib.size_eq]; exact Nat.le_refl _)]
        rw [show (⟨#[32]⟩ : ByteArray).size = 1 from rfl, ← List.drop_drop, tw_drop]
    · rw [if_neg h] at hi ⊢
      rw [Lib.splitB_miss _ _ _ _ hi]
      rfl

theorem cell_new (w : World) (cs : Array Value) (t : TypeId) (i : Nat) (v : Value) (h : cs[i]? = some v) : (w.alloc (.cells cs t)).cell? ⟨w.heap.size, i, none⟩ = some v := by
  unfold World.cell? World.alloc
  simp [h]
theorem infoS : (Tryz.prog.info? 9).map (fun i => (i.zero, i.size, i.bytes)) = some (some (.string ByteArray.empty), 1, 16) := by kernel_rfl

/-- What SplitN hands back: all parts, or five of more. -/
def Parts (l : List UInt8) (ps : List (List UInt8)) : Prop := ps = wordsL l ∨ (ps.length = 5 ∧ 5 < (wordsL l).length)
theorem parts_of (l : List UInt8) (N : Nat) (hN : N = min 5 (l.length + 1)) : Parts l (splitW (N - 1) l) := by
  rcases splitW_words (N - 1) l with h | ⟨h1, h2⟩
  · exact .inl h
  · have := words_len l
    right
    omega

set_option maxRecDepth 100000 in
set_option maxHeartbeats 1000000 in
theorem gen_any (l : List UInt8) (w : World) (hl : l.length ≤ 1000000) :
    Calls Tryz.prog 62 #[.string ⟨l.toArray⟩, .string ⟨#[32]⟩, .int .i64 0, .int .i64 5] w fun e w' =>
      ∃ ps c, e = .returned (.slice (some ⟨w.heap.size, 0, none⟩) ps.length c) ∧ ps.length ≤ c ∧ RowW w' w.heap.size ps ∧ Parts l ps ∧ w.heap.size < w'.heap.size ∧ Below w.heap.size w w' := by
  have hsz := ba_size l
  obtain ⟨N, hN⟩ : ∃ N, N = min 5 (l.length + 1) := ⟨_, rfl⟩
  have hC := Any.strings_Count_one (P := Tryz.prog) (ρ := Tryz.laysM147_ren) { Tryz.laysM147 with } ⟨l.toArray⟩ 32 w
  have h := Any.strings_genSplit_core (P := Tryz.prog) (ρ := Tryz.laysM147_ren) { Tryz.laysM147 with } infoS ⟨l.toArray⟩ ⟨#[32]⟩ 0 5 N w (by omega) (by decide) (by decide)
    (fun x c _ => index_sp x _) (hC.mono fun e w' ⟨h1, h2⟩ => ⟨by rw [h1]; show Ending.returned (Value.int .i64 ((Lib.countByte _ _ : Nat) : Int)) = Ending.returned (Value.int .i64 ((Lib.count _ [32] : Nat) : Int)); rw [Lib.count_one]; rfl, h2⟩) (by decide) (by decide) (by rw [if_neg (by decide)]; omega)
  refine h.mono ?_
  rintro e w' ⟨rfl, rfl⟩
  have hlen := Lib.splitB_length_le ⟨#[32]⟩ 0 (N - 1) ⟨l.toArray⟩
  have hmap := split_w (N - 1) ⟨l.toArray⟩
  generalize Lib.splitB ⟨#[32]⟩ 0 (N - 1) ⟨l.toArray⟩ = xs at *
  have hp := parts_of l N hN
  have hml : (xs.map (·.data.toList)).length = xs.length := List.length_map _
  refine ⟨xs.map (·.data.toList), N, by rw [hml], by rw [hml]; omega, fun i hi => ?_, by rw [hmap]; exact hp, by simp, bel_box _ _⟩
  rw [List.length_map] at hi
  have hc : (Lib.cellsOf xs N)[i]? = some (.string xs[i]) := by
    unfold Lib.cellsOf
    rw [List.getElem?_toArray, List.getElem?_append_left (by rw [List.length_map]; exact hi), List.getElem?_map, List.getElem?_eq_getElem hi]
    rfl
  rw [List.getElem_map]
  exact cell_new w _ _ i _ hc
set_option maxRecDepth 100000 in
set_option maxHeartbeats 1000000 in
theorem splitN_any (l : List UInt8) (w : World) (hl : l.length ≤ 1000000) :
    Calls Tryz.prog 53 #[.string ⟨l.toArray⟩, .string ⟨#[32]⟩, .int .i64 5] w fun e w' =>
      ∃ ps c, e = .returned (.slice (some ⟨w.heap.size, 0, none⟩) ps.length c) ∧ ps.length ≤ c ∧ RowW w' w.heap.size ps ∧ Parts l ps ∧ w.heap.size < w'.heap.size ∧ Below w.heap.size w w' := by
  have HG := Lib.hid (gen_any l w hl)
  clear hl
  generalize hs : (⟨l.toArray⟩ : ByteArray) = S at *
  clear hs
  go_enter Tryz.func53, Tryz.ntmps53
  go_wp2_with fail
  refine HG.out.mono ?_
  rintro e w' ⟨ps, c, rfl, h⟩
  have H := Lib.hid h
  clear h HG
  go_wp2_with fail
  go_ret
  exact ⟨ps, c, rfl, H.out⟩
end Go.Proofs.YtmmcnpcijeahcabGreatDoor.Nd
