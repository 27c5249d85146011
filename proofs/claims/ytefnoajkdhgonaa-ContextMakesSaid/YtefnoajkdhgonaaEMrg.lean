/-
  The reference's Of and Merge.
-/
import Derived.Test.YtefnoajkdhgonaaERaise
namespace Go.Proofs.Ytefnoajkdhgonaa.E
set_option linter.unusedVariables false
open Go.RowKit V Go.Sort D

/-- A slice whose dots are these. -/
def SV (w : World) (v : Value) (l : List Dt) : Prop := ∃ a c, v = .slice a l.length c ∧ RowD w a l ∧ (a = none → c = 0) ∧ l.length ≤ c
theorem SV.nil (w : World) : SV w (.slice none 0 0) [] := ⟨none, 0, rfl, .inl rfl, fun _ => rfl, Nat.le_refl _⟩
theorem SV.keep {w w' : World} {v : Value} {l : List Dt} (h : SV w v l) (hb : Below w.heap.size w w') : SV w' v l := by
  obtain ⟨a, c, e, hr, hn, hc⟩ := h
  exact ⟨a, c, e, hr.keep hb, hn, hc⟩
theorem SV.of_od {w : World} {base : Nat} {v : Value} {l : List Dt} (h : OD w base E v l) : SV w v l := by
  obtain ⟨a, c, e, hr, hn, hc, -⟩ := h.row
  exact ⟨a, c, e, hr, fun h => (hn h).1, hc⟩

theorem raise_len1 {d : Dt} : ∀ {v : List Dt}, (raiseW d true v).length ≤ v.length ∧ (raiseW d false v).length ≤ v.length + 1
  | [] => by constructor <;> simp [raiseW]
  | x :: t => by
    obtain ⟨h1, h2⟩ := raise_len1 (d := d) (v := t)
    have k : (if x.1 ≠ d.1 then [x] else []).length ≤ 1 := by split <;> simp
    constructor
    · rw [raise_step, if_neg (by simp)]
      simp only [List.length_append, List.length_cons, List.length_nil, Bool.true_or]
      omega
    · rw [raise_step]
      by_cases h : d.1 ≤ x.1
      · rw [if_pos ⟨rfl, h⟩, decide_eq_true h]
        simp only [List.length_append, List.length_cons, List.length_nil, Bool.false_or]
        omega
      · rw [if_neg (fun e => h e.2), decide_eq_false h]
        simp only [List.length_append, List.length_cons, List.length_nil, Bool.false_or]
        omega
theorem raiseR_len (v : List Dt) (d : Dt) : (raiseR v d).length ≤ v.length + 1 := by
  unfold raiseR
  split
  · omega
  · exact raise_len1.2
theorem fold_raise_len : ∀ (l v : List Dt), (l.foldl raiseR v).length ≤ v.length + l.length
  | [], v => by simp
  | d :: t, v => by
    have h1 := fold_raise_len t (raiseR v d)
    have h2 := raiseR_len v d
    simp only [List.foldl_cons, List.length_cons]
    omega
theorem fold_take {l : List Dt} {k : Nat} (h : k < l.length) (f : List Dt → Dt → List Dt) (s : List Dt) : (l.take (k + 1)).foldl f s = f ((l.take k).foldl f s) l[k] := by
  rw [List.take_succ_eq_append_getElem h, List.foldl_append]
  rfl
theorem fold_take_len (l s : List Dt) (k : Nat) : ((l.take k).foldl raiseR s).length ≤ s.length + l.length := by
  have := fold_raise_len (l.take k) s
  rw [List.length_take] at this
  omega

set_option maxRecDepth 100000 in
set_option maxHeartbeats 1000000 in
theorem merge_ref (xs ys : List Dt) (a b : Option Addr) (c d : Nat) (w : World) (hx : RowD w a xs) (hn : a = none → c = 0) (hlc : xs.length ≤ c) (hy : RowD w b ys) (hlx : xs.length ≤ 400000) (hly : ys.length ≤ 400000) :
    Calls Try.prog 66 #[.slice a xs.length c, .slice b ys.length d] w fun e w' => ∃ v, e = .returned v ∧ SV w' v (mergeR xs ys) ∧ Below w.heap.size w w' := by
  have HX := Lib.hid (show SV w (.slice a xs.length c) xs from ⟨a, c, rfl, hx, hn, hlc⟩)
  have HY := Lib.hid hy
  have HLX := Lib.hid hlx
  have HLY := Lib.hid hly
  have hlj : (ys.length : Int) ≤ 400000 := by omega
  have HW := Lib.hid (fun (s : List Dt) (d : Dt) (a : Option Addr) (c : Nat) (wx : World) h1 h2 h3 h4 => raise_ref s d a c wx h1 h2 h3 h4)
  have HU : Hid (mergeR xs ys = (ys.take ys.length).foldl raiseR xs) := by show _ = _; rw [List.take_length]; rfl
  generalize mergeR xs ys = U at *
  have HFl := Lib.hid (fold_take_len ys xs)
  have HT : Hid (∀ (k : Nat) (h : k < ys.length), (ys.take (k + 1)).foldl raiseR xs = raiseR ((ys.take k).foldl raiseR xs) ys[k]) := fun k h => fold_take h _ _
  have HX0 : Hid (SV w (.slice a xs.length c) ((ys.take 0).foldl raiseR xs)) := by show SV _ _ _; rw [List.take_zero]; exact HX.out
  clear hx hn hlc hy hlx hly HX
  go_enter Try.func66, Try.ntmps66
  go_wp2_with fail
  go_loopw [5, 0] (fun i v wr => ∃ k : Nat, k ≤ ys.length ∧ i = .int .i64 (k : Int) ∧ Hid (Below w.heap.size w wr) ∧ Hid (SV wr v ((ys.take k).foldl raiseR xs))) (fun i _ _ => ys.length - (intOf i).toNat)
  case atStart => exact ⟨0, Nat.zero_le _, rfl, Below.refl _ _, HX0.out⟩
  case round =>
    obtain ⟨k, hk, rfl, hh, HO⟩ := hrel
    by_cases hlt : k < ys.length
    · have hi1 : (k : Int) < (ys.length : Int) := by omega
      obtain ⟨b1, o1, rfl, p0, p1⟩ := HY.out.get hh.out k hlt
      have HF := Lib.hid (HT.out k hlt)
      obtain ⟨p, hp⟩ : ∃ p, p = ys[k] := ⟨_, rfl⟩
      rw [← hp] at p0 p1 HF
      have HFk := Lib.hid (HFl.out k)
      clear hp
      generalize (ys.take k).foldl raiseR xs = s at *
      obtain ⟨a2, c2, rfl, hr2, hn2, hc2⟩ := HO.out
      have HC := Lib.hid (HW.out s p a2 c2 wr hr2 hn2 hc2 (by have := HFk.out; have := HLX.out; have := HLY.out; omega))
      clear hr2 hn2 hc2
      go_wp2_with fail
      refine HC.out.mono ?_
      rintro e w2 ⟨a3, c3, rfl, h1, h2, h3, hb⟩
      have HO2 : Hid (SV w2 (.slice a3 (raiseR s p).length c3) (raiseR s p)) := ⟨a3, c3, rfl, h1, h2, h3⟩
      have HB2 := bel_tr hh hb
      clear h1 h2 h3 hb HC
      go_wp2_with fail
      go_roundw
      case rel => exact ⟨k + 1, by omega, by go_num, HB2, by show SV _ _ _; rw [HF.out]; exact HO2.out⟩
      case measure => simp [intOf]; omega
    · obtain rfl : k = ys.length := by omega
      have hi1 : ¬ (ys.length : Int) < (ys.length : Int) := by omega
      go_wp2_with fail
      go_ret
      rw [HU.out]
      exact ⟨_, rfl, HO.out, hh.out⟩

/-- The vector of some dots, or none and an error. -/
def ofB (l : List Dt) : List Dt × Int := if l.all validR = true then (ofR l, 0) else ([], 2)
theorem all_no {l : List Dt} {k : Nat} (hk : k < l.length) (h : validR l[k] = false) : ofB l = ([], 2) := by
  unfold ofB
  rw [if_neg]
  rw [Bool.not_eq_true, List.all_eq_false]
  exact ⟨l[k], List.getElem_mem hk, by rw [h]; simp⟩
theorem all_yes {l : List Dt} (h : ∀ j (hj : j < l.length), validR l[j] = true) : ofB l = (ofR l, 0) := by
  unfold ofB
  rw [if_pos]
  rw [List.all_eq_true]
  intro x hx
  obtain ⟨j, hj, rfl⟩ := List.mem_iff_getElem.1 hx
  exact h j hj
end Go.Proofs.Ytefnoajkdhgonaa.E
