/-
  The reference's Union, Minus and Set.
-/
import Derived.Test.YtjdhdnlcaonnkaaDoorDRefC
namespace Go.Proofs.YtjdhdnlcaonnkaaDoor.D
set_option linter.unusedVariables false
open Go.RowKit V Go.Sort

theorem fold_take {l : List Dt} {k : Nat} (h : k < l.length) (f : List Dt → Dt → List Dt) (s : List Dt) : (l.take (k + 1)).foldl f s = f ((l.take k).foldl f s) l[k] := by
  rw [List.take_succ_eq_append_getElem h, List.foldl_append]
  rfl
theorem fold_take_len (l s : List Dt) (k : Nat) : ((l.take k).foldl ins s).length ≤ s.length + l.length := by
  have := fold_len (l.take k) s
  rw [List.length_take] at this
  omega

set_option maxRecDepth 100000 in
set_option maxHeartbeats 1000000 in
theorem union_ref (xs ys : List Dt) (a b : Option Addr) (c d : Nat) (w : World) (hx : RowD w a xs) (hy : RowD w b ys) (hlx : xs.length ≤ 1000000) (hly : ys.length ≤ 1000000) :
    Calls Tryd.prog 23 #[.slice a xs.length c, .slice b ys.length d] w fun e w' => ∃ v, e = .returned v ∧ OD w' w.heap.size E v (unionR xs ys) ∧ Below w.heap.size w w' := by
  have HX := Lib.hid hx
  have HY := Lib.hid hy
  have HLX := Lib.hid hlx
  have HLY := Lib.hid hly
  have hli : (xs.length : Int) ≤ 1000000 := by omega
  have hlj : (ys.length : Int) ≤ 1000000 := by omega
  have HW := Lib.hid (fun (s : List Dt) (d : Dt) (a : Option Addr) (c : Nat) (wx : World) hO hb hl => with_ref s d a c w.heap.size wx hO hb hl)
  have HU : Hid (unionR xs ys = (ys.take ys.length).foldl ins (xs.foldl ins [])) := by show _ = _; rw [List.take_length]; rfl
  generalize unionR xs ys = U at *
  clear hx hy hlx hly
  go_enter Tryd.func23, Tryd.ntmps23
  go_wp2_with fail
  go_loopw [5, 6] (fun v i wr => ∃ k : Nat, k ≤ xs.length ∧ i = .int .i64 (k : Int) ∧ Hid (Below w.heap.size w wr) ∧ Hid (OD wr w.heap.size E v ((xs.take k).foldl ins []))) (fun _ i _ => xs.length - (intOf i).toNat)
  case atStart => exact ⟨0, Nat.zero_le _, rfl, Below.refl _ _, by show OD _ _ _ _ _; rw [List.take_zero]; exact OD.nil _ _ _⟩
  case round =>
    rename_i v i wr
    obtain ⟨k, hk, rfl, hh, HO⟩ := hrel
    by_cases hlt : k < xs.length
    · have hi1 : (k : Int) < (xs.length : Int) := by omega
      obtain ⟨b1, o1, rfl, p0, p1⟩ := HX.out.get hh.out k hlt
      obtain ⟨p, hp⟩ : ∃ p, p = xs[k] := ⟨_, rfl⟩
      rw [← hp] at p0 p1
      have HF : Hid ((xs.take (k + 1)).foldl ins [] = ins ((xs.take k).foldl ins []) p) := by show _ = _; rw [hp]; exact fold_take hlt _ _
      have HFl := Lib.hid (fold_take_len xs [] k)
      clear hp
      generalize (xs.take k).foldl ins [] = s at *
      obtain ⟨a2, c2, rfl, -⟩ := HO.out.row
      go_wp2_with fail
      refine (HW.out s p a2 c2 _ HO.out hh.out.size (by have := HFl.out; have := HLX.out; simp at *; omega)).mono ?_
      rintro e w2 ⟨v2, rfl, ho, hb⟩
      have HO2 := Lib.hid ho
      have HB2 := bel_tr hh hb
      clear ho hb
      go_wp2_with fail
      go_roundw
      case rel => exact ⟨k + 1, by omega, by go_num, HB2, by show OD _ _ _ _ _; rw [HF.out]; exact HO2.out⟩
      case measure => simp [intOf]; omega
    · obtain rfl : k = xs.length := by omega
      have hi1 : ¬ (xs.length : Int) < (xs.length : Int) := by omega
      rw [List.take_length] at HO
      go_wp2_with fail
      go_loopw [5, 7] (fun v i wr => ∃ k : Nat, k ≤ ys.length ∧ i = .int .i64 (k : Int) ∧ Hid (Below w.heap.size w wr) ∧ Hid (OD wr w.heap.size E v ((ys.take k).foldl ins (xs.foldl ins [])))) (fun _ i _ => ys.length - (intOf i).toNat)
      case atStart => exact ⟨0, Nat.zero_le _, rfl, hh, by show OD _ _ _ _ _; rw [List.take_zero]; exact HO.out⟩
      case round =>
        rename_i v i wr
        obtain ⟨k, hk, rfl, hh, HO⟩ := hrel
        by_cases hlt : k < ys.length
        · have hi1 : (k : Int) < (ys.length : Int) := by omega
          obtain ⟨b1, o1, rfl, p0, p1⟩ := HY.out.get hh.out k hlt
          obtain ⟨p, hp⟩ : ∃ p, p = ys[k] := ⟨_, rfl⟩
          rw [← hp] at p0 p1
          have HF : Hid ((ys.take (k + 1)).foldl ins (xs.foldl ins []) = ins ((ys.take k).foldl ins (xs.foldl ins [])) p) := by show _ = _; rw [hp]; exact fold_take hlt _ _
          have HFl : Hid (((ys.take k).foldl ins (xs.foldl ins [])).length ≤ xs.length + ys.length) := by
            show _ ≤ _
            have h1 := fold_take_len ys (xs.foldl ins []) k
            have h2 := fold_len xs []
            simp only [List.length_nil] at h2
            omega
          clear hp
          generalize (ys.take k).foldl ins (xs.foldl ins []) = s at *
          obtain ⟨a2, c2, rfl, -⟩ := HO.out.row
          go_wp2_with fail
          refine (HW.out s p a2 c2 _ HO.out hh.out.size (by have := HFl.out; have := HLX.out; have := HLY.out; omega)).mono ?_
          rintro e w2 ⟨v2, rfl, ho, hb⟩
          have HO2 := Lib.hid ho
          have HB2 := bel_tr hh hb
          clear ho hb
          go_wp2_with fail
          go_roundw
          case rel => exact ⟨k + 1, by omega, by go_num, HB2, by show OD _ _ _ _ _; rw [HF.out]; exact HO2.out⟩
          case measure => simp [intOf]; omega
        · obtain rfl : k = ys.length := by omega
          have hi1 : ¬ (ys.length : Int) < (ys.length : Int) := by omega
          go_wp2_with fail
          go_ret
          rw [HU.out]
          exact ⟨_, rfl, HO.out, hh.out⟩
set_option maxRecDepth 100000 in
set_option maxHeartbeats 1000000 in
theorem set_ref (xs : List Dt) (a : Option Addr) (c : Nat) (w : World) (hx : RowD w a xs) (hlx : xs.length ≤ 1000000) :
    Calls Tryd.prog 19 #[.slice a xs.length c] w fun e w' => ∃ v, e = .returned v ∧ OD w' w.heap.size E v (setR xs) ∧ Below w.heap.size w w' := by
  have HU := Lib.hid (union_ref xs [] a none c 0 w hx (.inl rfl) hlx (by simp))
  clear hx hlx
  go_enter Tryd.func19, Tryd.ntmps19
  go_wp2_with fail
  refine HU.out.mono ?_
  rintro e w2 ⟨v2, rfl, ho, hb⟩
  have HO := Lib.hid ho
  have HB := Lib.hid hb
  clear ho hb HU
  go_wp2_with fail
  go_ret
  exact ⟨_, rfl, HO.out, HB.out⟩
set_option maxRecDepth 100000 in
set_option maxHeartbeats 1000000 in
theorem minus_ref (xs ys : List Dt) (a b : Option Addr) (c d : Nat) (w : World) (hx : RowD w a xs) (hy : RowD w b ys) (hlx : xs.length ≤ 1000000) (hly : ys.length ≤ 1000000) :
    Calls Tryd.prog 25 #[.slice a xs.length c, .slice b ys.length d] w fun e w' => ∃ v, e = .returned v ∧ OD w' w.heap.size E v (minusR xs ys) ∧ Below w.heap.size w w' := by
  have HX := Lib.hid hx
  have HY := Lib.hid hy
  have HLX := Lib.hid hlx
  have HLY := Lib.hid hly
  have hli : (xs.length : Int) ≤ 1000000 := by omega
  have hlj : (ys.length : Int) ≤ 1000000 := by omega
  have HW := Lib.hid (fun (s : List Dt) (d : Dt) (a : Option Addr) (c : Nat) (wx : World) hO hb hl => with_ref s d a c w.heap.size wx hO hb hl)
  have HH := Lib.hid (fun (p : Dt) (wx : World) (hr : RowD wx b ys) => has_ref ys p b d wx hr (by omega))
  have HU : Hid (minusR xs ys = (xs.take xs.length).foldl (fun o d => if d ∈ ys then o else ins o d) []) := by show _ = _; rw [List.take_length]; rfl
  generalize minusR xs ys = U at *
  have HT : Hid (∀ (k : Nat) (h : k < xs.length), (xs.take (k + 1)).foldl (fun o d => if d ∈ ys then o else ins o d) [] = if xs[k] ∈ ys then (xs.take k).foldl (fun o d => if d ∈ ys then o else ins o d) [] else ins ((xs.take k).foldl (fun o d => if d ∈ ys then o else ins o d) []) xs[k]) := fun k h => fold_take h _ _
  have HTl : Hid (∀ k, ((xs.take k).foldl (fun o d => if d ∈ ys then o else ins o d) []).length ≤ xs.length) := by
    intro k
    rw [minus_fold]
    have h1 := fold_len ((xs.take k).filter fun d => decide (d ∉ ys)) []
    have h2 := List.length_filter_le (fun d => decide (d ∉ ys)) (xs.take k)
    rw [List.length_take] at h2
    simp only [List.length_nil] at h1
    omega
  have HT0 : Hid ((xs.take 0).foldl (fun o d => if d ∈ ys then o else ins o d) [] = []) := by show _ = _; rw [List.take_zero]; rfl
  generalize (fun (o : List Dt) d => if d ∈ ys then o else ins o d) = f at *
  clear hx hy hlx hly
  go_enter Tryd.func25, Tryd.ntmps25
  go_wp2_with fail
  go_loopw [5, 6] (fun v i wr => ∃ k : Nat, k ≤ xs.length ∧ i = .int .i64 (k : Int) ∧ Hid (Below w.heap.size w wr) ∧ Hid (OD wr w.heap.size E v ((xs.take k).foldl f []))) (fun _ i _ => xs.length - (intOf i).toNat)
  case atStart => exact ⟨0, Nat.zero_le _, rfl, Below.refl _ _, by show OD _ _ _ _ _; rw [HT0.out]; exact OD.nil _ _ _⟩
  case round =>
    rename_i v i wr
    obtain ⟨k, hk, rfl, hh, HO⟩ := hrel
    by_cases hlt : k < xs.length
    · have hi1 : (k : Int) < (xs.length : Int) := by omega
      obtain ⟨b1, o1, rfl, p0, p1⟩ := HX.out.get hh.out k hlt
      have HF := Lib.hid (HT.out k hlt)
      obtain ⟨p, hp⟩ : ∃ p, p = xs[k] := ⟨_, rfl⟩
      rw [← hp] at p0 p1 HF
      have HFl := Lib.hid (HTl.out k)
      clear hp
      generalize (xs.take k).foldl f [] = s at *
      obtain ⟨a2, c2, rfl, -⟩ := HO.out.row
      go_wp2_with fail
      refine (HH.out p wr (HY.out.keep hh.out)).mono ?_
      rintro e w2 ⟨rfl, hb⟩
      have HB2 := bel_tr hh hb
      have HO2 := Lib.hid (HO.out.below hb)
      replace p0 := (hb.cell (p := ⟨_, _, none⟩) (lt_of_cell p0)).trans p0
      replace p1 := (hb.cell (p := ⟨_, _, none⟩) (lt_of_cell p1)).trans p1
      clear hb
      by_cases hm : p ∈ ys
      · have hf := HF.out
        rw [if_pos hm] at hf
        replace HF := Lib.hid hf
        clear hf
        rw [decide_eq_true hm]
        clear hm
        go_wp2_with fail
        go_roundw
        case rel => exact ⟨k + 1, by omega, by go_num, HB2, by show OD _ _ _ _ _; rw [HF.out]; exact HO2.out⟩
        case measure => simp [intOf]; omega
      · have hf := HF.out
        rw [if_neg hm] at hf
        replace HF := Lib.hid hf
        clear hf
        rw [decide_eq_false hm]
        clear hm
        go_wp2_with fail
        refine (HW.out s p a2 c2 _ HO2.out HB2.out.size (by have := HFl.out; have := HLX.out; omega)).mono ?_
        rintro e w3 ⟨v2, rfl, ho, hb⟩
        have HO3 := Lib.hid ho
        have HB3 := bel_tr HB2 hb
        clear ho hb
        go_wp2_with fail
        go_roundw
        case rel => exact ⟨k + 1, by omega, by go_num, HB3, by show OD _ _ _ _ _; rw [HF.out]; exact HO3.out⟩
        case measure => simp [intOf]; omega
    · obtain rfl : k = xs.length := by omega
      have hi1 : ¬ (xs.length : Int) < (xs.length : Int) := by omega
      go_wp2_with fail
      go_ret
      rw [HU.out]
      exact ⟨_, rfl, HO.out, hh.out⟩
end Go.Proofs.YtjdhdnlcaonnkaaDoor.D
