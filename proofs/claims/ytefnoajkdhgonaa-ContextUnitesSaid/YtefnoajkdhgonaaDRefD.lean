/-
  The reference's Union, Minus and Set.
-/
import Derived.Test.YtefnoajkdhgonaaDRefC
namespace Go.Proofs.Ytefnoajkdhgonaa.D
set_option linter.unusedVariables false
open Go.RowKit V Go.Sort

theorem fold_take {l : List Dt} {k : Nat} (h : k < l.length) (f : List Dt → Dt → List Dt) (s : List Dt) : (l.take (k + 1)).foldl f s = f ((l.take k).foldl f s) l[k] := by
  rw [List.take_succ_eq_append_getElem h, List.foldl_append]
  rfl
theorem fold_take_len (l s : List Dt) (k : Nat) : ((l.take k).foldl ins s).length ≤ s.length + l.length := by
  have := fold_len (l.take k) s
  rw [List.length_take] at this
  omega

set_option maxRecDepth 100000 in
set_option maxHeartbeats 1000000 in
theorem union_ref (xs ys : List Dt) (a b : Option Addr) (c d : Nat) (w : World) (hx : RowD w a xs) (hy : RowD w b ys) (hlx : xs.length ≤ 1000000) (hly : ys.length ≤ 1000000) :
    Calls Try.prog 65 #[.slice a xs.length c, .slice b ys.length d] w fun e w' => ∃ v, e = .returned v ∧ OD w' w.heap.size E v (unionR xs ys) ∧ Below w.heap.size w w' := by
  have HX := Lib.hid hx
  have HY := Lib.hid hy
  have HLX := Lib.hid hlx
  have HLY := Lib.hid hly
  have hli : (xs.length : Int) ≤ 1000000 := by omega
  have hlj : (ys.length : Int) ≤ 1000000 := by omega
  have HW := Lib.hid (fun (s : List Dt) (d : Dt) (a : Option Addr) (c : Nat) (wx : World) hO hb hl => with_ref s d a c w.heap.size wx hO hb hl)
  have HU : Hid (unionR xs ys = (ys.take ys.length).foldl ins (xs.foldl ins [])) := by show _ = _; rw [List.take_length]; rfl
  generalize unionR xs ys = U at *
  clear hx hy hlx hly
  go_enter Try.func65, Try.ntmps65
  go_wp2_with fail
  go_loopw [5, 6] (fun v i wr => ∃ k : Nat, k ≤ xs.length ∧ i = .int .i64 (k : Int) ∧ Hid (Below w.heap.size w wr) ∧ Hid (OD wr w.heap.size E v ((xs.take k).foldl ins []))) (fun _ i _ => xs.length - (intOf i).toNat)
  case atStart => exact ⟨0, Nat.zero_le _, rfl, Below.refl _ _, by show OD _ _ _ _ _; rw [List.take_zero]; exact OD.nil _ _ _⟩
  case round =>
    rename_i v i wr
    obtain ⟨k, hk, rfl, hh, HO⟩ := hrel
    by_cases hlt : k < xs.length
    · have hi1 : (k : Int) < (xs.length : Int) := by omega
      obtain ⟨b1, o1, rfl, p0, p1⟩ := HX.out.get hh.out k hlt
      obtain ⟨p, hp⟩ : ∃ p, p = xs[k] := ⟨_, rfl⟩
      rw [← hp] at p0 p1
      have HF : Hid ((xs.take (k + 1)).foldl ins [] = ins ((xs.take k).foldl ins []) p) := by show _ = _; rw [hp]; exact fold_take hlt _ _
      have HFl := Lib.hid (fold_take_len xs [] k)
      clear hp
      generalize (xs.take k).foldl ins [] = s at *
      obtain ⟨a2, c2, rfl, -⟩ := HO.out.row
      go_wp2_with fail
      refine (HW.out s p a2 c2 _ HO.out hh.out.size (by have := HFl.out; have := HLX.out; simp at *; omega)).mono ?_
      rintro e w2 ⟨v2, rfl, ho, hb⟩
      have HO2 := Lib.hid ho
      have HB2 := bel_tr hh hb
      clear ho hb
      go_wp2_with fail
      go_roundw
      case rel => exact ⟨k + 1, by omega, by go_num, HB2, by show OD _ _ _ _ _; rw [HF.out]; exact HO2.out⟩
      case measure => simp [intOf]; omega
    · obtain rfl : k = xs.length := by omega
      have hi1 : ¬ (xs.length : Int) < (xs.length : Int) := by omega
      rw [List.take_length] at HO
      go_wp2_with fail
      go_loopw [5, 7] (fun v i wr => ∃ k : Nat, k ≤ ys.length ∧ i = .int .i64 (k : Int) ∧ Hid (Below w.heap.size w wr) ∧ Hid (OD wr w.heap.size E v ((ys.take k).foldl ins (xs.foldl ins [])))) (fun _ i _ => ys.length - (intOf i).toNat)
      case atStart => exact ⟨0, Nat.zero_le _, rfl, hh, by show OD _ _ _ _ _; rw [List.take_zero]; exact HO.out⟩
      case round =>
        rename_i v i wr
        obtain ⟨k, hk, rfl, hh, HO⟩ := hrel
        by_cases hlt : k < ys.length
        · have hi1 : (k : Int) < (ys.length : Int) := by omega
          obtain ⟨b1, o1, rfl, p0, p1⟩ := HY.out.get hh.out k hlt
          obtain ⟨p, hp⟩ : ∃ p, p = ys[k] := ⟨_, rfl⟩
          rw [← hp] at p0 p1
          have HF : Hid ((ys.take (k + 1)).foldl ins (xs.foldl ins []) = ins ((ys.take k).foldl ins (xs.foldl ins [])) p) := by show _ = _; rw [hp]; exact fold_take hlt _ _
          have HFl : Hid (((ys.take k).foldl ins (xs.foldl ins [])).length ≤ xs.length + ys.length) := by
            show _ ≤ _
            have h1 := fold_take_len ys (xs.foldl ins []) k
            have h2 := fold_len xs []
            simp only [List.length_nil] at h2
            omega
          clear hp
          generalize (ys.take k).foldl ins (xs.foldl ins []) = s at *
          obtain ⟨a2, c2, rfl, -⟩ := HO.out.row
          go_wp2_with fail
          refine (HW.out s p a2 c2 _ HO.out hh.out.size (by have := HFl.out; have := HLX.out; have := HLY.out; omega)).mono ?_
          rintro e w2 ⟨v2, rfl, ho, hb⟩
          have HO2 := Lib.hid ho
          have HB2 := bel_tr hh hb
          clear ho hb
          go_wp2_with fail
          go_roundw
          case rel => exact ⟨k + 1, by omega, by go_num, HB2, by show OD _ _ _ _ _; rw [HF.out]; exact HO2.out⟩
          case measure => simp [intOf]; omega
        · obtain rfl : k = ys.length := by omega
          have hi1 : ¬ (ys.length : Int) < (ys.length : Int) := by omega
          go_wp2_with fail
          go_ret
          rw [HU.out]
          exact ⟨_, rfl, HO.out, hh.out⟩
end Go.Proofs.Ytefnoajkdhgonaa.D
