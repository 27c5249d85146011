/-
  The program's Merge and Raise.
-/
import Derived.Test.YtefnoajkdhgonaaEOf
namespace Go.Proofs.Ytefnoajkdhgonaa.E
set_option linter.unusedVariables false
open Go.RowKit V Go.Sort D

theorem merge_nil {a : List Dt} (ha : Vd a) : mergeR [] a = a := (merge_eq vd_nil ha ha fun r => by have := get_ge ha r; show _ = max 0 _; omega).symm
theorem of_app {a b : List Dt} (ha : Vd a) (hb : Vd b) : ofB (a ++ b) = (mergeR a b, 0) := by
  unfold ofB
  rw [if_pos]
  · unfold ofR mergeR
    rw [List.foldl_append]
    congr 1
    have := merge_nil ha
    unfold mergeR at this
    rw [this]
  · rw [List.all_eq_true]
    intro x hx
    rcases List.mem_append.1 hx with h | h
    · exact ha.1 x h
    · exact hb.1 x h
def mergeB (a b : List Dt) : List Dt × Int := if validV a = true ∧ validV b = true then (mergeR a b, 0) else ([], 2)
def raiseB (v : List Dt) (d : Dt) : List Dt × Int := if validV v = true ∧ validR d = true then (raiseR v d, 0) else ([], 2)
theorem mergeB_yes {a b : List Dt} (ha : validV a = true) (hb : validV b = true) : mergeB a b = ofB (a ++ b) := by
  unfold mergeB
  rw [if_pos ⟨ha, hb⟩, of_app ((valid_vd a).1 ha) ((valid_vd b).1 hb)]
theorem mergeB_one (v : List Dt) (d : Dt) : mergeB v [d] = raiseB v d := rfl

set_option maxRecDepth 100000 in
set_option maxHeartbeats 1000000 in
theorem merge_any (xs ys : List Dt) (a b : Option Addr) (c d : Nat) (w : World) (hx : RowD w a xs) (hy : RowD w b ys) (hna : a = none → c = 0) (hnb : b = none → d = 0) (hlx : xs.length ≤ 1000000) (hly : ys.length ≤ 1000000) :
    Calls Try.prog 69 #[.slice a xs.length c, .slice b ys.length d] w fun e w' => ∃ v, e = .returned (.tuple #[v, .int .i64 (mergeB xs ys).2]) ∧ OD w' w.heap.size E v (mergeB xs ys).1 ∧ Below w.heap.size w w' := by
  have HV := Lib.hid (validV_any xs a c w hx (by omega))
  have HV2 := Lib.hid (fun w2 (h : Lays w w2) => validV_any ys b d w2 (hy.keep h.bel) (by omega))
  have HX := Lib.hid hx
  have HY := Lib.hid hy
  have HNa := Lib.hid hna
  have HNb := Lib.hid hnb
  have HLx := Lib.hid hlx
  have HLy := Lib.hid hly
  have HOf := Lib.hid (fun b d wx h => of_any (xs ++ ys) b d wx h (by rw [List.length_append]; omega))
  have HE : Hid (validV xs = true → validV ys = true → mergeB xs ys = ofB (xs ++ ys)) := fun h1 h2 => mergeB_yes h1 h2
  have HN : Hid (¬ (validV xs = true ∧ validV ys = true) → mergeB xs ys = ([], 2)) := fun h => by unfold mergeB; rw [if_neg h]
  clear hx hy hna hnb hlx hly
  generalize mergeB xs ys = R at *
  generalize ofB (xs ++ ys) = O at *
  generalize validV xs = va at *
  generalize validV ys = vb at *
  go_enter Try.func69, Try.ntmps69
  go_wp2_with fail
  refine HV.out.mono ?_
  rintro e w2 ⟨rfl, hl⟩
  have HL := Lib.hid hl
  clear hl HV
  rcases va with _ | _
  · have hE := HN.out (by simp)
    subst hE
    clear HE HN HV2 HOf
    go_wp2_with fail
    go_ret2
    exact ⟨_, rfl, OD.nil _ _ _, HL.out.bel⟩
  · have HV3 := Lib.hid (HV2.out w2 HL.out)
    clear HV2
    go_wp2_with fail
    refine HV3.out.mono ?_
    rintro e w3 ⟨rfl, hl⟩
    replace HL := Lib.hid (lays_tr HL.out hl)
    clear hl HV3
    rcases vb with _ | _
    · have hE := HN.out (by simp)
      subst hE
      clear HE HN HOf
      go_wp2_with fail
      go_ret2
      exact ⟨_, rfl, OD.nil _ _ _, HL.out.bel⟩
    · have hE := HE.out (by first | trivial | rfl) (by first | trivial | rfl)
      subst hE
      have hB4 : Below w3.heap.size w3 (w3.alloc (Obj.cells #[.slice a xs.length c, .slice b ys.length d] 23)) := (Below.refl _ _).alloc (Nat.le_refl _) _
      have HC := Lib.hid (concat_any xs ys a b c d w3.heap.size _ ⟨by go_simp, by go_simp⟩ ((HX.out.keep HL.out.bel).keep hB4) ((HY.out.keep HL.out.bel).keep hB4) HNa.out HNb.out HLx.out HLy.out)
      have HB4 := bel_tr (Lib.hid HL.out.bel) hB4
      clear HE HN hB4
      go_wp2_with fail
      refine HC.out.mono ?_
      rintro e w5 ⟨v, rfl, ho, hb⟩
      obtain ⟨a2, c2, rfl, hr, -⟩ := ho.row
      have HB5 := bel_tr HB4 hb
      have HO := Lib.hid (HOf.out a2 c2 w5 hr)
      clear ho hr hb HC HOf
      generalize xs ++ ys = l at *
      go_wp2_with fail
      refine HO.out.mono ?_
      rintro e w6 ⟨v, rfl, ho, hb⟩
      have HO6 := Lib.hid (ho.mono fun k hk => Nat.le_trans HB5.out.size (ho.lt k hk).1)
      have HB6 := bel_tr HB5 hb
      clear ho hb HO
      go_wp2_with fail
      go_ret2
      exact ⟨_, rfl, HO6.out, HB6.out⟩

end Go.Proofs.Ytefnoajkdhgonaa.E
