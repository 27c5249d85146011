/-
  Package join: Agree, Within.
-/
import Derived.Test.YtmdebedkljpagaaJnH
namespace Go.Proofs.Ytmdebedkljpagaa.Jn
set_option linter.unusedVariables false
open Go.RowKit V Go.Sort D Nd Qs
attribute [local irreducible] Sch.heldN Sch.stepV Sch.stepE

theorem put_len1 (o : List Nt) (n : Nt) : (putN o n).1.length ≤ o.length + 1 := by
  by_cases h : (putN o n).2 = 0
  · obtain ⟨h1, -⟩ := put_yes h
    rw [h1]
    unfold setS
    rw [List.length_append, List.length_cons, List.length_take]
    have h2 := List.length_filter_le (fun x : Nt => !decide (x.1 = (upN o n).1)) (o.drop (posS o (upN o n).1))
    rw [List.length_drop] at h2
    have h3 := posS_le o (upN o n).1
    omega
  · rw [put_no h]
    simp
theorem joinL_len (a b : List Nt) : (joinL a b).length ≤ a.length + b.length := by
  unfold joinL foldN
  induction b generalizing a with
  | nil => exact Nat.le_refl _
  | cons n t ih =>
    have h1 := ih ((putN a n).1)
    have h2 := put_len1 a n
    rw [List.foldl_cons, List.length_cons]
    omega
theorem joinP_len (a b : List Nt) : (joinP a b).1.length ≤ a.length + b.length := by
  unfold joinP
  split
  · split
    · exact joinL_len a b
    · exact Nat.zero_le _
  · exact Nat.zero_le _
/-- Whether two states agree, and the error. -/
def agP (a b : List Nt) : Bool × Int := if (validS a && validS b) = true then (agS a b, 0) else (false, 2)
def inP (a b : List Nt) : Bool × Int := (decide ((joinP a b).2 = 0) && decide ((joinP a b).1 = b), (joinP a b).2)
theorem join_err (a b : List Nt) : (joinP a b).2 = 0 ∨ (joinP a b).2 = 15 ∨ (joinP a b).2 = 2 := by
  unfold joinP
  split
  · split
    · exact .inl rfl
    · exact .inr (.inl rfl)
  · exact .inr (.inr rfl)
theorem ag_err (a b : List Nt) : agP a b = if (joinP a b).2 = 15 then (false, 0) else (decide ((joinP a b).2 = 0), (joinP a b).2) := by
  unfold joinP agP
  by_cases h1 : (validS a && validS b) = true
  · rw [if_pos h1, if_pos h1]
    by_cases h2 : agS a b = true
    · rw [if_pos h2, h2]; rfl
    · rw [if_neg h2, Bool.not_eq_true] at *
      rw [h2]; rfl
  · rw [if_neg h1, if_neg h1]; rfl
set_option maxRecDepth 100000 in
set_option maxHeartbeats 4000000 in
theorem agree_any (xs ys : List Nt) (a b : Option Addr) (c d : Nat) (w : World) (hx : RowN w a xs) (hna : a = none → c = 0) (hlc : xs.length ≤ c) (hy : RowN w b ys) (hnb : b = none → d = 0) (hld : ys.length ≤ d) (hlx : xs.length ≤ 200000) (hly : ys.length ≤ 200000) :
    Calls Try.prog 25 #[.slice a xs.length c, .slice b ys.length d] w fun e w' => e = .returned (.tuple #[.bool (agP xs ys).1, .int .i64 (agP xs ys).2]) ∧ Below w.heap.size w w' := by
  have HJ := Lib.hid (join_any xs ys a b c d w hx hna hlc hy hnb hld hlx hly)
  have HE := Lib.hid (ag_err xs ys)
  have HT := Lib.hid (join_err xs ys)
  clear hx hna hlc hy hnb hld hlx hly
  generalize joinP xs ys = J at *
  generalize agP xs ys = R at *
  obtain ⟨J1, J2⟩ := J
  simp only at HJ HE HT
  go_enter Try.func25, Try.ntmps25
  go_wp2_with fail
  refine HJ.out.mono ?_
  rintro e w2 ⟨v, rfl, ho, hb⟩
  have HB := Lib.hid hb
  clear ho hb HJ
  rcases HT.out with rfl | rfl | rfl
  · go_wp2_with fail
    go_ret2
    rw [HE.out]
    exact ⟨rfl, HB.out⟩
  · go_wp2_with fail
    go_ret2
    rw [HE.out]
    exact ⟨rfl, HB.out⟩
  · go_wp2_with fail
    go_ret2
    rw [HE.out]
    exact ⟨rfl, HB.out⟩
set_option maxRecDepth 100000 in
set_option maxHeartbeats 4000000 in
theorem within_any (xs ys : List Nt) (a b : Option Addr) (c d : Nat) (w : World) (hx : RowN w a xs) (hna : a = none → c = 0) (hlc : xs.length ≤ c) (hy : RowN w b ys) (hnb : b = none → d = 0) (hld : ys.length ≤ d) (hlx : xs.length ≤ 200000) (hly : ys.length ≤ 200000) :
    Calls Try.prog 23 #[.slice a xs.length c, .slice b ys.length d] w fun e w' => e = .returned (.tuple #[.bool (inP xs ys).1, .int .i64 (inP xs ys).2]) ∧ Below w.heap.size w w' := by
  have HJ := Lib.hid (join_any xs ys a b c d w hx hna hlc hy hnb hld hlx hly)
  have HE : Hid (inP xs ys = (decide ((joinP xs ys).2 = 0) && decide ((joinP xs ys).1 = ys), (joinP xs ys).2)) := rfl
  have HT := Lib.hid (join_err xs ys)
  have HL : Hid ((joinP xs ys).1.length ≤ 1000000) := by have := joinP_len xs ys; show _ ≤ _; omega
  have HY := Lib.hid hy
  have HQ := Lib.hid (fun aX cX l w h1 h2 h3 => jequal_any l ys aX b cX d w h1 h2 h3 (by omega))
  clear hx hna hlc hy hnb hld hlx hly
  generalize joinP xs ys = J at *
  generalize inP xs ys = R at *
  obtain ⟨J1, J2⟩ := J
  simp only at HJ HE HT HL
  go_enter Try.func23, Try.ntmps23
  go_wp2_with fail
  refine HJ.out.mono ?_
  rintro e w2 ⟨v, rfl, ho, hb⟩
  have HB := Lib.hid hb
  obtain ⟨a2, c2, rfl, hr, -⟩ := ON.row ho
  have HR := Lib.hid hr
  have HY2 := Lib.hid (HY.out.keep hb)
  clear ho hb HJ hr
  rcases HT.out with rfl | rfl | rfl
  · go_wp2_with fail
    refine (HQ.out a2 c2 J1 _ HR.out HY2.out HL.out).mono ?_
    rintro e w3 ⟨rfl, hb⟩
    replace HB := bel_tr HB hb
    clear hb HQ HR
    obtain ⟨q, hq⟩ : ∃ q, q = decide (J1 = ys) := ⟨_, rfl⟩
    rw [← hq] at HE ⊢
    clear hq
    go_wp2_with fail
    go_ret2
    rw [HE.out]
    exact ⟨rfl, HB.out⟩
  · go_wp2_with fail
    go_ret2
    rw [HE.out]
    exact ⟨rfl, HB.out⟩
  · go_wp2_with fail
    go_ret2
    rw [HE.out]
    exact ⟨rfl, HB.out⟩
end Go.Proofs.Ytmdebedkljpagaa.Jn
