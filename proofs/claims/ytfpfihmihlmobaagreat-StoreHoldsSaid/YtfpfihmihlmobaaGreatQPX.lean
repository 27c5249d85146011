/-
  What the laws StorePuts, StoreOrders and StoreHolds ask for, plainly.
-/
import Derived.Test.YtfpfihmihlmobaaGreatMQLck
namespace Go.Proofs.YtfpfihmihlmobaaGreat.Qs
set_option linter.unusedVariables false
open Go.RowKit V Go.Sort D Nd

theorem fold_self {l : List Nt} (hv : validS l = true) : foldN l [] = l := by
  have h := of_valid (l := l) (by rw [of_self hv])
  have h2 := of_ok h.1 h.2.1
  have h3 := h2.1.symm.trans (of_self hv)
  exact congrArg Prod.fst h3
theorem fold_app (l : List Nt) (n : Nt) : foldN (l ++ [n]) [] = (putN (foldN l []) n).1 := by
  unfold foldN
  rw [List.foldl_append]
  rfl
theorem of_put {l : List Nt} {n : Nt} (hv : validS l = true) (hn : validN n = true) : ofN (l ++ [n]) = putN l n := by
  have h := of_valid (l := l) (by rw [of_self hv])
  have hs := (validS_iff.1 hv).2
  have h1 : ∀ x ∈ l ++ [n], validN x = true := by
    intro x hx
    rcases List.mem_append.1 hx with hx | hx
    · exact h.1 x hx
    · rw [List.mem_singleton.1 hx]; exact hn
  have hat : ∀ d, atS l d = mg l d := by
    intro d
    have h2 := (of_ok h.1 h.2.1).2.2 d
    rwa [fold_self hv] at h2
  by_cases hg : agAll (l ++ [n])
  · have h3 := of_ok h1 hg
    have h4 := step_ok hv hat hn hg
    rw [h3.1, fold_app, fold_self hv, ← h4.1]
  · have hc : ofN (l ++ [n]) = ([], 15) := by
      unfold ofN
      rw [if_pos (List.all_eq_true.2 h1), if_neg (fun e => hg (agB_iff.1 e))]
    rw [hc]
    have hex : ∃ r ∈ l, r.1 = n.1 ∧ agreeN r n = false := by
      refine Classical.byContradiction fun hno => hg ?_
      have hno' : ∀ r ∈ l, r.1 = n.1 → agreeN r n = true := by
        intro r hr e
        cases ha : agreeN r n
        · exact absurd ⟨r, hr, e, ha⟩ hno
        · rfl
      intro a ha b hb e
      rcases List.mem_append.1 ha with ha | ha <;> rcases List.mem_append.1 hb with hb | hb
      · exact h.2.1 a ha b hb e
      · rw [List.mem_singleton.1 hb] at e ⊢; exact hno' a ha e
      · rw [List.mem_singleton.1 ha] at e ⊢; rw [agree_comm]; exact hno' b hb e.symm
      · rw [List.mem_singleton.1 ha, List.mem_singleton.1 hb]; exact agree_self n
    obtain ⟨r, hr, e, ha⟩ := hex
    have hat2 : atS l n.1 = some r := by rw [← e]; exact at_mem hs hr
    have hm : mergeN r n = (zeroN, 15) := by
      unfold mergeN
      rw [h.1 r hr, hn, ha]; rfl
    unfold putN
    rw [hat2]
    simp only [hm]
    rfl
theorem putP_yes {l : List Nt} {n : Nt} (hv : validS l = true) (hn : validN n = true) : putP l n = putN l n := by
  unfold putP
  rw [if_pos hv, of_put hv hn]
theorem putP_no1 {l : List Nt} {n : Nt} (hv : validS l = false) : putP l n = ([], 2) := by
  unfold putP
  rw [if_neg (by rw [hv]; decide)]
theorem putP_no2 {l : List Nt} {n : Nt} (hn : validN n = false) : putP l n = ([], 2) := by
  unfold putP
  split
  · unfold ofN
    rw [if_neg]
    intro h
    have := List.all_eq_true.1 h n (by simp)
    rw [hn] at this
    cases this
  · rfl
theorem putP_ok {l : List Nt} {n : Nt} (h : (putP l n).2 = 0) : validS l = true ∧ validN n = true ∧ putP l n = putN l n := by
  have h1 : validS l = true := by
    cases hv : validS l
    · rw [putP_no1 hv] at h; cases h
    · rfl
  have h2 : validN n = true := by
    cases hv : validN n
    · rw [putP_no2 hv] at h; cases h
    · rfl
  exact ⟨h1, h2, putP_yes h1 h2⟩
theorem findS_no1 {l : List Nt} {d : Dt} (hv : validS l = false) : findS l d = (zeroN, 2) := by
  unfold findS
  rw [if_neg (by rw [hv]; simp)]
theorem findS_no2 {l : List Nt} {d : Dt} (hv : validR d = false) : findS l d = (zeroN, 2) := by
  unfold findS
  rw [if_neg (by rw [hv]; simp)]
theorem findS_none {l : List Nt} {d : Dt} (hv : validS l = true) (hd : validR d = true) (h : atS l d = none) : findS l d = (zeroN, 9) := by
  unfold findS
  rw [if_pos (by rw [hv, hd]; rfl), h]
theorem findS_some {l : List Nt} {d : Dt} {r : Nt} (hv : validS l = true) (hd : validR d = true) (h : atS l d = some r) : findS l d = (r, 0) := by
  unfold findS
  rw [if_pos (by rw [hv, hd]; rfl), h]
theorem idx_some : ∀ {l : List Nt} {d : Dt} {r : Nt}, atS l d = some r → ∃ i, ∃ hi : i < l.length, idxS l d = (i : Int) ∧ l[i] = r
  | [], d, r, h => by simp [atS] at h
  | x :: t, d, r, h => by
    by_cases e : x.1 = d
    · have hx : atS (x :: t) d = some x := by simp [atS, List.find?, e]
      refine ⟨0, by simp, ?_, ?_⟩
      · unfold idxS
        rw [hx]
        simp [List.takeWhile, e]
      · rw [hx] at h; exact Option.some.inj h
    · have hx : atS (x :: t) d = atS t d := by simp [atS, List.find?, e]
      have h2 : atS t d = some r := by rw [← hx]; exact h
      obtain ⟨i, hi, h3, h4⟩ := idx_some h2
      refine ⟨i + 1, by simp; omega, ?_, by simpa using h4⟩
      unfold idxS at h3 ⊢
      rw [hx, h2] at *
      simp only [Option.isSome_some, if_true] at h3 ⊢
      rw [List.takeWhile_cons, if_pos (by simp [e]), List.length_cons]
      omega
theorem lit64 {z : Int} (h1 : -9223372036854775808 ≤ z) (h2 : z ≤ 9223372036854775807) : (Lit.int .i64 z).wf = true := by
  simp only [Lit.wf, IntKind.min, IntKind.max, IntKind.signed, IntKind.bits]
  simp
  omega
theorem fit_valid {d : Dt} (h : validR d = true) : fitD d := by
  unfold validR at h
  simp only [Bool.and_eq_true, decide_eq_true_eq] at h
  exact ⟨lit64 (by omega) (by omega), lit64 (by omega) (by omega)⟩
theorem fit_root {d : Dt} (h : rootR d = true) : fitD d := by
  unfold rootR at h
  simp only [Bool.and_eq_true, decide_eq_true_eq] at h
  exact ⟨lit64 (by omega) (by omega), lit64 (by omega) (by omega)⟩
theorem fit_validN {n : Nt} (h : validN n = true) : fitN n := by
  have hv := valid_vn.1 h
  refine ⟨fit_valid hv.1, ?_⟩
  rcases hv.2.1 with h | h
  · exact fit_valid h
  · exact fit_root h
theorem fit_store {l : List Nt} (h : validS l = true) : ∀ x ∈ l, fitN x := fun x hx => fit_validN ((validS_iff.1 h).1 x hx)
/-- What StoreOrders puts together. -/
def backS (l : List Nt) (k : Nat) (hk : k < l.length) : List Nt := (l[k] :: l.take k) ++ (l.drop k).reverse
theorem back_of {l : List Nt} {k : Nat} (hk : k < l.length) : ofN (backS l k hk) = ofN l := of_same fun x => back_mem hk x
theorem back_len {l : List Nt} {k : Nat} (hk : k < l.length) : (backS l k hk).length = l.length + 1 := by
  unfold backS
  simp only [List.length_append, List.length_cons, List.length_take, List.length_reverse, List.length_drop]
  omega
theorem back_step {l : List Nt} {i : Nat} (hi : i < l.length) : (l.drop i).reverse = (l.drop (i + 1)).reverse ++ [l[i]] := by
  rw [List.drop_eq_getElem_cons hi, List.reverse_cons]
theorem back_seq {l : List Nt} (hq : (ofN l).2 = 0) {k : Nat} (hk : k < l.length) (i : Nat) (hi : i < (backS l k hk).length) :
    putP (foldN ((backS l k hk).take i) []) (backS l k hk)[i] = (foldN ((backS l k hk).take (i + 1)) [], 0) := by
  have h := of_valid (l := backS l k hk) (by rw [back_of hk]; exact hq)
  have h2 := put_seq h.1 h.2.1 i hi
  rw [putP_yes h2.1 (h.1 _ (List.getElem_mem hi)), ← h2.2.2, ← h2.2.1]
theorem back_fit {l : List Nt} (hq : (ofN l).2 = 0) {k : Nat} (hk : k < l.length) (i : Nat) (hi : i < (backS l k hk).length) :
    (∀ x ∈ foldN ((backS l k hk).take i) [], fitN x) ∧ fitN (backS l k hk)[i] := by
  have h := of_valid (l := backS l k hk) (by rw [back_of hk]; exact hq)
  have h2 := put_seq h.1 h.2.1 i hi
  exact ⟨fit_store h2.1, fit_validN (h.1 _ (List.getElem_mem hi))⟩
theorem back_end {l : List Nt} (hq : (ofN l).2 = 0) {k : Nat} (hk : k < l.length) : foldN (backS l k hk) [] = (ofN l).1 := by
  have h := of_valid (l := backS l k hk) (by rw [back_of hk]; exact hq)
  have h2 := of_ok h.1 h.2.1
  rw [← back_of hk, h2.1]
theorem of_len (l : List Nt) : (ofN l).1.length ≤ l.length := by
  unfold ofN
  split
  · split
    · have := fold_len l l.length
      rw [List.take_length] at this
      exact this
    · simp
  · simp
/-- What StoreHolds asks of a node that was put. -/
structure PutOk (l : List Nt) (n : Nt) (x : List Nt) : Prop where
  vx : validS x = true
  d : validR n.1 = true
  fn : fitN n
  was : (atS l n.1 = none ∧ findS l n.1 = (zeroN, 9) ∧ x.length = l.length + 1) ∨ ∃ r, atS l n.1 = some r ∧ findS l n.1 = (r, 0) ∧ x.length = l.length ∧ ((upN l n).2.2.2 ≠ 0 → r.2.2.2 ≠ 0)
  now : findS x n.1 = (upN l n, 0)
  al : (upN l n).2.2.2 ≠ 0 → n.2.2.2 ≠ 0
  again : putP x n = (x, 0)
theorem put_holds {l : List Nt} {n : Nt} (h : (putP l n).2 = 0) : PutOk l n (putP l n).1 := by
  obtain ⟨hv, hn, he⟩ := putP_ok h
  rw [he] at h ⊢
  have hs := (validS_iff.1 hv).2
  have hd := (valid_vn.1 hn).1
  have hvx := put_valid hv hn h
  refine ⟨hvx, hd, fit_validN hn, ?_, findS_some hvx hd (up_at hs h), fun e => (up_alive h e).1, ?_⟩
  · have hl := put_len hs h
    rcases ha : atS l n.1 with _ | r
    · rw [ha] at hl
      exact .inl ⟨rfl, findS_none hv hd ha, by simpa using hl⟩
    · rw [ha] at hl
      exact .inr ⟨r, rfl, findS_some hv hd ha, by simpa using hl, fun e => (up_alive h e).2 r ha⟩
  · rw [putP_yes hvx hn]
    exact put_again hs hv hn h
/-- What StoreHolds asks of a store in which nodes were killed. -/
theorem kill_holds {l : List Nt} {dots : List Dt} (h : (killP l dots).2 = 0) : validS l = true ∧ (killP l dots).1 = l.map (killAt dots) ∧ validS (killP l dots).1 = true ∧ (∀ d ∈ dots, F.hasC (ctxS (killP l dots).1 true) d = true) := by
  have hc : (validS l && dots.all validR) = true := by
    cases hv : (validS l && dots.all validR)
    · unfold killP at h; rw [hv] at h; cases h
    · rfl
  have he : killP l dots = killS l dots := by unfold killP; rw [if_pos hc]
  rw [he] at h ⊢
  have hv := (Bool.and_eq_true _ _ ▸ hc).1
  have h2 := kill_yes h
  refine ⟨hv, h2.2, ?_, kill_known hv h⟩
  rw [h2.2]
  exact kill_valid hv dots
theorem kill_none {l : List Nt} {dots : List Dt} (h : (killP l dots).2 ≠ 0) : (killP l dots).1 = [] := by
  unfold killP at h ⊢
  split
  · rename_i hc
    rw [if_pos hc] at h
    rw [kill_no h]
  · rfl
theorem ctxP_dead {l : List Nt} (h : validS l = true) : ctxP l (chs true) = (ctxS l true, 0) := by
  unfold ctxP
  rw [if_pos h]
  exact F.made_eq (dots_valid h true)
theorem ctx_len2 {l : List Nt} (h : validS l = true) (b : Bool) : (ctxS l b).1.length ≤ 64 ∧ (ctxS l b).2.length ≤ l.length := by
  have h1 := F.add_len (c := ([], [])) vc_nil (dots_valid h b)
  have h2 := dots_len l b
  exact ⟨h1.1, Nat.le_trans h1.2 (by simpa using h2)⟩
theorem map_at {l : List Nt} {dots : List Dt} {k : Nat} (hk : k < l.length) : ∃ hk2 : k < (l.map (killAt dots)).length, (l.map (killAt dots))[k] = if l[k].1 ∈ dots then killN l[k] else l[k] := by
  refine ⟨by simpa using hk, ?_⟩
  rw [List.getElem_map]
  rfl
theorem miss_none {c : F.Ct} {dots : List Dt} (h : ∀ d ∈ dots, F.hasC c d = true) : F.missR c dots = [] := by
  refine List.eq_nil_iff_forall_not_mem.2 fun x hx => ?_
  have h1 := F.mem_miss.1 hx
  rw [h x h1.1] at h1
  cases h1.2
end Go.Proofs.YtfpfihmihlmobaaGreat.Qs
