/-
  What IndexDies and IndexHolds ask, plainly.
-/
import Derived.Test.YteojbekkbgcmnabIxQ
import Derived.Test.YteojbekkbgcmnabQKil
namespace Go.Proofs.Yteojbekkbgcmnab.Un
set_option linter.unusedVariables false
open D Nd Qs Wk Ix

section
variable {l : List Nt} (hv : validS l = true) (k : Nat) (hk : k < (visS l).length)
include hv
theorem vis_idx : idxS (visS l) (visS l)[k].1 = (k : Int) := (find_at (vis_nodup hv) k hk).1
theorem vis_good : (visS l)[k] ∈ l ∧ validR (visS l)[k].1 = true ∧ deadN (visS l)[k] = false ∧ (visS l)[k] ∈ orderS l := by
  have hm : (visS l)[k] ∈ visS l := List.getElem_mem hk
  obtain ⟨h1, h2, -⟩ := vis_mem hv hm
  refine ⟨h1, (valid_vn.1 ((validS_iff.1 hv).1 _ h1)).1, ?_, (List.mem_filter.1 hm).1⟩
  unfold deadN
  simpa using h2
theorem bef_k : ∃ j, ∃ hj : j < (orderS l).length, (orderS l)[j] = (visS l)[k] ∧ (aliveL ((orderS l).take j)).length = k := by
  obtain ⟨-, -, h3, h4⟩ := vis_good hv k hk
  obtain ⟨j, hj, e⟩ := List.mem_iff_getElem.1 h4
  refine ⟨j, hj, e, ?_⟩
  obtain ⟨h5, h6⟩ := vis_before hj (by rw [e]; exact h3)
  have h7 : visBefore (orderS l) j < (visS l).length := h5
  have h8 : (visS l)[visBefore (orderS l) j] = (visS l)[k] := h6.trans e
  show visBefore (orderS l) j = k
  rcases Nat.lt_trichotomy (visBefore (orderS l) j) k with h | h | h
  · exact absurd (by rw [h8]) (List.pairwise_iff_getElem.1 (vis_nodup hv) _ k h7 hk h)
  · exact h
  · exact absurd (by rw [h8]) (List.pairwise_iff_getElem.1 (vis_nodup hv) k _ hk h7 h)
theorem befR_k : befR l (visS l)[k].1 = (k : Int) := by
  obtain ⟨j, hj, e, h⟩ := bef_k hv k hk
  have hi : idxS (orderS l) (visS l)[k].1 = (j : Int) := by rw [← e]; exact (find_at (order_nodup hv) j hj).1
  unfold befR
  rw [hi, if_neg (by omega), Int.toNat_natCast, h]
theorem hold_of : ofI l (visS l)[k].1 = ((k : Int), 0) := by
  have h := vis_idx hv k hk
  rw [of_in hv (vis_good hv k hk).2.1 (by rw [h]; omega), h]
theorem hold_bef : befI l (visS l)[k].1 = ((k : Int), 0) := by
  have h := befR_k hv k hk
  rw [bef_in hv (vis_good hv k hk).2.1 (by rw [h]; omega), h]
theorem hold_left : leftI l ((k : Int) + 1) = ((visS l)[k].1, 0) := by
  have h : k < (idotsS l).length := by rw [idots_len]; exact hk
  rw [left_in hv h]
  have : ∀ (L : List Dt) (eL : L = (visS l).map (·.1)) (h5 : k < L.length), L[k] = (visS l)[k].1 := by
    intro L eL h5
    subst eL
    exact List.getElem_map ..
  exact congrArg (fun z => (z, (0 : Int))) (this _ rfl h)
theorem dies_kill : killP l [(visS l)[k].1] = (l.map (killAt [(visS l)[k].1]), 0) := by
  obtain ⟨h1, h2, -, -⟩ := vis_good hv k hk
  unfold killP killS
  rw [if_pos (by rw [hv]; simp [h2]), if_pos]
  rw [List.all_cons, List.all_nil, at_mem (validS_iff.1 hv).2 h1]
  rfl
theorem dies_valid : validS (l.map (killAt [(visS l)[k].1])) = true := kill_valid hv _
theorem dies_vis : visS (l.map (killAt [(visS l)[k].1])) = (visS l).take k ++ (visS l).drop (k + 1) := vis_kill hv k hk
theorem dies_runes : runesQ (l.map (killAt [(visS l)[k].1])) = ((runesS l).take k ++ (runesS l).drop (k + 1), 0) := by
  rw [runesQ_yes (dies_valid hv k hk)]
  unfold runesS
  rw [dies_vis hv k hk, List.map_append, List.map_take, List.map_drop]
theorem dies_of : ofI (l.map (killAt [(visS l)[k].1])) (visS l)[k].1 = (0, 9) := by
  refine of_out (dies_valid hv k hk) (vis_good hv k hk).2.1 ?_
  rw [idx_neg, at_none, dies_vis hv k hk]
  intro n hn e
  have hp := List.pairwise_iff_getElem.1 (vis_nodup hv)
  rcases List.mem_append.1 hn with h | h
  · obtain ⟨i, hi, rfl⟩ := List.mem_iff_getElem.1 h
    rw [List.length_take] at hi
    rw [List.getElem_take] at e
    exact hp i k (by omega) hk (by omega) e
  · obtain ⟨i, hi, rfl⟩ := List.mem_iff_getElem.1 h
    rw [List.length_drop] at hi
    rw [List.getElem_drop] at e
    exact hp k (k + 1 + i) hk (by omega) (by omega) e.symm
theorem dies_bef : befI (l.map (killAt [(visS l)[k].1])) (visS l)[k].1 = ((k : Int), 0) := by
  obtain ⟨j, hj, e, h⟩ := bef_k hv k hk
  have hv2 := dies_valid hv k hk
  obtain ⟨g, hg⟩ : ∃ g, g = killAt [(visS l)[k].1] := ⟨_, rfl⟩
  have hL : Like g := by rw [hg]; exact like_kill _
  have ho : orderS (l.map g) = (orderS l).map g := like_order hL l
  rw [← hg] at hv2 ⊢
  have hj2 : j < (orderS (l.map g)).length := by rw [ho, List.length_map]; exact hj
  have hi : idxS (orderS (l.map g)) (visS l)[k].1 = (j : Int) := by
    have h1 := (find_at (order_nodup hv2) j hj2).1
    have h2 : (orderS (l.map g))[j].1 = (visS l)[k].1 := by
      have : ∀ (L : List Nt) (eL : L = (orderS l).map g) (h : j < L.length), L[j].1 = (visS l)[k].1 := by
        intro L eL h
        subst eL
        rw [List.getElem_map, (hL _).1, e]
      exact this _ ho hj2
    rw [h2] at h1
    exact h1
  have ha : (aliveL ((orderS (l.map g)).take j)).length = k := by
    rw [ho, ← List.map_take]
    have hm : ((orderS l).take j).map g = (orderS l).take j := by
      have : ((orderS l).take j).map g = ((orderS l).take j).map id := List.map_congr_left fun y hy => by
        obtain ⟨i, hi, rfl⟩ := List.mem_iff_getElem.1 hy
        rw [List.length_take] at hi
        rw [List.getElem_take, hg]
        unfold killAt
        rw [if_neg]
        · rfl
        · intro hm
          rw [List.mem_singleton, ← e] at hm
          exact List.pairwise_iff_getElem.1 (order_nodup hv) i j (by omega) hj (by omega) hm
      rw [this, List.map_id]
    rw [hm, h]
  have hb : befR (l.map g) (visS l)[k].1 = (k : Int) := by
    unfold befR
    rw [hi, if_neg (by omega), Int.toNat_natCast, ha]
  rw [bef_in hv2 (vis_good hv k hk).2.1 (by rw [hb]; omega), hb]
end
theorem hold_len {l : List Nt} (hv : validS l = true) : R.lenR (R.encR (runesS l)).1 = ((runesS l).length, 0) := by
  have h := runes_vld hv
  unfold R.encR
  rw [if_pos h, R.lenR_decR]
  have hn : ∀ z ∈ runesS l, R.scal z.toNat = true ∧ z.toNat ≠ 0 := fun z hz => by
    have h1 := h z hz
    have h0 : 0 ≤ z := by rw [R.vld_iff] at h1; omega
    obtain ⟨n, rfl⟩ := Int.eq_ofNat_of_zero_le h0
    rw [R.vld_scal] at h1
    simpa using h1
  have hd := R.decR_encs (rs := R.nats (runesS l)) (fun r hr => by
    obtain ⟨z, hz, rfl⟩ := List.mem_map.1 hr
    exact (hn z hz).1) (fun hr => by
    obtain ⟨z, hz, e⟩ := List.mem_map.1 hr
    exact (hn z hz).2 e)
  rw [hd]
  show ((R.nats (runesS l)).length, 0) = _
  rw [show (R.nats (runesS l)).length = (runesS l).length from List.length_map ..]
end Go.Proofs.Yteojbekkbgcmnab.Un
