/-
  What WalkGrows asks, plainly.
-/
import Derived.Test.YteojbekkbgcmnaaGreatWPX
import Derived.Test.YteojbekkbgcmnaaGreatWGY
import Derived.Test.YteojbekkbgcmnaaGreatQRfF
namespace Go.Proofs.YteojbekkbgcmnaaGreat.Un
set_option linter.unusedVariables false
open D Nd Qs Wk

theorem time_up (l : List Nt) : ∀ (t : List Nt) (m : Int), m ≤ t.foldl (fun m n => if m < n.2.2.1 then n.2.2.1 else m) m ∧ (∀ x ∈ t, x.2.2.1 ≤ t.foldl (fun m n => if m < n.2.2.1 then n.2.2.1 else m) m) ∧ ∀ b, m ≤ b → (∀ x ∈ t, x.2.2.1 ≤ b) → t.foldl (fun m n => if m < n.2.2.1 then n.2.2.1 else m) m ≤ b
  | [], m => ⟨Int.le_refl _, fun x h => by simp at h, fun b h _ => h⟩
  | n :: t, m => by
    obtain ⟨h1, h2, h3⟩ := time_up l t (if m < n.2.2.1 then n.2.2.1 else m)
    rw [List.foldl_cons]
    refine ⟨Int.le_trans ?_ h1, fun x hx => ?_, fun b hm hb => h3 b ?_ fun x hx => hb x (by simp [hx])⟩
    · split <;> omega
    · rcases List.mem_cons.1 hx with rfl | hx
      · refine Int.le_trans ?_ h1
        split <;> omega
      · exact h2 x hx
    · have := hb n (by simp)
      split <;> omega
theorem time_bounds {l : List Nt} (hv : validS l = true) : 0 ≤ timeS l ∧ timeS l ≤ 4611686018427387904 ∧ ∀ x ∈ l, x.2.2.1 ≤ timeS l := by
  obtain ⟨h1, h2, h3⟩ := time_up l l 0
  exact ⟨h1, h3 _ (by omega) fun x hx => (valid_vn.1 ((validS_iff.1 hv).1 x hx)).2.2.2.2.1, h2⟩
def growN (l : List Nt) (d : Dt) (k : Nat) : Nt := (d, (if h : 0 < k ∧ k - 1 < (orderS l).length then ((orderS l)[k - 1]'h.2).1 else (0, 0)), timeS l + 1, 110)
theorem grow_all {l : List Nt} (hv : validS l = true) {d : Dt} (hd : validR d = true) (hf : idxS l d < 0) (hc : childS l d = []) (ht : timeS l ≠ 4611686018427387904) (k : Nat) (hk : k ≤ (orderS l).length) :
    putP l (growN l d k) = (setS l (growN l d k), 0) ∧ fitN (growN l d k) ∧ orderP (setS l (growN l d k)) = ((orderS l).take k ++ growN l d k :: (orderS l).drop k, 0) ∧ (setS l (growN l d k)).length ≤ l.length + 1 := by
  have hat : atS l d = none := idx_neg.1 hf
  have hs := (validS_iff.1 hv).2
  obtain ⟨t1, t2, t3⟩ := time_bounds hv
  have hpar : validR (growN l d k).2.1 = true ∧ (∃ x ∈ l, x.1 = (growN l d k).2.1) ∨ (growN l d k).2.1 = (0, 0) := by
    unfold growN
    by_cases h : 0 < k ∧ k - 1 < (orderS l).length
    · left
      simp only [dif_pos h]
      exact ⟨(hold_valid hv _ h.2).1, _, (hold_in hv _ h.2).1, rfl⟩
    · right
      simp only [dif_neg h]
  have hne : (growN l d k).2.1 ≠ d := by
    rcases hpar with ⟨-, x, hx, e⟩ | e
    · rw [← e]; exact at_none.1 hat x hx
    · rw [e]; intro e2; rw [← e2] at hd; cases hd
  have hn : validN (growN l d k) = true := valid_vn.2 ⟨hd, (by rcases hpar with ⟨h, -⟩ | h; exact .inl h; exact .inr (by rw [h]; rfl)), hne, by show 1 ≤ timeS l + 1; omega, by show timeS l + 1 ≤ _; omega, .inr (show R.vld 110 = true by decide)⟩
  have hp : putP l (growN l d k) = (setS l (growN l d k), 0) := by
    have h1 : putP l (growN l d k) = Qs.putN l (growN l d k) := putP_yes hv hn
    rw [h1]
    unfold Qs.putN
    rw [show (growN l d k).1 = d from rfl, hat]
  have hx : ∀ x ∈ l, x.2.1 ≠ d := fun x hx e => by
    have := (mem_child hs (d := d)).2 ⟨hx, e⟩
    rw [hc] at this
    simp at this
  have hvs : validS (setS l (growN l d k)) = true := by
    have hpn : Qs.putN l (growN l d k) = (setS l (growN l d k), 0) := by
      unfold Qs.putN
      rw [show (growN l d k).1 = d from rfl, hat]
    have h1 := put_valid hv hn (by rw [hpn])
    rw [hpn] at h1
    exact h1
  refine ⟨hp, ⟨fit_validD hd, ?_⟩, ?_, ?_⟩
  · rcases hpar with ⟨h, -⟩ | h
    · exact fit_validD h
    · rw [h]; exact ⟨lit64w (by decide) (by decide), lit64w (by decide) (by decide)⟩
  · unfold orderP
    rw [if_pos hvs, grow_order hv hn hat hx (fun x hx => by have := t3 x hx; show _ < timeS l + 1; omega) k hk]
    unfold growN
    by_cases h0 : k = 0
    · rw [dif_pos h0, dif_neg (by omega)]
    · rw [dif_neg h0, dif_pos ⟨by omega, by omega⟩]
  · rw [setS_len hs]
    split <;> omega
end Go.Proofs.YteojbekkbgcmnaaGreat.Un
