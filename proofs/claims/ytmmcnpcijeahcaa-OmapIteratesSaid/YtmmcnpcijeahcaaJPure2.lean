/-
  Ordered maps, plainly: calls, and setting the pairs of a map in a turned order.
-/
import Derived.Test.YtmmcnpcijeahcaaJPure
namespace Go.Proofs.Ytmmcnpcijeahcaa.J
set_option linter.unusedVariables false

theorem rot_at {n t i : Nat} (hn : 0 < n) (hi : i < n) : (i + t) % n = if i + t % n < n then i + t % n else i + t % n - n := by
  have hr := Nat.mod_lt t hn
  have e : (i + t) % n = (i + t % n) % n := by rw [Nat.add_mod i t, Nat.add_mod i (t % n), Nat.mod_mod]
  rw [e]
  split
  · exact Nat.mod_eq_of_lt (by assumption)
  · rw [Nat.mod_eq_sub_mod (by omega)]
    exact Nat.mod_eq_of_lt (by omega)
/-- The pairs of a list, turned by so many places. -/
def rot (L : List Pr) (t q : Nat) : List Pr := (List.range q).map fun i => L.getD ((i + t) % L.length) (0, ⟨#[]⟩)
theorem rot_succ (L : List Pr) (t q : Nat) : rot L t (q + 1) = rot L t q ++ [L.getD ((q + t) % L.length) (0, ⟨#[]⟩)] := by unfold rot; rw [List.range_succ, List.map_append]; rfl
theorem rot_len (L : List Pr) (t q : Nat) : (rot L t q).length = q := by unfold rot; simp
theorem srt_ne {d : Bool} {L : List Pr} (hs : Srt d L) {i j : Nat} (hi : i < L.length) (hj : j < L.length) (hne : i ≠ j) : L[i].1 ≠ L[j].1 := by
  rcases Nat.lt_or_gt_of_ne hne with h | h
  · exact bef_ne (List.pairwise_iff_getElem.1 hs i j hi hj h)
  · exact (bef_ne (List.pairwise_iff_getElem.1 hs j i hj hi h)).symm
theorem rot_ne {d : Bool} {L : List Pr} (hs : Srt d L) (t : Nat) {q : Nat} (hq : q ≤ L.length) : (rot L t q).Pairwise fun a b => a.1 ≠ b.1 := by
  rw [List.pairwise_iff_getElem]
  intro i j hi hj hij
  rw [rot_len] at hi hj
  have hn : 0 < L.length := by omega
  have h1 := Nat.mod_lt (i + t) hn
  have h2 := Nat.mod_lt (j + t) hn
  have hne : (i + t) % L.length ≠ (j + t) % L.length := by
    rw [rot_at hn (by omega), rot_at hn (by omega)]
    have := Nat.mod_lt t hn
    split <;> split <;> omega
  simp only [rot, List.getElem_map, List.getElem_range, List.getD_eq_getElem?_getD, List.getElem?_eq_getElem h1, List.getElem?_eq_getElem h2, Option.getD_some]
  exact srt_ne hs h1 h2 hne
theorem rot_mem (L : List Pr) (t : Nat) (x : Pr) : x ∈ rot L t L.length ↔ x ∈ L := by
  rcases Nat.eq_zero_or_pos L.length with hn | hn
  · have : L = [] := List.eq_nil_of_length_eq_zero hn
    subst this
    simp [rot]
  · constructor
    · intro h
      obtain ⟨i, hi, rfl⟩ := List.mem_map.1 h
      have h1 := Nat.mod_lt (i + t) hn
      rw [List.getD_eq_getElem?_getD, List.getElem?_eq_getElem h1]
      exact List.getElem_mem h1
    · intro h
      obtain ⟨p, hp, rfl⟩ := List.mem_iff_getElem.1 h
      have hr := Nat.mod_lt t hn
      refine List.mem_map.2 ⟨if t % L.length ≤ p then p - t % L.length else p + L.length - t % L.length, List.mem_range.2 (by split <;> omega), ?_⟩
      have e : ((if t % L.length ≤ p then p - t % L.length else p + L.length - t % L.length) + t) % L.length = p := by
        rw [rot_at hn (by split <;> omega)]
        split <;> split <;> omega
      rw [e, List.getD_eq_getElem?_getD, List.getElem?_eq_getElem hp]
      rfl
/-- Setting all of them gives the map again. -/
theorem rot_set {d : Bool} {L : List Pr} (hs : Srt d L) (t : Nat) : (rot L t L.length).foldl (fun m q => setR d m q.1 q.2) [] = L := by
  refine srt_ext (foldl_set_srt _ List.Pairwise.nil) hs fun x => ?_
  rw [foldl_set_mem _ _ _ (rot_ne hs t (Nat.le_refl _)), rot_mem]
  simp
theorem setR_le {d : Bool} {L : List Pr} (k : Int) (v : ByteArray) : (setR d L k v).length ≤ L.length + 1 := by
  unfold setR insR
  have := delR_len L k
  have := rank_le d (delR L k) k
  rw [List.length_append, List.length_cons, List.length_take, List.length_drop]
  omega
theorem fold_le {d : Bool} : ∀ (xs l : List Pr), (xs.foldl (fun m q => setR d m q.1 q.2) l).length ≤ l.length + xs.length
  | [], l => by simp
  | x :: xs, l => by
    rw [List.foldl_cons, List.length_cons]
    have h1 := fold_le (d := d) xs (setR d l x.1 x.2)
    have h2 := setR_le (d := d) (L := l) x.1 x.2
    omega
/-- A call that changes a map. -/
def stepL (d : Bool) (L : List Pr) (x : Int × Int × ByteArray) : List Pr := if x.1 = 1 then delR L x.2.1 else setR d L x.2.1 x.2.2
theorem stepL_srt {d : Bool} {L : List Pr} (x : Int × Int × ByteArray) (hs : Srt d L) : Srt d (stepL d L x) := by
  unfold stepL
  split
  · exact delR_srt hs _
  · exact setR_srt _ _ hs
theorem stepL_le {d : Bool} (L : List Pr) (x : Int × Int × ByteArray) : (stepL d L x).length ≤ L.length + 1 := by
  unfold stepL
  split
  · have := delR_len L x.2.1; omega
  · exact setR_le _ _
end Go.Proofs.Ytmmcnpcijeahcaa.J
