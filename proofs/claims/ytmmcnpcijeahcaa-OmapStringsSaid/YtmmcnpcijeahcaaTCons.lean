/-
  How Go's own maps follow the map.
-/
import Derived.Test.YtmmcnpcijeahcaaTBase
namespace Go.Proofs.Ytmmcnpcijeahcaa.Jt
set_option linter.unusedVariables false
open Go.RowKit V Go.Shelf

theorem kl_key (n : Nat) : WideAt.IsKeyLit (kl n) := trivial
/-- What first and count say of the pairs. -/
def Cs (L : List Pr) (D1 D2 : DataW Unit) : Prop :=
  (∀ p ∈ L, D1.atKey (kl p.1.s.size) (ls ⟨#[]⟩) = ls p.1.s) ∧ (∀ p ∈ L, D2.atKey (kl p.1.s.size) (lz 0) = lz p.2.n ∧ 1 ≤ p.2.n) ∧ (∀ k, (∀ p ∈ L, p.1.s.size ≠ k) → Maps.has D2 (kl k) = false) ∧ Maps.size D2 = L.length
theorem Cs.start : Cs [] (.map []) (.map []) := ⟨(by simp), (by simp), (fun k _ => rfl), rfl⟩
theorem mem_ins {L : List Pr} {n : Nat} {k : Ky} {v : Sl} {q : Pr} (h : q ∈ insAt L n k v) : q = (k, v) ∨ q ∈ L := by
  unfold insAt at h
  rw [List.mem_append, List.mem_cons] at h
  rcases h with h | h | h
  · exact .inr (List.mem_of_mem_take h)
  · exact .inl h
  · exact .inr (List.mem_of_mem_drop h)
theorem ins_mem {L : List Pr} {n : Nat} {k : Ky} {v : Sl} {q : Pr} (h : q = (k, v) ∨ q ∈ L) : q ∈ insAt L n k v := by
  unfold insAt
  rw [List.mem_append, List.mem_cons]
  rcases h with h | h
  · exact .inr (.inl h)
  · rw [← List.take_append_drop n L] at h
    rcases List.mem_append.1 h with h | h
    · exact .inl h
    · exact .inr (.inr h)
section
variable {d : Bool} {L : List Pr} {k : Ky} {v : Sl} {p : Pr} {D1 D2 : DataW Unit}
/-- A length that is new. -/
theorem Cs.new (h : Cs L D1 D2) (hs : Srt d L) (hf : find d L k = none) (h1 : Maps.IsMap D1) (h2 : Maps.Tidy D2) (hv : v.n = 1) : Cs (setR d L k v) (D1.put (kl k.s.size) (ls k.s)) (D2.put (kl k.s.size) (lz 1)) := by
  have hn := find_none hs hf
  rw [← set_new v hs hf]
  obtain ⟨a, b, c, e⟩ := h
  refine ⟨fun q hq => ?_, fun q hq => ?_, fun k' hk' => ?_, ?_⟩
  · rcases mem_ins hq with rfl | hq
    · exact Maps.atKey_put_same h1 (kl_key _) _ _
    · rw [Maps.atKey_put_other (kl_ne (hn q hq))]; exact a q hq
  · rcases mem_ins hq with rfl | hq
    · refine ⟨?_, by show 1 ≤ v.n; omega⟩
      show _ = lz v.n
      rw [hv]
      exact Maps.atKey_put_same h2.isMap (kl_key _) _ _
    · rw [Maps.atKey_put_other (kl_ne (hn q hq))]; exact b q hq
  · have hne : k.s.size ≠ k' := hk' (k, v) (ins_mem (.inl rfl))
    rw [Maps.has_put_other (kl_ne hne.symm)]
    exact c k' fun q hq => hk' q (ins_mem (.inr hq))
  · rw [Maps.size_put h2, c k.s.size hn, insAt_len, e]
    rfl
theorem old_at (hs : Srt d L) (hf : find d L k = some p) : ∃ (h : rank d L k < L.length), L[rank d L k] = p ∧ p.1.s.size = k.s.size ∧ setR d L k v = L.set (rank d L k) (p.1, v) := by
  obtain ⟨h1, h2, h3⟩ := find_some hf
  refine ⟨h1, h2, h3, ?_⟩
  rw [← set_old v hs hf, setAt_set h1, h2]
theorem old_mem (hs : Srt d L) (hf : find d L k = some p) {q : Pr} (hq : q ∈ setR d L k v) : q = (p.1, v) ∨ (q ∈ L ∧ q.1.s.size ≠ k.s.size) := by
  obtain ⟨h1, h2, h3, h4⟩ := old_at (v := v) hs hf
  rw [h4] at hq
  obtain ⟨j, hj, rfl⟩ := List.mem_iff_getElem.1 hq
  rw [List.length_set] at hj
  rw [List.getElem_set]
  split
  · exact .inl rfl
  · rename_i hne
    refine .inr ⟨List.getElem_mem hj, ?_⟩
    have e2 : L[rank d L k].1.s.size = k.s.size := by rw [h2]; exact h3
    rcases Nat.lt_or_gt_of_ne hne with h | h
    · have := List.pairwise_iff_getElem.1 hs _ j h1 hj h
      rw [bef_iff] at this
      omega
    · have := List.pairwise_iff_getElem.1 hs j _ hj h1 h
      rw [bef_iff] at this
      omega
/-- A length that was there. -/
theorem Cs.old (h : Cs L D1 D2) (hs : Srt d L) (hf : find d L k = some p) (h2 : Maps.Tidy D2) (hv : v.n = p.2.n + 1) : Cs (setR d L k v) D1 (D2.put (kl k.s.size) (lz (p.2.n + 1))) := by
  obtain ⟨i1, i2, i3, i4⟩ := old_at (v := v) hs hf
  have hp : p ∈ L := by rw [← i2]; exact List.getElem_mem i1
  obtain ⟨a, b, c, e⟩ := h
  refine ⟨fun q hq => ?_, fun q hq => ?_, fun k' hk' => ?_, ?_⟩
  · rcases old_mem hs hf hq with rfl | ⟨hq, -⟩
    · exact a p hp
    · exact a q hq
  · rcases old_mem hs hf hq with rfl | ⟨hq, hne⟩
    · refine ⟨?_, by show 1 ≤ v.n; omega⟩
      show _ = lz v.n
      rw [hv, i3]
      exact Maps.atKey_put_same h2.isMap (kl_key _) _ _
    · rw [Maps.atKey_put_other (kl_ne hne)]; exact b q hq
  · have hx : (p.1, v) ∈ setR d L k v := by rw [i4]; exact List.mem_iff_getElem.2 ⟨_, by simpa using i1, by simp⟩
    have hne : k.s.size ≠ k' := by rw [← i3]; exact hk' (p.1, v) hx
    rw [Maps.has_put_other (kl_ne hne.symm)]
    refine c k' fun q hq => ?_
    obtain ⟨j, hj, rfl⟩ := List.mem_iff_getElem.1 hq
    have hm : (L.set (rank d L k) (p.1, v))[j]'(by simpa using hj) ∈ setR d L k v := by rw [i4]; exact List.getElem_mem _
    have := hk' _ hm
    rw [List.getElem_set] at this
    split at this
    · rename_i hjr
      subst hjr
      rw [i2]
      exact this
    · exact this
  · have hh : Maps.has D2 (kl k.s.size) = true := by
      rcases hx : Maps.has D2 (kl k.s.size) with _ | _
      · obtain ⟨b1, b2⟩ := b p hp
        rw [i3, Maps.atKey_of_not_has hx] at b1
        injection b1 with b1
        injection b1 with _ b1
        omega
      · rfl
    rw [Maps.size_put h2, hh, i4, List.length_set, e]
    rfl
theorem Cs.none (h : Cs L D1 D2) (hs : Srt d L) (hf : find d L k = none) : D2.atKey (kl k.s.size) (lz 0) = lz 0 := Maps.atKey_of_not_has (h.2.2.1 _ (find_none hs hf)) _
theorem Cs.some (h : Cs L D1 D2) (hs : Srt d L) (hf : find d L k = some p) : D2.atKey (kl k.s.size) (lz 0) = lz p.2.n ∧ 1 ≤ p.2.n := by
  obtain ⟨h1, h2, h3⟩ := find_some hf
  have hp : p ∈ L := by rw [← h2]; exact List.getElem_mem h1
  rw [← h3]
  exact h.2.1 p hp
end
/-- All values are as long as rounds were made. -/
theorem vals_le {d : Bool} {L : List Pr} {k : Ky} {v : Sl} {n : Nat} (hs : Srt d L) (h : ∀ p ∈ L, p.2.n ≤ n) (hv : v.n ≤ n + 1) : ∀ p ∈ setR d L k v, p.2.n ≤ n + 1 := by
  intro q hq
  rcases hf : find d L k with _ | p
  · rw [← set_new v hs hf] at hq
    rcases mem_ins hq with rfl | hq
    · exact hv
    · have := h q hq; omega
  · rcases old_mem hs hf hq with rfl | ⟨hq, -⟩
    · exact hv
    · have := h q hq; omega
theorem vals_rows {d : Bool} {L : List Pr} {k : Ky} {v : Sl} {w : World} (hs : Srt d L) (h : Vs w L) (hv : Vr w v) : Vs w (setR d L k v) := by
  intro q hq
  rcases hf : find d L k with _ | p
  · rw [← set_new v hs hf] at hq
    rcases mem_ins hq with rfl | hq
    · exact hv
    · exact h q hq
  · rcases old_mem hs hf hq with rfl | ⟨hq, -⟩
    · exact hv
    · exact h q hq
end Go.Proofs.Ytmmcnpcijeahcaa.Jt
