/-
  Layer 14's reference: a spoilt copy.
-/
import Derived.Test.YtmdebedkljpagaaJnF
namespace Go.Proofs.Ytmdebedkljpagaa.Jn
set_option linter.unusedVariables false
open Go.RowKit V Go.Sort D Nd Qs
attribute [local irreducible] Sch.heldN Sch.stepV Sch.stepE

theorem on_putRune {w : World} {base g c m : Nat} {l : List Nt} (h : ON w base Qs.E (.slice (some ⟨g, 0, none⟩) m c) l) {k : Nat} (hk : k < l.length) (z : Int) : ON (w.setCell ⟨g, k * 6 + 5, none⟩ (.int .i32 z)) base Qs.E (.slice (some ⟨g, 0, none⟩) m c) (l.set k (l[k].1, l[k].2.1, l[k].2.2.1, z)) := by
  rcases h.cur with ⟨e, -⟩ | ⟨g', cap, cur, e, hb, hg, hn, hc, hs, hr⟩
  · cases e
  · simp only [Value.slice.injEq, Option.some.injEq, Addr.mk.injEq, and_true] at e
    obtain ⟨rfl, rfl, rfl⟩ := e
    have := on_of (l := l.set k (l[k].1, l[k].2.1, l[k].2.2.1, z)) hb (heap_set hg (k * 6 + 5) (.int .i32 z)) (by simpa using hn) hc (by simpa using hs) (fun i hi j hj => ?_)
    · rw [List.length_set] at this; exact this
    · rw [List.length_set] at hi
      simp only [Array.getElem?_setIfInBounds]
      rw [List.getElem_set]
      by_cases e : k = i
      · subst e
        rw [if_pos rfl]
        by_cases e4 : j = 5
        · subst e4
          simp; omega
        · rw [if_neg (by omega), hr k hi j hj]
          match j, hj, e4 with
          | 0, _, _ => rfl
          | 1, _, _ => rfl
          | 2, _, _ => rfl
          | 3, _, _ => rfl
          | 4, _, _ => rfl
          | 5, _, h => exact absurd rfl h
      · rw [if_neg e, if_neg (by omega)]
        exact hr i hi j hj

set_option maxRecDepth 100000 in
set_option maxHeartbeats 4000000 in
theorem stain_ref (l : List Nt) (v : Value) (base : Nat) (w : World) (ho : ON w base 44 v l) (hlx : l.length ≤ 1000000) :
    Calls Try.prog 15 #[v] w fun e w' => e = .returned (.tuple #[]) ∧ Below base w w' := by
  obtain ⟨a, c, rfl, -, -, -, hax⟩ := ON.row ho
  have HX6 : Hid (∀ x, a = some x → x = ⟨x.block, 0, none⟩ ∧ base ≤ x.block) := fun x h => ⟨(hax x h).1, (hax x h).2.2.1⟩
  have HO := Lib.hid ho
  have hli : (l.length : Int) ≤ 1000000 := by omega
  clear ho hlx hax
  go_enter Try.func15, Try.ntmps15
  go_wp2_with fail
  go_loopw [2] (fun i wr => ∃ (k : Nat) (M : List Nt), k ≤ l.length ∧ i = .int .i64 (k : Int) ∧ M.length = l.length ∧ Hid (Below base w wr) ∧ Hid (ON wr base 44 (.slice a l.length c) M)) (fun i _ => l.length - (intOf i).toNat)
  case atStart => exact ⟨0, l, Nat.zero_le _, rfl, rfl, Below.refl _ _, HO⟩
  case round =>
    clear HO
    obtain ⟨k, M, hk, rfl, hM, HZ, HO⟩ := hrel
    by_cases hlt : k < l.length
    · have hi0 : (k : Int) < (l.length : Int) := by omega
      have hkM : k < M.length := by omega
      obtain ⟨g, rfl⟩ : ∃ g, a = some ⟨g, 0, none⟩ := by
        rcases a with _ | x
        · rcases (ON.r HO.out).1 with h | ⟨b, o, h, -⟩
          · rw [h] at hkM; exact absurd hkM (Nat.not_lt_zero _)
          · cases h
        · obtain ⟨e, -⟩ := HX6.out x rfl
          exact ⟨x.block, by rw [← e]⟩
      have hgb : base ≤ g := (HX6.out _ rfl).2
      have HGb := Lib.hid hgb
      have hix := ixS g 0 l.length c k (k : Int) rfl hlt
      simp only [Nat.zero_add] at hix
      have HM := Lib.hid hM
      have hn := HO.out.na k hkM
      obtain ⟨t, ht⟩ : ∃ t, t = M[k].2.2.1 := ⟨_, rfl⟩
      obtain ⟨r, hr⟩ : ∃ r, r = M[k].2.2.2 := ⟨_, rfl⟩
      have hcl := hn.2.2.2.2.1
      have hcr := hn.2.2.2.2.2
      rw [← ht] at hcl
      rw [← hr] at hcr
      have hO1 := HO.out.putTime hkM (wrap64 (t + 1))
      have hkM1 : k < (M.set k (M[k].1, M[k].2.1, wrap64 (t + 1), M[k].2.2.2)).length := by rw [List.length_set]; exact hkM
      have hO2 := on_putRune hO1 hkM1 88
      have hfr := HO.out.free (k * 6 + 4)
      have hfr2 := HO.out.free (k * 6 + 5)
      have HO2 := Lib.hid hO2
      have HB2 := Lib.hid ((HZ.out.setCell (p := ⟨g, k * 6 + 4, none⟩) HGb.out (.int .i64 (wrap64 (t + 1)))).setCell (p := ⟨g, k * 6 + 5, none⟩) HGb.out (.int .i32 88))
      have HL2 : Hid (((M.set k (M[k].1, M[k].2.1, wrap64 (t + 1), M[k].2.2.2)).set k (((M.set k (M[k].1, M[k].2.1, wrap64 (t + 1), M[k].2.2.2))[k]).1, ((M.set k (M[k].1, M[k].2.1, wrap64 (t + 1), M[k].2.2.2))[k]).2.1, ((M.set k (M[k].1, M[k].2.1, wrap64 (t + 1), M[k].2.2.2))[k]).2.2.1, 88)).length = l.length) := by
        show _ = _
        rw [List.length_set, List.length_set]
        exact HM.out
      clear hgb hn ht hr hO1 hO2 hM HZ HO
      generalize ((M.set k (M[k].1, M[k].2.1, wrap64 (t + 1), M[k].2.2.2)).set k (((M.set k (M[k].1, M[k].2.1, wrap64 (t + 1), M[k].2.2.2))[k]).1, ((M.set k (M[k].1, M[k].2.1, wrap64 (t + 1), M[k].2.2.2))[k]).2.1, ((M.set k (M[k].1, M[k].2.1, wrap64 (t + 1), M[k].2.2.2))[k]).2.2.1, 88)) = M2 at *
      go_wp2_with fail
      refine ⟨⟨k + 1, M2, by omega, by go_num, HL2.out, HB2, HO2⟩, ?_⟩
      simp [intOf]; omega
    · obtain rfl : k = l.length := by omega
      have hend : ¬ (l.length : Int) < (l.length : Int) := by omega
      go_wp2_with fail
      go_end0
      exact ⟨rfl, HZ.out⟩
end Go.Proofs.Ytmdebedkljpagaa.Jn
