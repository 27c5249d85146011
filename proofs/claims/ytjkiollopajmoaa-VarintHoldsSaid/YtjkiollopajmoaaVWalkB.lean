import Derived.Test.YtjkiollopajmoaaVWalkA
namespace Go.Proofs.Ytjkiollopajmoaa.V
set_option linter.unusedVariables false
open Go.RowKit

theorem ret3 {k1 k2 k3 : IntKind} {a b c a' b' c' : Int} (h1 : a = a') (h2 : b = b') (h3 : c = c') :
    Ending.returned (.tuple #[.int k1 a, .int k2 b, .int k3 c]) = .returned (.tuple #[.int k1 a', .int k2 b', .int k3 c']) := by rw [h1, h2, h3]

/-- The byte with an index, as a number. -/
theorem at_byte (s : ByteArray) (k : Nat) (h : k < s.size) : ∃ c : UInt8, s.data.toList.drop k = c :: s.data.toList.drop (k + 1) ∧
    ∀ (P : Program) (t : TypeId), P.underlying t = some .string → ∀ w, (Instr.index t (.string s) (.int .i64 (k : Int))).run P w = .ok (.int .u8 (c.toNat : Int)) w := by
  refine ⟨s[k], ?_, ?_⟩
  · have : k < s.data.toList.length := by simpa using h
    rw [List.drop_eq_getElem_cons this]
    rfl
  · intro P t ht w
    simp [Instr.index, asIntOf, run_underlying ht, h]

set_option maxRecDepth 100000 in
set_option maxHeartbeats 400000 in
theorem parse_any (s : ByteArray) (w : World) (hs : s.size ≤ 9223372036854775807) :
    Calls Try.prog 46 #[.string s] w fun e w' => e = .returned (.tuple #[.int .u64 (rd s.data.toList 0 0).1, .int .i64 (rd s.data.toList 0 0).2.1, .int .i64 (rd s.data.toList 0 0).2.2]) ∧ w = w' := by
  by_cases h10 : s.size ≤ 10
  all_goals
    go_enter Try.func46, Try.ntmps46
    go_wp2
    go_loop [5, 11] (fun n i => ∃ k a : Nat, k ≤ s.size ∧ k ≤ 9 ∧ i = .int .i64 k ∧ n = .int .u64 a ∧ Hid (a < 128 ^ k) ∧ Hid (rd s.data.toList 0 0 = rd (s.data.toList.drop k) k a)) (fun _ i => 10 - (intOf i).toNat)
    case atStart => exact ⟨0, 0, Nat.zero_le _, Nat.zero_le _, rfl, rfl, by simp [Hid], rfl⟩
    case round =>
      obtain ⟨k, a, hk, hk10, rfl, rfl, ha, hr⟩ := hrel
      by_cases hlt : k < s.size
      · obtain ⟨c, hd, hix⟩ := at_byte s k hlt
        have hix' := hix Try.prog 9 Try.underlying9
        have e7 := low7 c
        obtain ⟨m, hm⟩ : ∃ m, m = c.toNat := ⟨_, rfl⟩
        obtain ⟨g, hg⟩ : ∃ g, g = c.toNat % 128 := ⟨_, rfl⟩
        rw [← hg, ← hm] at e7
        rw [← hm] at hix'
        have hm2 : m < 256 := by have := c.toNat_lt; omega
        have hg2 : g < 128 := by omega
        have hD : Hid (_ ∧ _ ∧ _) := ⟨hd, hm, hg⟩
        clear hd hix hm hg
        go_wp2
        all_goals try go_ret3
        case roundEnd =>
          obtain ⟨hd, hm, hg⟩ := hD.out
          have t1 : (128 : Int) ≤ (m : Int) := by assumption
          have t2 : ¬ (k : Int) = 9 := by assumption
          have e := group_or a g k (by omega) ha.out hg2 (by omega)
          refine ⟨⟨k + 1, a + g * 128 ^ k, by omega, by omega, by go_num, by rw [e], below_group ha.out hg2, ?_⟩, by simp [intOf]; omega⟩
          show rd _ 0 0 = _
          rw [rd_more hd hr.out (by omega) (by omega), ← hg]
        all_goals obtain ⟨hd, hm, hg⟩ := hD.out
        all_goals first
          | (have t0 : (k : Int) = 9 := by assumption
             first
               | (have t1 : (1 : Int) < (m : Int) := by assumption
                  rw [rd_over hd hr.out (by omega) (by omega)]
                  exact ⟨rfl, rfl⟩)
               | (have t1 : (m : Int) ≤ 1 := by assumption
                  have t2 : m = 0 := by assumption
                  rw [rd_zero hd hr.out (by omega) (by omega)]
                  exact ⟨rfl, rfl⟩)
               | (have t1 : (m : Int) ≤ 1 := by assumption
                  have t2 : ¬ m = 0 := by assumption
                  have h9 : k = 9 := by omega
                  have ha9 : a < 128 ^ 9 := by have := ha.out; rwa [h9] at this
                  rw [rd_last hd hr.out (by omega) (by omega) (by omega), ← hg, h9]
                  exact ⟨ret3 (group_or9 a g ha9 (by omega)) rfl rfl, rfl⟩))
          | (have t0 : ¬ (k : Int) = 9 := by assumption
             have t1 : (m : Int) < 128 := by assumption
             have e := group_or a g k (by omega) ha.out hg2 (by omega)
             first
               | (have t2 : m = 0 := by assumption
                  have t3 : 0 < k := by assumption
                  rw [rd_zero hd hr.out (by omega) t3]
                  exact ⟨rfl, rfl⟩)
               | (have t2 : ¬ m = 0 := by assumption
                  rw [rd_last hd hr.out (by omega) (by omega) (by omega), ← hg]
                  exact ⟨ret3 e rfl rfl, rfl⟩)
               | (have t3 : ¬ 0 < k := by assumption
                  rw [rd_last hd hr.out (by omega) (by omega) (by omega), ← hg]
                  exact ⟨ret3 e rfl rfl, rfl⟩))
      · have hend : ¬ (k : Int) < s.size := by omega
        go_wp2
        all_goals
          go_ret3
          rw [rd_none hr.out (by simp; omega)]
          exact ⟨rfl, rfl⟩
end Go.Proofs.Ytjkiollopajmoaa.V
