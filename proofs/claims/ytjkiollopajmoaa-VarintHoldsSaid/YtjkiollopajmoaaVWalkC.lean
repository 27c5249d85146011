import Derived.Test.YtjkiollopajmoaaVWalkB
import Derived.Test.YtjkiollopajmoaaVMem
namespace Go.Proofs.Ytjkiollopajmoaa.V
set_option linter.unusedVariables false
open Go.RowKit

set_option maxRecDepth 100000 in
set_option maxHeartbeats 400000 in
theorem read_any (l : List UInt8) (a : Option Addr) (cap : Nat) (w : World) (hl : l.length ≤ 9223372036854775807) (hrow : Row8 w a l) :
    Calls Try.prog 50 #[.slice a l.length cap] w fun e w' => e = .returned (.tuple #[.int .u64 (rd l 0 0).1, .int .i64 (rd l 0 0).2.1, .int .i64 (rd l 0 0).2.2]) ∧ w = w' := by
  by_cases hne : l = []
  · subst hne
    have hr : rd [] 0 0 = (0, 0, 4) := rfl
    rw [hr]
    clear hr hrow
    go_enter Try.func50, Try.ntmps50
    go_wp2
    refine wp_loop_rounds 1 ?_
    rw [rounds_succ]
    go_wp2
    go_ret3
    exact ⟨rfl, rfl⟩
  · obtain ⟨b, o, rfl, hc⟩ := hrow.resolve_left hne
    clear hrow
    have HC := Lib.hid hc
    clear hc
    go_enter Try.func50, Try.ntmps50
    go_wp2
    go_loop [5, 6, 7] (fun n f i => ∃ k x y : Nat, k ≤ l.length ∧ k ≤ 10 ∧ i = .int .i64 k ∧ n = .int .u64 x ∧ f = .int .u64 y ∧ Hid ((k ≤ 9 ∧ x < 128 ^ k ∧ y = 128 ^ k ∧ rd l 0 0 = rd (l.drop k) k x) ∨ (k = 10 ∧ rd l 0 0 = (0, 0, 12)))) (fun _ _ i => 10 - (intOf i).toNat)
    case atStart => exact ⟨0, 0, 1, Nat.zero_le _, Nat.zero_le _, rfl, rfl, rfl, .inl ⟨by omega, by simp, by simp, rfl⟩⟩
    case round =>
      obtain ⟨k, x, y, hk, hk10, rfl, rfl, rfl, hr⟩ := hrel
      by_cases hlt : k < l.length
      · obtain ⟨m, hm, hcell⟩ : ∃ m : Nat, m = l[k].toNat ∧ w.cell? ⟨b, o + k, none⟩ = some (.int .u8 (m : Int)) := ⟨_, rfl, HC.out k hlt⟩
        have hm2 : m < 256 := by have := l[k].toNat_lt; omega
        have hcell9 : (k : Int) = 9 → w.cell? ⟨b, o + 9, none⟩ = some (.int .u8 (m : Int)) := by
          intro h
          have : k = 9 := by omega
          rw [← this]; exact hcell
        have hd := List.drop_eq_getElem_cons hlt
        have HM : Hid (_ ∧ _) := ⟨hm, hd⟩
        clear hm hd
        go_wp2
        all_goals try go_ret3
        all_goals obtain ⟨hm, hd⟩ := HM.out
        all_goals first
          | (have t0 : (k : Int) = 9 := by assumption
             rcases hr.out with ⟨hk9, hx, hy, hr⟩ | ⟨hk, _⟩
             rotate_left
             · omega
             · first
               | (have t1 : (1 : Int) < (m : Int) % 128 := by assumption
                  rw [rd_over hd hr (by omega) (by omega)]
                  exact ⟨rfl, rfl⟩)
               | (have t1 : (128 : Int) ≤ (m : Int) := by assumption
                  rw [ref_x9, ref_y9]
                  refine ⟨⟨10, _, _, by omega, by omega, by go_num, rfl, rfl, .inr ⟨rfl, ?_⟩⟩, by simp [intOf]; omega⟩
                  rw [rd_high hd hr (by omega) (by omega)])
               | (have t1 : (m : Int) % 128 = 0 := by assumption
                  have t2 : (m : Int) < 128 := by assumption
                  rw [rd_zero hd hr (by omega) (by omega)]
                  exact ⟨rfl, rfl⟩)
               | (have t1 : ¬ (m : Int) % 128 = 0 := by assumption
                  have t2 : (m : Int) < 128 := by assumption
                  have t3 : (m : Int) % 128 ≤ 1 := by assumption
                  rw [rd_last hd hr (by omega) (by omega) (by omega), ← hm]
                  have e10 : (10 : Int) = ((k + 1 : Nat) : Int) := by omega
                  exact ⟨ret3 (ref_n x y m k hk9 hx hy (by omega)) e10 rfl, rfl⟩))
          | (have t0 : ¬ (k : Int) = 9 := by assumption
             have t0' : (k : Int) < 10 := by assumption
             rcases hr.out with ⟨hk9, hx, hy, hr⟩ | ⟨hk, _⟩
             rotate_left
             · omega
             · first
               | (have t1 : (128 : Int) ≤ (m : Int) := by assumption
                  rw [ref_n x y m k hk9 hx hy (by omega), ref_y y k (by omega) hy]
                  refine ⟨⟨k + 1, _, _, by omega, by omega, by go_num, rfl, rfl, .inl ⟨by omega, below_group hx (by omega), rfl, ?_⟩⟩, by simp [intOf]; omega⟩
                  rw [rd_more hd hr (by omega) (by omega), ← hm])
               | (have t1 : (m : Int) % 128 = 0 := by assumption
                  have t2 : (m : Int) < 128 := by assumption
                  have t3 : 0 < k := by assumption
                  rw [rd_zero hd hr (by omega) t3]
                  exact ⟨rfl, rfl⟩)
               | (have t1 : (m : Int) % 128 = 0 := by assumption
                  have t2 : (m : Int) < 128 := by assumption
                  have t3 : ¬ 0 < k := by assumption
                  rw [rd_last hd hr (by omega) (by omega) (by omega), ← hm]
                  exact ⟨ret3 (ref_n0 x k m hk9 hx (by omega)) rfl rfl, rfl⟩)
               | (have t1 : ¬ (m : Int) % 128 = 0 := by assumption
                  have t2 : (m : Int) < 128 := by assumption
                  rw [rd_last hd hr (by omega) (by omega) (by omega), ← hm]
                  exact ⟨ret3 (ref_n x y m k hk9 hx hy (by omega)) rfl rfl, rfl⟩))
          | (have t0 : (10 : Int) ≤ (k : Int) := by assumption
             rcases hr.out with ⟨hk9, _⟩ | ⟨_, hr⟩
             · omega
             · rw [hr]
               exact ⟨rfl, rfl⟩)
      · have hkl : k = l.length := by omega
        have hrd : k ≤ 9 → rd l 0 0 = (0, 0, 4) := by
          intro h9
          rcases hr.out with ⟨_, _, _, hr⟩ | ⟨hk, _⟩
          · exact rd_none hr (by omega)
          · omega
        have hrd2 : k = 10 → rd l 0 0 = (0, 0, 12) := by
          intro h9
          rcases hr.out with ⟨_, _, _, hr⟩ | ⟨_, hr⟩
          · omega
          · exact hr
        have HR : Hid (_ ∧ _) := ⟨hrd, hrd2⟩
        clear hrd hrd2 hr
        have hend : ((k : Int) == (l.length : Int)) = true := by rw [hkl]; simp
        have HK := Lib.hid hkl
        clear hkl
        go_wp2
        all_goals go_ret3
        all_goals first
          | (have t0 : (10 : Int) ≤ (k : Int) := by assumption
             rw [HR.out.2 (by omega)]
             exact ⟨rfl, rfl⟩)
          | (have t0 : (k : Int) < 10 := by assumption
             rw [HR.out.1 (by omega)]
             exact ⟨rfl, rfl⟩)
end Go.Proofs.Ytjkiollopajmoaa.V
