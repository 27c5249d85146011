/-
  The reference's time.
-/
import Derived.Test.YtmmcnpcijeahcabGreatDoorNWrd
namespace Go.Proofs.YtmmcnpcijeahcabGreatDoor.Nd
set_option linter.unusedVariables false
open Go.RowKit V Go.Sort D

theorem tR_no {m : Nat} {c : UInt8} {t : List UInt8} (h : c.toNat < 48 ∨ 57 < c.toNat ∨ 461168601842738790 < m) : tR m (c :: t) = 0 := by rw [tR, if_pos h]
theorem tR_go {m : Nat} {c : UInt8} {t : List UInt8} (h : ¬ (c.toNat < 48 ∨ 57 < c.toNat ∨ 461168601842738790 < m)) : tR m (c :: t) = tR (10 * m + c.toNat - 48) t := by rw [tR, if_neg h]

set_option maxRecDepth 100000 in
set_option maxHeartbeats 4000000 in
theorem time_ref (l : List UInt8) (w : World) (hl : l.length ≤ 1000000) :
    Calls Tryz.prog 41 #[.string ⟨l.toArray⟩] w fun e w' => e = .returned (.int .i64 (tR 0 l : Nat)) ∧ w = w' := by
  have hsz := ba_size l
  have HIx := Lib.hid (fun k hk => D.idx_str l k hk .i64)
  have HD : Hid (∀ k (hk : k < l.length), l.drop k = l.getD k 0 :: l.drop (k + 1)) := by
    intro k hk
    rw [List.drop_eq_getElem_cons hk]
    simp [List.getD, hk]
  have hli : (l.length : Int) ≤ 1000000 := by omega
  generalize hS : (⟨l.toArray⟩ : ByteArray) = S at *
  clear hS hl
  go_enter Tryz.func41, Tryz.ntmps41
  go_wp2_with fail
  go_loop [3, 4] (fun x i => ∃ (m j : Nat), j ≤ l.length ∧ i = .int .i64 j ∧ x = .int .i64 m ∧ Hid (m ≤ 4611686018427387909) ∧ Hid (tR 0 l = tR m (l.drop j))) (fun _ i => l.length - (intOf i).toNat)
  case atStart => exact ⟨0, 0, Nat.zero_le _, rfl, rfl, by show _ ≤ _; omega, rfl⟩
  case round =>
    obtain ⟨m, j, hj, rfl, rfl, HM, HT⟩ := hrel
    by_cases hlt : j < l.length
    · have hlt2 : j < S.size := by omega
      have hix := fun w => HIx.out j hlt w (by omega)
      have HT2 := Lib.hid (HT.out.trans (congrArg (tR m) (HD.out j hlt)))
      have HN := Lib.hid (fun t => tR_no (m := m) (c := l.getD j 0) (t := t))
      have HG := Lib.hid (fun t => tR_go (m := m) (c := l.getD j 0) (t := t))
      have hm8 : ((l.getD j 0).toNat : Int) < 256 := by have := (l.getD j 0).toNat_lt; omega
      generalize l.getD j 0 = c0 at *
      generalize c0.toNat = b at *
      by_cases c1 : b < 48
      · have a1 : decide ((b : Int) < 48) = true := by simp; omega
        have HZ : Hid (tR 0 l = 0) := by show _ = _; rw [HT2.out, HN.out _ (.inl c1)]
        clear c1
        go_wp2_with fail
        go_ret
        rw [HZ.out]
        exact ⟨rfl, rfl⟩
      have a1 : decide ((b : Int) < 48) = false := by simp; omega
      by_cases c2 : 57 < b
      · have a2 : decide ((57 : Int) < (b : Int)) = true := by simp; omega
        have HZ : Hid (tR 0 l = 0) := by show _ = _; rw [HT2.out, HN.out _ (.inr (.inl c2))]
        clear c1 c2
        go_wp2_with fail
        go_ret
        rw [HZ.out]
        exact ⟨rfl, rfl⟩
      have a2 : decide ((57 : Int) < (b : Int)) = false := by simp; omega
      by_cases c3 : 461168601842738790 < m
      · have a3 : decide ((461168601842738790 : Int) < (m : Int)) = true := by simp; omega
        have HZ : Hid (tR 0 l = 0) := by show _ = _; rw [HT2.out, HN.out _ (.inr (.inr c3))]
        clear c1 c2 c3
        go_wp2_with fail
        go_ret
        rw [HZ.out]
        exact ⟨rfl, rfl⟩
      have a3 : decide ((461168601842738790 : Int) < (m : Int)) = false := by simp; omega
      have HZ : Hid (tR 0 l = tR (10 * m + b - 48) (l.drop (j + 1))) := by show _ = _; rw [HT2.out, HG.out _ (by omega)]
      have HM2 : Hid (10 * m + b - 48 ≤ 4611686018427387909) := by show _ ≤ _; omega
      have E : Hid (((10 * m + b - 48 : Nat) : Int) = 10 * (m : Int) + (b : Int) - 48) := by show _ = _; omega
      have b1 : (m : Int) ≤ 461168601842738790 := by omega
      have b2 : (48 : Int) ≤ (b : Int) := by omega
      have b3 : (b : Int) ≤ 57 := by omega
      clear c1 c2 c3 HN HG
      go_wp2_with fail
      go_round
      case rel => exact ⟨10 * m + b - 48, j + 1, by omega, by go_num, by rw [E.out], HM2.out, HZ.out⟩
      case measure => simp [intOf]; omega
    · obtain rfl : j = l.length := by omega
      have HE : Hid (tR 0 l = m) := by show _ = _; rw [HT.out, List.drop_length, tR]
      have hlt2 : ¬ l.length < S.size := by omega
      go_wp2_with fail
      go_ret
      rw [HE.out]
      exact ⟨rfl, rfl⟩
end Go.Proofs.YtmmcnpcijeahcabGreatDoor.Nd
