/-
  The reference's Name.
-/
import Derived.Test.YtmmcnpcijeahcabGreatDoorRRefB
import Derived.Test.YtmmcnpcijeahcabGreatDoorRName
namespace Go.Proofs.YtmmcnpcijeahcabGreatDoor.R
set_option linter.unusedVariables false
open Go.RowKit V

theorem digit_str (d : Nat) (h : d < 16) : (⟨#[48, 49, 50, 51, 52, 53, 54, 55, 56, 57, 65, 66, 67, 68, 69, 70]⟩ : ByteArray).extract d (d + 1) = ⟨[du d].toArray⟩ := by
  apply ba_ext
  rw [Lib.extract_data]
  have : d = 0 ∨ d = 1 ∨ d = 2 ∨ d = 3 ∨ d = 4 ∨ d = 5 ∨ d = 6 ∨ d = 7 ∨ d = 8 ∨ d = 9 ∨ d = 10 ∨ d = 11 ∨ d = 12 ∨ d = 13 ∨ d = 14 ∨ d = 15 := by omega
  rcases this with rfl | rfl | rfl | rfl | rfl | rfl | rfl | rfl | rfl | rfl | rfl | rfl | rfl | rfl | rfl | rfl <;> rfl

theorem lastk_succ (k n : Nat) (h : n / 16 ^ k % 16 < 16) : (lastk (k + 1) n).map du = [du (n / 16 ^ k % 16)] ++ (lastk k n).map du := by simp [lastk]

set_option maxRecDepth 100000 in
set_option maxHeartbeats 1000000 in
theorem rname_any (n : Nat) (hn : n ≤ 1114111) (w : World) :
    Calls Tryz.prog 36 #[.int .i32 (n : Int)] w fun e w' => e = .returned (.string ⟨(nm n).toArray⟩) ∧ w = w' := by
  go_enter Tryz.func36, Tryz.ntmps36
  go_wp2_with fail
  go_loop [3, 4] (fun x z => ∃ (k m : Nat), k ≤ 6 ∧ z = .int .i64 m ∧ x = .string ⟨((lastk k n).map du).toArray⟩ ∧ Hid (m = n / 16 ^ k) ∧ Hid (k ≤ 4 ∨ 16 ^ (k - 1) ≤ n)) (fun x _ => 6 - (match x with | .string s => s.size | _ => 0))
  case atStart => exact ⟨0, n, by omega, rfl, rfl, by show _ = _; simp, .inl (by omega)⟩
  case round =>
    obtain ⟨k, m, hk, rfl, rfl, HM, HG⟩ := hrel
    have hm20 : m ≤ 1114111 := by rw [HM.out]; exact Nat.le_trans (Nat.div_le_self _ _) hn
    have hkl : ((lastk k n).map du).length = k := by rw [List.length_map, lastk_length]
    by_cases hgo : 0 < m ∨ k < 4
    · have hk5 : k < 6 := by
        rcases hgo with h | h
        · rcases Nat.lt_or_ge k 6 with h6 | h6
          · exact h6
          · exfalso
            have h1 : (16 : Nat) ^ 6 ≤ 16 ^ k := Nat.pow_le_pow_right (by omega) h6
            have h2 : (16 : Nat) ^ 6 = 16777216 := by decide
            have := HM.out
            rw [Nat.div_eq_of_lt (by omega)] at this
            omega
        · omega
      have hd16 : m % 16 < 16 := Nat.mod_lt _ (by omega)
      have HS := Lib.hid (digit_str (m % 16) hd16)
      have HL : Hid ((lastk (k + 1) n).map du = [du (m % 16)] ++ (lastk k n).map du) := by show _ = _; simp [lastk, HM.out]
      have HDv : Hid (m / 16 = n / 16 ^ (k + 1)) := by show _ = _; rw [HM.out, Nat.div_div_eq_div_mul, Nat.pow_succ]
      have HKl := Lib.hid hkl
      generalize (lastk k n).map du = L at *
      have hsz : (⟨L.toArray⟩ : ByteArray).size = k := by rw [← hkl]; simp [ByteArray.size]
      clear hkl
      by_cases h0 : 0 < m
      · have q0 : decide ((0 : Int) < (m : Int)) = true := by simp; exact h0
        have HG2 : Hid (16 ^ (k + 1 - 1) ≤ n) := by
          show _ ≤ _
          rw [Nat.add_sub_cancel]
          have h1 := HM.out
          rcases Nat.lt_or_ge n (16 ^ k) with h | h
          · rw [Nat.div_eq_of_lt h] at h1; omega
          · exact h
        clear hgo
        go_wp2_with fail
        go_round
        case rel => exact ⟨k + 1, m / 16, by omega, rfl, by rw [HS.out, G.str_app, HL.out], HDv.out, .inr HG2.out⟩
        case measure =>
          rw [HS.out, G.str_app]
          show 6 - (⟨([du (m % 16)] ++ L).toArray⟩ : ByteArray).size < 6 - (⟨L.toArray⟩ : ByteArray).size
          rw [hsz]
          simp [ByteArray.size, HKl.out]
          omega
      · have q0 : decide ((0 : Int) < (m : Int)) = false := by simp; omega
        have q1 : decide ((k : Int) < 4) = true := by simp; omega
        have hm0 : m = 0 := by omega
        subst hm0
        have K3 : Hid (k + 1 ≤ 4) := by show _ ≤ _; omega
        clear hgo
        go_wp2_with fail
        go_round
        case rel => exact ⟨k + 1, 0, by omega, rfl, by rw [HL.out, ← G.str_app, ← HS.out], HDv.out, .inl K3.out⟩
        case measure =>
          show 6 - (_ ++ (⟨L.toArray⟩ : ByteArray)).size < 6 - (⟨L.toArray⟩ : ByteArray).size
          rw [hsz]
          simp [ByteArray.size, HKl.out]
          omega
    · have q0 : decide ((0 : Int) < (m : Int)) = false := by simp; omega
      have hm0 : m = 0 := by omega
      subst hm0
      have HKl := Lib.hid hkl
      have hlt : n < 16 ^ k := by
        have := HM.out
        rcases Nat.lt_or_ge n (16 ^ k) with h | h
        · exact h
        · exfalso
          have h1 := Nat.div_pos h (Nat.pow_pos (by omega))
          omega
      have HN : Hid (nm n = [85, 43] ++ (lastk k n).map du) := by
        exact nm_lastk n k (by omega) hlt (by rcases HG.out with h | h; left; omega; right; exact h)
      generalize (lastk k n).map du = L at *
      have hsz : (⟨L.toArray⟩ : ByteArray).size = k := by rw [← hkl]; simp [ByteArray.size]
      have q1 : decide ((k : Int) < 4) = false := by simp; omega
      clear hkl hgo
      go_wp2_with fail
      go_ret
      exact ⟨by rw [HN.out, ← G.str_app]; rfl, rfl⟩
end Go.Proofs.YtmmcnpcijeahcabGreatDoor.R
