/-
  Hexadecimal text as numbers: the library's way.
-/
import Derived.Test.YtmmcnpcijeahcabGreatDoorRBase
import Derived.Test.YtmmcnpcijeahcabGreatDoorShelf
import Derived.Laws.EntriesVeiled
import Derived.Deep.CutRange
import Derived.Deep.CutBlock
namespace Go.Proofs.YtmmcnpcijeahcabGreatDoor.R
set_option linter.unusedVariables false
open Go.RowKit V

set_option maxRecDepth 100000 in
set_option maxHeartbeats 2000000 in
theorem parse_empty (w : World) :
    Calls Tryz.prog 85 #[.string ⟨#[]⟩, .int .i64 16, .int .i64 31] w fun e w' => e = .returned (.tuple #[.int .u64 0, .iface 99 (.int .i64 2)]) ∧ w = w' := by
  go_enter Tryz.func85, Tryz.ntmps85
  go_wp2_with fail
  go_ret2
  exact ⟨rfl, rfl⟩

theorem lower_nat (c : UInt8) : ∃ m : UInt8, bits .or .u8 (c.toNat : Int) 32 = (m.toNat : Int) ∧ (m.toNat = if c.toNat / 32 % 2 = 1 then c.toNat else c.toNat + 32) := by
  have hc := c.toNat_lt
  have h := u8_or_nat c.toNat 32 (by omega) (by omega)
  have e : c.toNat ||| 32 = if c.toNat / 32 % 2 = 1 then c.toNat else c.toNat + 32 := by
    generalize c.toNat = n at *
    have : ∀ m : Fin 256, m.val ||| 32 = if m.val / 32 % 2 = 1 then m.val else m.val + 32 := by decide +kernel
    exact this ⟨n, by omega⟩
  rw [e] at h
  have hlt : (if c.toNat / 32 % 2 = 1 then c.toNat else c.toNat + 32) < 256 := by split <;> omega
  refine ⟨u (if c.toNat / 32 % 2 = 1 then c.toNat else c.toNat + 32), ?_, u_toNat hlt⟩
  rw [u_toNat hlt]
  exact h

theorem hv_dig {c : UInt8} (h : 48 ≤ c.toNat ∧ c.toNat ≤ 57) : hv c = some (c.toNat - 48) := by unfold hv; rw [if_pos h]
theorem hv_alpha {c : UInt8} {m : Nat} (hm : m = if c.toNat / 32 % 2 = 1 then c.toNat else c.toNat + 32) (h : ¬ (48 ≤ c.toNat ∧ c.toNat ≤ 57)) (h1 : 97 ≤ m ∧ m ≤ 122) :
    hv c = if m < 103 then some (m - 87) else none := by
  have hc := c.toNat_lt
  unfold hv
  rw [if_neg h]
  split at hm
  · by_cases h2 : 97 ≤ c.toNat ∧ c.toNat ≤ 102
    · rw [if_neg (by omega), if_pos h2, if_pos (by omega), hm]
    · rw [if_neg (by omega), if_neg h2, if_neg (by omega)]
  · by_cases h2 : 65 ≤ c.toNat ∧ c.toNat ≤ 70
    · rw [if_pos h2, if_pos (by omega)]; congr 1; omega
    · rw [if_neg h2, if_neg (by omega), if_neg (by omega)]
theorem hv_other {c : UInt8} {m : Nat} (hm : m = if c.toNat / 32 % 2 = 1 then c.toNat else c.toNat + 32) (h : ¬ (48 ≤ c.toNat ∧ c.toNat ≤ 57)) (h1 : ¬ (97 ≤ m ∧ m ≤ 122)) : hv c = none := by
  have hc := c.toNat_lt
  unfold hv
  rw [if_neg h]
  split at hm
  · rw [if_neg (by omega), if_neg (by omega)]
  · rw [if_neg (by omega), if_neg (by omega)]

set_option maxRecDepth 100000 in
set_option maxHeartbeats 2000000 in
theorem parse_any (c0 : UInt8) (t : List UInt8) (w : World) (hlen : (c0 :: t).length ≤ 140737488355328) :
    Calls Tryz.prog 85 #[.string ⟨(c0 :: t).toArray⟩, .int .i64 16, .int .i64 31] w fun e w' =>
      (∃ n, pU 2147483647 (c0 :: t) = some n ∧ e = .returned (.tuple #[.int .u64 (n : Int), .nilIface]) ∧ Below w.heap.size w w') ∨
      (pU 2147483647 (c0 :: t) = none ∧ ∃ v k, e = .returned (.tuple #[.int .u64 v, .iface 99 (.int .i64 k)]) ∧ (k = 1 ∨ k = 2) ∧ Below w.heap.size w w') := by
  have htl : t.length ≤ 140737488355327 := by simpa using hlen
  obtain ⟨g, c, w1, hcv, hrow, hb, -, -⟩ := G.str_bytes (P := Tryz.prog) w 9 78 5 (c0 :: t) Tryz.underlying9 Tryz.underlying78 Tryz.underlying5
  have HRow := Lib.hid hrow
  have HB := Lib.hid hb
  obtain ⟨l, hl⟩ : ∃ l, l = c0 :: t := ⟨_, rfl⟩
  have hne : l ≠ [] := by rw [hl]; simp
  have hN : l.length = t.length + 1 := by rw [hl]; rfl
  rw [← hl] at HRow
  have HN := Lib.hid hN
  have HL := Lib.hid hl
  clear hrow hb hl hN
  go_enter Tryz.func85, Tryz.ntmps85
  go_wp2_with fail
  rw [← HL.out]
  have HP : Hid (pU 2147483647 l = pF 2147483647 0 l) := by show _ = _; unfold pU; rw [if_neg hne]
  clear hcv hne
  go_loop [12, 13, 101] (fun z x i => ∃ (n k : Nat), z = .bool false ∧ x = .int .u64 n ∧ i = .int .i64 k ∧ k ≤ t.length + 1 ∧ n ≤ 2147483647 ∧ Hid (pU 2147483647 l = pF 2147483647 n (l.drop k))) (fun _ _ i => t.length + 1 - (intOf i).toNat)
  case atStart => exact ⟨0, 0, rfl, rfl, rfl, by omega, by omega, HP.out⟩
  case round =>
    obtain ⟨n, k, rfl, rfl, rfl, hk, hn, HE⟩ := hrel
    by_cases hlt : k < t.length + 1
    · have hkl : k < l.length := by rw [HN.out]; exact hlt
      obtain ⟨c, hc⟩ : ∃ c, c = l[k] := ⟨_, rfl⟩
      have hcell : w1.cell? ⟨g, k, none⟩ = some (.int .u8 (c.toNat : Int)) := by
        rcases HRow.out with h | ⟨b, o, e, h⟩
        · rw [h] at hkl; simp at hkl
        · cases e
          rw [hc]
          simpa using h k hkl
      have hE2 : pU 2147483647 l = pF 2147483647 n (c :: l.drop (k + 1)) := by rw [HE.out, List.drop_eq_getElem_cons hkl, hc]
      have HE2 := Lib.hid hE2
      have hc8 := c.toNat_lt
      obtain ⟨m, hm, hm2⟩ := lower_nat c
      have hm8 := m.toNat_lt
      have HM2 := Lib.hid hm2
      clear hc hE2 hkl hm2 HE HP
      by_cases hA : 48 ≤ c.toNat ∧ c.toNat ≤ 57
      · have HV := Lib.hid (hv_dig hA)
        obtain ⟨hA1, hA2⟩ := hA
        have h95 : ((c.toNat : Int) == 95) = false := by rw [beq_eq_false_iff_ne]; omega
        have hco : decide ((1152921504606846976 : Int) ≤ (n : Int)) = false := by rw [decide_eq_false_iff_not]; omega
        have hlo : decide ((n : Int) * 16 + ((c.toNat : Int) - 48) < (n : Int) * 16) = false := by rw [decide_eq_false_iff_not]; omega
        by_cases hR : (2147483647 : Int) < (n : Int) * 16 + ((c.toNat : Int) - 48)
        · have hRb : decide ((2147483647 : Int) < (n : Int) * 16 + ((c.toNat : Int) - 48)) = true := by simpa using hR
          have HQ : Hid (pU 2147483647 l = none) := by show _ = _; rw [HE2.out, pF, HV.out]; simp only; rw [if_pos (by omega)]
          go_wp2_with (go_at_call 105; refine (Tryz.internal_strconv_lower _ _).mono ?_; rintro e w' ⟨rfl, rfl⟩)
          all_goals
            go_ret2
            exact .inr ⟨by rw [← HL.out]; exact HQ.out, _, _, rfl, .inl rfl, HB.out⟩
        · have hRb : decide ((2147483647 : Int) < (n : Int) * 16 + ((c.toNat : Int) - 48)) = false := by simpa using hR
          have HQ : Hid (pU 2147483647 l = pF 2147483647 (n * 16 + (c.toNat - 48)) (l.drop (k + 1))) := by show _ = _; rw [HE2.out, pF, HV.out]; simp only; rw [if_neg (by omega)]
          go_wp2_with (go_at_call 105; refine (Tryz.internal_strconv_lower _ _).mono ?_; rintro e w' ⟨rfl, rfl⟩)
          all_goals
            go_round
            case rel => exact ⟨n * 16 + (c.toNat - 48), k + 1, rfl, by congr 1; omega, by go_num, by omega, by omega, HQ⟩
            case measure => simp [intOf]; omega
      · by_cases hM : 97 ≤ m.toNat ∧ m.toNat ≤ 122
        · have HV0 := Lib.hid (hv_alpha HM2.out hA hM)
          obtain ⟨hM1, hM2⟩ := hM
          have h95 : ((c.toNat : Int) == 95) = false := by
            rw [beq_eq_false_iff_ne]
            intro e
            have e' : c.toNat = 95 := by omega
            have := HM2.out
            rw [e'] at this
            simp at this
            omega
          by_cases h16 : m.toNat < 103
          · have HV : Hid (hv c = some (m.toNat - 87)) := by show _ = _; rw [HV0.out, if_pos h16]
            have hco : decide ((1152921504606846976 : Int) ≤ (n : Int)) = false := by rw [decide_eq_false_iff_not]; omega
            have hlo : decide ((n : Int) * 16 + ((m.toNat : Int) - 97 + 10) < (n : Int) * 16) = false := by rw [decide_eq_false_iff_not]; omega
            by_cases hR : (2147483647 : Int) < (n : Int) * 16 + ((m.toNat : Int) - 97 + 10)
            · have hRb : decide ((2147483647 : Int) < (n : Int) * 16 + ((m.toNat : Int) - 97 + 10)) = true := by simpa using hR
              have HQ : Hid (pU 2147483647 l = none) := by show _ = _; rw [HE2.out, pF, HV.out]; simp only; rw [if_pos (by omega)]
              go_wp2_with (go_at_call 105; refine (Tryz.internal_strconv_lower _ _).mono ?_; rintro e w' ⟨rfl, rfl⟩)
              all_goals
                go_ret2
                exact .inr ⟨by rw [← HL.out]; exact HQ.out, _, _, rfl, .inl rfl, HB.out⟩
            · have hRb : decide ((2147483647 : Int) < (n : Int) * 16 + ((m.toNat : Int) - 97 + 10)) = false := by simpa using hR
              have HQ : Hid (pU 2147483647 l = pF 2147483647 (n * 16 + (m.toNat - 87)) (l.drop (k + 1))) := by show _ = _; rw [HE2.out, pF, HV.out]; simp only; rw [if_neg (by omega)]
              go_wp2_with (go_at_call 105; refine (Tryz.internal_strconv_lower _ _).mono ?_; rintro e w' ⟨rfl, rfl⟩)
              all_goals
                go_round
                case rel => exact ⟨n * 16 + (m.toNat - 87), k + 1, rfl, by congr 1; omega, by go_num, by omega, by omega, HQ⟩
                case measure => simp [intOf]; omega
          · have HQ : Hid (pU 2147483647 l = none) := by show _ = _; rw [HE2.out, pF, HV0.out, if_neg h16]
            go_wp2_with (go_at_call 105; refine (Tryz.internal_strconv_lower _ _).mono ?_; rintro e w' ⟨rfl, rfl⟩)
            all_goals
              go_ret2
              exact .inr ⟨by rw [← HL.out]; exact HQ.out, _, _, rfl, .inr rfl, HB.out⟩
        · have HV := Lib.hid (hv_other HM2.out hA hM)
          have HQ : Hid (pU 2147483647 l = none) := by show _ = _; rw [HE2.out, pF, HV.out]
          have e95 : bits .or .u8 95 32 = 127 := by kernel_rfl
          have hM' : (m.toNat : Int) < 97 ∨ 122 < (m.toNat : Int) := by omega
          rcases hM' with hM1 | hM1
          all_goals
            go_wp2_with (go_at_call 105; refine (Tryz.internal_strconv_lower _ _).mono ?_; rintro e w' ⟨rfl, rfl⟩)
            all_goals
              go_ret2
              exact .inr ⟨by rw [← HL.out]; exact HQ.out, _, _, rfl, .inr rfl, HB.out⟩
    · obtain rfl : k = t.length + 1 := by omega
      have hend : ¬ ((t.length : Int) + 1) < (t.length : Int) + 1 := by omega
      have HQ : Hid (pU 2147483647 l = some n) := by show _ = _; rw [HE.out, List.drop_of_length_le (by rw [HN.out]; omega)]; rfl
      go_wp2_with fail
      go_ret2
      exact .inl ⟨n, by rw [← HL.out]; exact HQ.out, rfl, HB.out⟩
end Go.Proofs.YtmmcnpcijeahcabGreatDoor.R
