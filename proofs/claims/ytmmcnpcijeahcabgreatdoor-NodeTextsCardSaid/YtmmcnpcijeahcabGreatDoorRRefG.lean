/-
  The reference's ByName.
-/
import Derived.Test.YtmmcnpcijeahcabGreatDoorRRefF
namespace Go.Proofs.YtmmcnpcijeahcabGreatDoor.R
set_option linter.unusedVariables false
open Go.RowKit V

/-- The value of an upper-case digit. -/
def hU (c : Nat) : Option Nat := if 48 ≤ c ∧ c ≤ 57 then some (c - 48) else if 65 ≤ c ∧ c ≤ 70 then some (c - 55) else none
def pv : Nat → List UInt8 → Option Nat
  | a, [] => some a
  | a, c :: t => match hU c.toNat with | none => none | some d => pv (16 * a + d) t
theorem hU_du {d : Nat} (h : d < 16) : hU (du d).toNat = some d := by
  have : d = 0 ∨ d = 1 ∨ d = 2 ∨ d = 3 ∨ d = 4 ∨ d = 5 ∨ d = 6 ∨ d = 7 ∨ d = 8 ∨ d = 9 ∨ d = 10 ∨ d = 11 ∨ d = 12 ∨ d = 13 ∨ d = 14 ∨ d = 15 := by omega
  rcases this with rfl | rfl | rfl | rfl | rfl | rfl | rfl | rfl | rfl | rfl | rfl | rfl | rfl | rfl | rfl | rfl <;> rfl
theorem pv_lastk (n : Nat) : ∀ k acc, acc = n / 16 ^ k → pv acc ((lastk k n).map du) = some n
  | 0, acc, h => by simp [lastk, pv, h]
  | k + 1, acc, h => by
    have h16 : n / 16 ^ k % 16 < 16 := Nat.mod_lt _ (by omega)
    have hq : 16 * acc + n / 16 ^ k % 16 = n / 16 ^ k := by
      rw [h, Nat.pow_succ, ← Nat.div_div_eq_div_mul]
      omega
    rw [lastk, List.map_cons, pv, hU_du h16]
    simp only [hq]
    exact pv_lastk n k _ rfl
theorem pv_nm {n : Nat} (h : n ≤ 1114111) {t : List UInt8} (e : [85, 43] ++ t = nm n) : pv 0 t = some n := by
  obtain ⟨k, h4, h6, hk, _, e2⟩ := nm_parts n h
  rw [e2] at e
  rw [List.append_cancel_left e]
  exact pv_lastk n k 0 (by rw [Nat.div_eq_of_lt hk])
theorem pv_step {t : List UInt8} {m j : Nat} (hj : j < t.length) : pv m (t.drop j) = match hU (at8 t j) with | none => none | some d => pv (16 * m + d) (t.drop (j + 1)) := by
  rw [List.drop_eq_getElem_cons hj, pv]
  simp [at8, hj]
theorem at8_pre (t : List UInt8) (j : Nat) : at8 ([85, 43] ++ t) (j + 2) = at8 t j := rfl
theorem vld_le {n : Nat} (h : vld (n : Int) = true) : n ≤ 1114111 := by
  have := vld_iff.1 h
  omega

/-- The rune with a name, or none. -/
def ByN (s : List UInt8) (e : Ending) : Prop :=
  (∃ n : Nat, vld (n : Int) = true ∧ s = nm n ∧ e = .returned (.tuple #[.int .i32 (n : Int), .bool true])) ∨ ((∀ n : Nat, vld (n : Int) = true → s ≠ nm n) ∧ e = .returned (.tuple #[.int .i32 0, .bool false]))

set_option maxRecDepth 100000 in
set_option maxHeartbeats 1000000 in
theorem rbyname_any (s : List UInt8) (w : World) (hlen : s.length ≤ 4398046511104) :
    Calls Tryz.prog 42 #[.string ⟨s.toArray⟩] w fun e w' => ByN s e ∧ w = w' := by
  obtain ⟨S, hS⟩ : ∃ S : ByteArray, S = ⟨s.toArray⟩ := ⟨_, rfl⟩
  have hSz : S.size = s.length := by rw [hS]; simp [ByteArray.size]
  by_cases h6 : s.length < 6
  · have HN : Hid (∀ n : Nat, vld (n : Int) = true → s ≠ nm n) := by
      rintro n hn rfl
      have := (nm_len n (vld_le hn)).1
      omega
    have q0 : decide ((S.size : Int) < 6) = true := by rw [hSz]; simp; omega
    rw [← hS]
    clear hS h6 hSz
    go_enter Tryz.func42, Tryz.ntmps42
    go_wp2_with fail
    go_ret2
    exact ⟨.inr ⟨HN.out, rfl⟩, rfl⟩
  by_cases h8 : 8 < s.length
  · have HN : Hid (∀ n : Nat, vld (n : Int) = true → s ≠ nm n) := by
      rintro n hn rfl
      have := (nm_len n (vld_le hn)).2
      omega
    have q0 : decide ((S.size : Int) < 6) = false := by rw [hSz]; simp; omega
    have q1 : decide ((8 : Int) < (S.size : Int)) = true := by rw [hSz]; simp; omega
    rw [← hS]
    clear hS h6 h8 hSz
    go_enter Tryz.func42, Tryz.ntmps42
    go_wp2_with fail
    go_ret2
    exact ⟨.inr ⟨HN.out, rfl⟩, rfl⟩
  have q0 : decide ((S.size : Int) < 6) = false := by rw [hSz]; simp; omega
  have q1 : decide ((8 : Int) < (S.size : Int)) = false := by rw [hSz]; simp; omega
  have hs2 : 2 ≤ S.size := by rw [hSz]; omega
  have hex2 : (S.extract 0 2).toList = s.take 2 := by rw [ByteArray.toList_eq, Lib.extract_data, hS]; simp
  have HEx := Lib.hid hex2
  by_cases hp : s.take 2 = [85, 43]
  · have hpp : ((S.extract 0 2).toList == [85, 43]) = true := by rw [beq_iff_eq, hex2]; exact hp
    obtain ⟨t, rfl⟩ : ∃ t, s = [85, 43] ++ t := ⟨s.drop 2, by rw [← hp, List.take_append_drop]⟩
    have htl : 4 ≤ t.length ∧ t.length ≤ 6 := by rw [List.length_append] at h6 h8; simp at h6 h8; omega
    obtain ⟨ht4, ht6⟩ := htl
    have hst : S.size = t.length + 2 := by rw [hSz, List.length_append]; simp; omega
    have hix := fun k (hk : k < S.size) => idx_str ([85, 43] ++ t) k (by rw [← hSz]; exact hk)
    rw [← hS] at hix
    have HIx := Lib.hid hix
    have HNm : Hid (∀ n : Nat, vld (n : Int) = true → [85, 43] ++ t = nm n → pv 0 t = some n) := fun n hn e => pv_nm (vld_le hn) e
    have HSl : Hid (S.toList = [85, 43] ++ t) := by show _ = _; rw [hS]; simp
    rw [← hS]
    clear hS h6 h8 hp hSz hex2 hix hlen
    go_enter Tryz.func42, Tryz.ntmps42
    go_wp2_with fail
    go_loop [4, 5] (fun x i => ∃ (m j : Nat), j ≤ t.length ∧ i = .int .i64 ((j : Int) + 2) ∧ x = .int .i64 m ∧ Hid (m < 16 ^ j) ∧ Hid (pv 0 t = pv m (t.drop j))) (fun _ i => t.length + 2 - (intOf i).toNat)
    case atStart => exact ⟨0, 0, Nat.zero_le _, rfl, rfl, by show _ < _; simp, by show _ = _; rfl⟩
    case round =>
      obtain ⟨m, j, hj, rfl, rfl, HM, HP⟩ := hrel
      have hm6 : m < 16777216 := by
        have h1 : (16 : Nat) ^ j ≤ 16 ^ 6 := Nat.pow_le_pow_right (by omega) (by omega)
        have h2 : (16 : Nat) ^ 6 = 16777216 := by decide
        have := HM.out
        omega
      by_cases hlt : j < t.length
      · have hx0 := HIx.out (j + 2) (by omega) .i64
        have hx : ∀ w : World, (Instr.index 9 (.string S) (.int .i64 ((j : Int) + 2))).run Tryz.prog w = .ok (.int .u8 (at8 t j : Int)) w := hx0
        have HSt := Lib.hid (pv_step (m := m) hlt)
        have hb := at8_lt t j
        have q2 : decide ((j : Int) + 2 < (S.size : Int)) = true := by rw [hst]; simp; omega
        clear hx0
        generalize at8 t j = b at *
        by_cases c1 : b < 48
        · have a1 : decide ((48 : Int) ≤ (b : Int)) = false := by simp; omega
          have a2 : decide ((65 : Int) ≤ (b : Int)) = false := by simp; omega
          have HN : Hid (∀ n : Nat, vld (n : Int) = true → [85, 43] ++ t ≠ nm n) := by
            intro n hn e
            have h1 := HNm.out n hn e
            have h2 := HSt.out
            rw [HP.out, h2] at h1
            have h3 : hU b = none := by unfold hU; rw [if_neg (by omega), if_neg (by omega)]
            rw [h3] at h1
            cases h1
          clear c1
          go_wp2_with fail
          go_ret2
          exact ⟨.inr ⟨HN.out, rfl⟩, rfl⟩
        have a1 : decide ((48 : Int) ≤ (b : Int)) = true := by simp; omega
        by_cases c2 : b ≤ 57
        · have a2 : decide ((b : Int) ≤ 57) = true := by simp; omega
          have hge : (48 : Int) ≤ (b : Int) := by omega
          have h3 : hU b = some (b - 48) := by unfold hU; rw [if_pos (by omega)]
          have HSt2 : Hid (pv 0 t = pv (16 * m + (b - 48)) (t.drop (j + 1))) := by
            show _ = _
            rw [HP.out, HSt.out, h3]
          have HM2 : Hid (16 * m + (b - 48) < 16 ^ (j + 1)) := by
            show _ < _
            have := HM.out
            rw [Nat.pow_succ]
            omega
          have E : Hid (((16 * m + (b - 48) : Nat) : Int) = 16 * (m : Int) + ((b : Int) - 48)) := by show _ = _; omega
          clear c1 c2
          clear h3 HSt
          go_wp2_with fail
          go_round
          case rel => exact ⟨16 * m + (b - 48), j + 1, by omega, by go_num, by rw [E.out], HM2.out, HSt2.out⟩
          case measure => simp [intOf]; omega
        have a2 : decide ((b : Int) ≤ 57) = false := by simp; omega
        by_cases c3 : b < 65
        · have a3 : decide ((65 : Int) ≤ (b : Int)) = false := by simp; omega
          have HN : Hid (∀ n : Nat, vld (n : Int) = true → [85, 43] ++ t ≠ nm n) := by
            intro n hn e
            have h1 := HNm.out n hn e
            have h2 := HSt.out
            rw [HP.out, h2] at h1
            have h3 : hU b = none := by unfold hU; rw [if_neg (by omega), if_neg (by omega)]
            rw [h3] at h1
            cases h1
          clear c1 c2 c3
          go_wp2_with fail
          go_ret2
          exact ⟨.inr ⟨HN.out, rfl⟩, rfl⟩
        have a3 : decide ((65 : Int) ≤ (b : Int)) = true := by simp; omega
        by_cases c4 : b ≤ 70
        · have a4 : decide ((b : Int) ≤ 70) = true := by simp; omega
          have hge : (65 : Int) ≤ (b : Int) := by omega
          have h3 : hU b = some (b - 55) := by unfold hU; rw [if_neg (by omega), if_pos (by omega)]
          have HSt2 : Hid (pv 0 t = pv (16 * m + (b - 55)) (t.drop (j + 1))) := by
            show _ = _
            rw [HP.out, HSt.out, h3]
          have HM2 : Hid (16 * m + (b - 55) < 16 ^ (j + 1)) := by
            show _ < _
            have := HM.out
            rw [Nat.pow_succ]
            omega
          have E : Hid (((16 * m + (b - 55) : Nat) : Int) = 16 * (m : Int) + 10 + ((b : Int) - 65)) := by show _ = _; omega
          clear c1 c2 c3 c4
          clear h3 HSt
          go_wp2_with fail
          go_round
          case rel => exact ⟨16 * m + (b - 55), j + 1, by omega, by go_num, by rw [E.out], HM2.out, HSt2.out⟩
          case measure => simp [intOf]; omega
        have a4 : decide ((b : Int) ≤ 70) = false := by simp; omega
        · have HN : Hid (∀ n : Nat, vld (n : Int) = true → [85, 43] ++ t ≠ nm n) := by
            intro n hn e
            have h1 := HNm.out n hn e
            have h2 := HSt.out
            rw [HP.out, h2] at h1
            have h3 : hU b = none := by unfold hU; rw [if_neg (by omega), if_neg (by omega)]
            rw [h3] at h1
            cases h1
          clear c1 c2 c3 c4
          go_wp2_with fail
          go_ret2
          exact ⟨.inr ⟨HN.out, rfl⟩, rfl⟩
      · obtain rfl : j = t.length := by omega
        have HE : Hid (∀ n : Nat, vld (n : Int) = true → [85, 43] ++ t = nm n → n = m) := by
          intro n hn e
          have h1 := HNm.out n hn e
          rw [HP.out, List.drop_length, pv] at h1
          exact (Option.some.inj h1).symm
        have q2 : decide ((t.length : Int) + 2 < (S.size : Int)) = false := by rw [hst]; simp
        by_cases hv : vld (m : Int) = true
        · have HV := Lib.hid (fun wx => rvalid_yes (m : Int) wx hv)
          have HVm := Lib.hid hv
          have HNa := Lib.hid (fun wx => rname_any m (vld_le hv) wx)
          have hnl : (⟨(nm m).toArray⟩ : ByteArray).toList = nm m := by simp
          by_cases he : nm m = [85, 43] ++ t
          · have hq : ((⟨(nm m).toArray⟩ : ByteArray).toList == S.toList) = true := by rw [beq_iff_eq, hnl, HSl.out]; exact he
            have HEq := Lib.hid he.symm
            clear hv he hnl
            generalize (⟨(nm m).toArray⟩ : ByteArray) = M at *
            go_wp2_with (first | (go_at_call 29; refine (HV.out _).mono ?_; rintro e w' ⟨rfl, rfl⟩) | (go_at_call 36; refine (HNa.out _).mono ?_; rintro e w' ⟨rfl, rfl⟩))
            go_ret2
            exact ⟨.inl ⟨m, HVm.out, HEq.out, rfl⟩, rfl⟩
          · have hq : ((⟨(nm m).toArray⟩ : ByteArray).toList == S.toList) = false := by rw [beq_eq_false_iff_ne, hnl, HSl.out]; exact he
            have HN : Hid (∀ n : Nat, vld (n : Int) = true → [85, 43] ++ t ≠ nm n) := by
              intro n hn e
              have := HE.out n hn e
              subst this
              exact he e.symm
            clear hv he hnl
            generalize (⟨(nm m).toArray⟩ : ByteArray) = M at *
            go_wp2_with (first | (go_at_call 29; refine (HV.out _).mono ?_; rintro e w' ⟨rfl, rfl⟩) | (go_at_call 36; refine (HNa.out _).mono ?_; rintro e w' ⟨rfl, rfl⟩))
            go_ret2
            exact ⟨.inr ⟨HN.out, rfl⟩, rfl⟩
        · have hv' : vld (m : Int) = false := by simpa using hv
          have HV := Lib.hid (fun wx => rvalid_not (m : Int) wx (by omega) hv')
          have HN : Hid (∀ n : Nat, vld (n : Int) = true → [85, 43] ++ t ≠ nm n) := by
            intro n hn e
            have := HE.out n hn e
            subst this
            exact hv hn
          clear hv hv'
          go_wp2_with (go_at_call 29; refine (HV.out _).mono ?_; rintro e w' ⟨rfl, rfl⟩)
          go_ret2
          exact ⟨.inr ⟨HN.out, rfl⟩, rfl⟩
  · have HN : Hid (∀ n : Nat, vld (n : Int) = true → s ≠ nm n) := by
      rintro n hn rfl
      exact hp (nm_pU n (vld_le hn)).1
    have hpp : ((S.extract 0 2).toList == [85, 43]) = false := by rw [beq_eq_false_iff_ne, hex2]; exact hp
    rw [← hS]
    clear hS h6 h8 hp hSz hex2
    go_enter Tryz.func42, Tryz.ntmps42
    go_wp2_with fail
    go_ret2
    exact ⟨.inr ⟨HN.out, rfl⟩, rfl⟩
end Go.Proofs.YtmmcnpcijeahcabGreatDoor.R
