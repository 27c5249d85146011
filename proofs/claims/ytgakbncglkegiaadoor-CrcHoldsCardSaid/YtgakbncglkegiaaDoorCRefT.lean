/-
  The reference's Text and Parse.
-/
import Derived.Test.YtgakbncglkegiaaDoorCText
namespace Go.Proofs.YtgakbncglkegiaaDoor.C
set_option linter.unusedVariables false
open Go.RowKit V

theorem cut_dig (d : Nat) (h : d < 16) (w : World) :
    (Instr.slice 9 (.string { data := #[48, 49, 50, 51, 52, 53, 54, 55, 56, 57, 97, 98, 99, 100, 101, 102] }) (some (.int .u32 (d : Int))) (some (.int .u32 ((d : Int) + 1))) none).run Tryd.prog w = .ok (.string ⟨#[dl d]⟩) w := by
  rcases sixteen h with rfl | rfl | rfl | rfl | rfl | rfl | rfl | rfl | rfl | rfl | rfl | rfl | rfl | rfl | rfl | rfl
  all_goals (show Sem.run _ _ _ = _; kernel_rfl)

set_option maxRecDepth 100000 in
set_option maxHeartbeats 1000000 in
theorem text_ref (n : Nat) (hn : n < 4294967296) (w : World) :
    Calls Tryd.prog 18 #[.int .u32 (n : Int)] w fun e w' => e = .returned (.string ⟨(txt n).toArray⟩) ∧ w = w' := by
  have HN := Lib.hid hn
  clear hn
  go_enter Tryd.func18, Tryd.ntmps18
  go_wp2_with fail
  go_loop [0, 3, 4, 5] (fun q s i _ => ∃ (k m : Nat) (l : List UInt8), k ≤ 8 ∧ i = .int .i64 k ∧ q = .int .u32 m ∧ s = .string ⟨l.toArray⟩ ∧ Hid (m = n / 16 ^ k) ∧ Hid (l = (lastk k n).map dl)) (fun _ _ i _ => 8 - (intOf i).toNat)
  case atStart => exact ⟨0, n, [], by omega, rfl, rfl, rfl, by show _ = _; simp, rfl⟩
  case round =>
    obtain ⟨k, m, l, hk, rfl, rfl, rfl, HM, HL⟩ := hrel
    by_cases hlt : k < 8
    · obtain ⟨d, hd⟩ : ∃ d, d = m % 16 := ⟨_, rfl⟩
      have hd16 : d < 16 := by omega
      have hcut := cut_dig d hd16
      have hm1 : (m : Int) % 16 = (d : Int) := by omega
      have hd1 : ((d : Int) + 1) % 4294967296 = (d : Int) + 1 := by omega
      have HM2 : Hid (m / 16 = n / 16 ^ (k + 1)) := by show _ = _; rw [HM.out, Nat.div_div_eq_div_mul, Nat.pow_succ]
      have HL2 : Hid (dl d :: l = (lastk (k + 1) n).map dl) := by show _ = _; rw [lastk, List.map_cons, ← HL.out, ← HM.out, hd]
      have hmq : (m : Int) / 16 % 4294967296 = ((m / 16 : Nat) : Int) := by
        have : m ≤ n := by rw [HM.out]; exact Nat.div_le_self _ _
        have := HN.out
        omega
      have hl8 : l.length ≤ 8 := by rw [HL.out, List.length_map, lastk_length]; omega
      clear hd
      generalize m / 16 = m2 at *
      go_wp2_with fail
      refine ⟨⟨k + 1, m2, dl d :: l, by omega, by go_num, by rw [hmq], ?_, HM2, HL2⟩, by simp [intOf]; omega⟩
      exact congrArg Value.string (G.str_app [dl d] l)
    · obtain rfl : k = 8 := by omega
      go_wp2_with fail
      go_ret
      exact ⟨by rw [HL.out]; rfl, rfl⟩

theorem idx_str (l : List UInt8) (k : Nat) (hk : k < l.length) (kd : IntKind) (w : World) (hb : k ≤ 140737488355328) :
    (Instr.index 9 (.string ⟨l.toArray⟩) (.int kd (k : Int))).run Tryd.prog w = .ok (.int .u8 ((l.getD k 0).toNat : Int)) w := by
  have h1 : (⟨l.toArray⟩ : ByteArray).size = l.length := by simp [ByteArray.size]
  have hk' : k < (⟨l.toArray⟩ : ByteArray).size := by rw [h1]; exact hk
  have h2 : (⟨l.toArray⟩ : ByteArray)[k]? = some ((⟨l.toArray⟩ : ByteArray)[k]'hk') := by rw [getElem?_pos]
  have h3 : (⟨l.toArray⟩ : ByteArray)[k]'hk' = l.getD k 0 := by
    show l.toArray[k] = _
    simp [List.getD, hk]
  have h4 : IntKind.i64.wrap (k : Int) = (k : Int) := by rw [IntKind.wrap_i64]; omega
  simp [Instr.index, run_underlying Tryd.underlying9, asIntOf, Result.andThen, hk', h3, h2]
theorem small_m {m k : Nat} (hk : k < 8) (h : m < 16 ^ k) : m < 268435456 := by
  have h2 : 16 ^ k ≤ 16 ^ 7 := Nat.pow_le_pow_right (by omega) (by omega)
  have h3 : (16 : Nat) ^ 7 = 268435456 := rfl
  omega
theorem pv_cons {n : Nat} {c : UInt8} {t : List UInt8} : pv n (c :: t) = match lv c with | none => none | some d => pv (n * 16 + d) t := rfl

set_option maxRecDepth 100000 in
set_option maxHeartbeats 1000000 in
theorem parse_ref (l : List UInt8) (w : World) (hlen : l.length ≤ 140737488355328) :
    Calls Tryd.prog 19 #[.string ⟨l.toArray⟩] w fun e w' => ((∃ n, prs l = some n ∧ e = .returned (.tuple #[.int .u32 (n : Int), .bool true])) ∨ (prs l = none ∧ e = .returned (.tuple #[.int .u32 0, .bool false]))) ∧ w = w' := by
  have hsz : (⟨l.toArray⟩ : ByteArray).size = l.length := by simp [ByteArray.size]
  by_cases h8 : l.length = 8
  · have HP : Hid (prs l = pv 0 l) := by show _ = _; unfold prs; rw [if_pos h8]
    have HG : Hid (∀ k : Nat, k < 8 → ∀ wx : World, (Instr.index 9 (.string ⟨l.toArray⟩) (.int .i64 (k : Int))).run Tryd.prog wx = .ok (.int .u8 ((l.getD k 0).toNat : Int)) wx) := fun k hk wx => idx_str l k (by omega) .i64 wx (by omega)
    have HD : Hid (∀ k, k < 8 → l.drop k = l.getD k 0 :: l.drop (k + 1)) := by
      intro k hk
      rw [List.drop_eq_getElem_cons (show k < l.length by omega)]
      simp [List.getD, show k < l.length by omega]
    have HE : Hid (l.drop 8 = []) := by show _ = _; rw [List.drop_eq_nil_iff]; omega
    rw [h8] at hsz
    clear hlen h8
    generalize (⟨l.toArray⟩ : ByteArray) = S at *
    go_enter Tryd.func19, Tryd.ntmps19
    go_wp2_with fail
    go_loop [2, 3, 4, 5, 6] (fun _ _ q i _ => ∃ (k m : Nat), k ≤ 8 ∧ i = .int .i64 k ∧ q = .int .u32 m ∧ Hid (m < 16 ^ k) ∧ Hid (prs l = pv m (l.drop k))) (fun _ _ _ i _ => 8 - (intOf i).toNat)
    case atStart => exact ⟨0, 0, by omega, rfl, rfl, by show _ < _; omega, HP⟩
    case round =>
      obtain ⟨k, m, hk, rfl, rfl, HM, HV⟩ := hrel
      by_cases hlt : k < 8
      · have hg := HG.out k hlt
        have HV2 : Hid (prs l = pv m (l.getD k 0 :: l.drop (k + 1))) := by show _ = _; rw [HV.out, HD.out k hlt]
        generalize l.getD k 0 = c at *
        have hc8 := c.toNat_lt
        by_cases hA : 48 ≤ c.toNat ∧ c.toNat ≤ 57
        · have hl : lv c = some (c.toNat - 48) := by unfold lv; rw [if_pos hA]
          have HV3 : Hid (prs l = pv (m * 16 + (c.toNat - 48)) (l.drop (k + 1))) := by show _ = _; rw [HV2.out, pv_cons, hl]
          have HM2 : Hid (m * 16 + (c.toNat - 48) < 16 ^ (k + 1)) := by show _ < _; have := HM.out; rw [Nat.pow_succ]; omega
          obtain ⟨hA1, hA2⟩ := hA
          have q1 : (48 : Int) ≤ (c.toNat : Int) := by omega
          have q2 : (c.toNat : Int) ≤ 57 := by omega
          clear hl
          go_wp2_with fail
          refine ⟨⟨k + 1, m * 16 + (c.toNat - 48), by omega, by go_num, ?_, HM2, HV3⟩, by simp [intOf]; omega⟩
          have h7 := small_m hlt HM.out; congr 1; omega
        · by_cases hB : 97 ≤ c.toNat ∧ c.toNat ≤ 102
          · have hl : lv c = some (c.toNat - 87) := by unfold lv; rw [if_neg hA, if_pos hB]
            have HV3 : Hid (prs l = pv (m * 16 + (c.toNat - 87)) (l.drop (k + 1))) := by show _ = _; rw [HV2.out, pv_cons, hl]
            have HM2 : Hid (m * 16 + (c.toNat - 87) < 16 ^ (k + 1)) := by show _ < _; have := HM.out; rw [Nat.pow_succ]; omega
            obtain ⟨hA1, hA2⟩ := hB
            have q1 : (97 : Int) ≤ (c.toNat : Int) := by omega
            have q2 : (c.toNat : Int) ≤ 102 := by omega
            clear hl hA
            go_wp2_with fail
            refine ⟨⟨k + 1, m * 16 + (c.toNat - 87), by omega, by go_num, ?_, HM2, HV3⟩, by simp [intOf]; omega⟩
            have h7 := small_m hlt HM.out; congr 1; omega
          · have hl : lv c = none := by unfold lv; rw [if_neg hA, if_neg hB]
            have HV3 : Hid (prs l = none) := by show _ = _; rw [HV2.out, pv_cons, hl]
            have h3 : (c.toNat : Int) < 48 ∨ (57 < (c.toNat : Int) ∧ (c.toNat : Int) < 97) ∨ 102 < (c.toNat : Int) := by omega
            clear hl hA hB
            rcases h3 with h3 | ⟨h3, h4⟩ | h3
            all_goals
              go_wp2_with fail
              go_ret2
              exact ⟨.inr ⟨HV3.out, rfl⟩, rfl⟩
      · obtain rfl : k = 8 := by omega
        have HF : Hid (prs l = some m) := by show _ = _; rw [HV.out, HE.out]; rfl
        go_wp2_with fail
        go_ret2
        exact ⟨.inl ⟨m, HF.out, rfl⟩, rfl⟩
  · have HF : Hid (prs l = none) := by show _ = _; unfold prs; rw [if_neg h8]
    have hn : ((l.length : Int) != 8) = true := by rw [bne_iff_ne]; omega
    clear h8 hlen
    go_enter Tryd.func19, Tryd.ntmps19
    go_wp2_with fail
    go_ret2
    exact ⟨.inr ⟨HF.out, rfl⟩, rfl⟩
end Go.Proofs.YtgakbncglkegiaaDoor.C
