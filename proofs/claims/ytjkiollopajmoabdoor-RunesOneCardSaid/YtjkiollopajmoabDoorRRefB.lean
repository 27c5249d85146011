/-
  The reference of layer 2: the first character, and all of them.
-/
import Derived.Test.YtjkiollopajmoabDoorRRefA
namespace Go.Proofs.YtjkiollopajmoabDoor.R
set_option linter.unusedVariables false
open Go.RowKit V

theorem idx_str (l : List UInt8) (k : Nat) (hk : k < l.length) (kd : IntKind) (w : World) :
    (Instr.index 9 (.string ⟨l.toArray⟩) (.int kd (k : Int))).run Tryd.prog w = .ok (.int .u8 (at8 l k : Int)) w := by
  have h1 : (⟨l.toArray⟩ : ByteArray)[k]? = some l[k] := by
    show (l.toArray)[k]? = _
    simp [hk]
  simp [Instr.index, run_underlying Tryd.underlying9, asIntOf, Result.andThen, h1, at8, hk]

set_option maxRecDepth 100000 in
set_option maxHeartbeats 1000000 in
theorem rfirst_any (l : List UInt8) (hl : l ≠ []) (hlen : l.length ≤ 4398046511104) (w : World) :
    Calls Tryd.prog 35 #[.string ⟨l.toArray⟩] w fun e w' => e = .returned (.tuple #[.int .i64 ((firstR l).1 : Int), .int .i64 ((firstR l).2 : Int)]) ∧ Below w.heap.size w w' := by
  have hp := List.length_pos_iff.2 hl
  have hidx := fun k (hk : k < l.length) => idx_str l k hk
  have HIx := Lib.hid hidx
  have h0 := hidx 0 hp .i64
  simp only [Int.natCast_zero] at h0
  have h0' : ∀ w : World, (Instr.index 9 (.string ⟨l.toArray⟩) (.int .i64 0)).run Tryd.prog w = .ok (.int .u8 (at8 l 0 : Int)) w := h0
  obtain ⟨c, hc⟩ : ∃ c : UInt8, at8 l 0 = c.toNat := ⟨_, rfl⟩
  have HL := Lib.hid (lead_any c w)
  have h4 := lead_le (at8 l 0)
  have HN0 := Lib.hid hl
  have HC0 := Lib.hid hc
  rw [hc] at h0' h4
  have hsz : (⟨l.toArray⟩ : ByteArray).size = l.length := by simp [ByteArray.size]
  have HSz := Lib.hid hsz
  obtain ⟨s, hs⟩ : ∃ s, s = (leadR c.toNat).1 := ⟨_, rfl⟩
  obtain ⟨n0, hn0⟩ : ∃ n0, n0 = (leadR c.toNat).2 := ⟨_, rfl⟩
  rw [← hs, ← hn0] at HL
  rw [← hs] at h4
  have HS : Hid (s = (leadR (at8 l 0)).1) := by show _ = _; rw [hc]; exact hs
  have HN : Hid (n0 = (leadR (at8 l 0)).2) := by show _ = _; rw [hc]; exact hn0
  have hn128 : n0 < 128 := by
    rw [hn0]; unfold leadR
    repeat' split
    all_goals (simp only; omega)
  clear hs hn0 hidx h0 hc hl hsz
  go_enter Tryd.func35, Tryd.ntmps35
  go_wp2_with fail
  refine HL.out.mono ?_
  rintro e w' ⟨rfl, rfl⟩
  clear HL h0'
  by_cases hss : s = 0 ∨ l.length < s
  · have HR : Hid (firstR l = (0, 0)) := firstR_short HN0.out (by rw [← HS.out]; exact hss)
    by_cases hs0 : s = 0
    · subst hs0
      go_wp2_with fail
      go_ret2
      exact ⟨by rw [HR.out]; rfl, Below.refl _ _⟩
    · have b1 : ((s : Int) == 0) = false := by rw [beq_eq_false_iff_ne]; omega
      have b2 : decide (l.length < s) = true := by simp; omega
      clear hss
      go_wp2_with fail
      go_ret2
      exact ⟨by rw [HR.out]; rfl, Below.refl _ _⟩
  · have hs1 : 1 ≤ s := by omega
    have hsl : s ≤ l.length := by omega
    have b1 : ((s : Int) == 0) = false := by rw [beq_eq_false_iff_ne]; omega
    have b2 : decide (l.length < s) = false := by simp; omega
    clear hss
    go_wp2_with fail
    clear b1 b2
    go_loop [5, 6] (fun x i => ∃ k : Nat, k + 1 ≤ s ∧ i = .int .i64 ((k : Int) + 1) ∧ x = .int .i64 (acc l n0 k : Nat) ∧ Hid (acc l n0 k < 128 * 64 ^ k) ∧ Hid (∀ j, 1 ≤ j → j < k + 1 → isCont l j)) (fun _ i => s - (intOf i).toNat)
    case atStart => exact ⟨0, by omega, rfl, rfl, by show acc l n0 0 < _; rw [acc0]; omega, fun j a b => by omega⟩
    case round =>
      obtain ⟨k, hks, rfl, rfl, hac, HCo⟩ := hrel
      have hac1 : acc l n0 k ≤ 33554432 := by
        have h1 := hac.out
        have h2 : 64 ^ k ≤ 64 ^ 3 := Nat.pow_le_pow_right (by omega) (by omega)
        have h3 : (64 : Nat) ^ 3 = 262144 := by decide
        omega
      by_cases hlt : k + 1 < s
      · have hx0 := HIx.out (k + 1) (by omega) .i64
        have hx : ∀ w : World, (Instr.index 9 (.string ⟨l.toArray⟩) (.int .i64 ((k : Int) + 1))).run Tryd.prog w = .ok (.int .u8 (at8 l (k + 1) : Int)) w := hx0
        have hb := at8_lt l (k + 1)
        have HA : Hid (acc l n0 (k + 1) = 64 * acc l n0 k + at8 l (k + 1) - 128) := by show _ = _; rfl
        have HNot : Hid (¬ (128 ≤ at8 l (k + 1) ∧ at8 l (k + 1) ≤ 191) → firstR l = (0, 0)) := fun h => firstR_not (k + 1) (by omega) (by rw [← HS.out]; exact hlt) (by rw [← HS.out]; exact hsl) h
        have HIs : Hid (128 ≤ at8 l (k + 1) ∧ at8 l (k + 1) ≤ 191 → isCont l (k + 1)) := fun h => h
        have hltI : (k : Int) + 1 < (s : Int) := by omega
        clear hx0
        generalize at8 l (k + 1) = b at *
        generalize hA : acc l n0 k = A at *
        by_cases c1 : b < 128
        · have q1 : decide ((b : Int) < 128) = true := by simp; omega
          have HR := Lib.hid (HNot.out (by omega))
          clear c1
          go_wp2_with fail
          go_ret2
          exact ⟨by rw [HR.out]; rfl, Below.refl _ _⟩
        · have q1 : decide ((b : Int) < 128) = false := by simp; omega
          by_cases c2 : 191 < b
          · have q2 : decide ((191 : Int) < (b : Int)) = true := by simp; omega
            have HR := Lib.hid (HNot.out (by omega))
            clear c1 c2
            go_wp2_with fail
            go_ret2
            exact ⟨by rw [HR.out]; rfl, Below.refl _ _⟩
          · have q2 : decide ((191 : Int) < (b : Int)) = false := by simp; omega
            have HC2 := Lib.hid (HIs.out (by omega))
            have HB2 : Hid (128 ≤ b ∧ b ≤ 191) := ⟨by omega, by omega⟩
            have hge : (128 : Int) ≤ (b : Int) := by omega
            clear c1 c2
            go_wp2_with fail
            go_round
            case rel =>
              refine ⟨k + 1, by omega, rfl, ?_, ?_, ?_⟩
              · congr 1; rw [HA.out]; omega
              · show _ < _
                have h1 := hac.out
                rw [HA.out, Nat.pow_succ]
                have := HB2.out
                omega
              · intro j a1 a2
                by_cases hj : j = k + 1
                · rw [hj]; exact HC2.out
                · exact HCo.out j a1 (by omega)
            case measure => simp [intOf]; omega
      · obtain rfl : s = k + 1 := by omega
        have HR0 := firstR_all (k + 1) HS.out (by omega) hsl HCo.out
        rw [← HN.out, show k + 1 - 1 = k from rfl] at HR0
        have HR := Lib.hid HR0
        have hend : ¬ ((k : Int) + 1) < ((k : Int) + 1) := by omega
        clear HR0 hac HCo
        generalize acc l n0 k = A at *
        by_cases hsc : scal A = true
        · have hS1 : sclI (A : Int) = true := by rw [sclI_nat]; exact hsc
          have hS := fun wx => scalar_any (A : Int) wx
          rw [hS1] at hS
          have HSc := Lib.hid hS
          have hA2 := scal_iff.1 hsc
          have HBy := Lib.hid (fun wx => rbytes_any A (by omega) wx)
          have HSC := Lib.hid hsc
          clear hS hS1 hsc hA2
          go_wp2_with fail
          refine (HSc.out _).mono ?_
          rintro e w' ⟨rfl, rfl⟩
          go_wp2_with fail
          refine (HBy.out _).mono ?_
          rintro e w2 ⟨g, c2, rfl, -, hb2, -⟩
          have hel := enc_len A
          have HBe := Lib.hid hb2
          clear hb2
          by_cases hE : (enc A).length = k + 1
          · have HR2 : Hid (firstR l = (A, k + 1)) := by show _ = _; rw [HR.out, if_pos ⟨HSC.out, hE⟩]
            have q1 : (((enc A).length : Int) != (k : Int) + 1) = false := by rw [bne_eq_false_iff_eq]; omega
            clear hE
            go_wp2_with fail
            go_ret2
            exact ⟨by rw [HR2.out]; rfl, HBe.out⟩
          · have HR2 : Hid (firstR l = (0, 0)) := by show _ = _; rw [HR.out, if_neg (fun h => hE h.2)]
            have q1 : (((enc A).length : Int) != (k : Int) + 1) = true := by rw [bne_iff_ne]; omega
            clear hE
            go_wp2_with fail
            go_ret2
            exact ⟨by rw [HR2.out]; rfl, HBe.out⟩
        · have hsc' : scal A = false := by simpa using hsc
          have hS1 : sclI (A : Int) = false := by rw [sclI_nat]; exact hsc'
          have hS := fun wx => scalar_any (A : Int) wx
          rw [hS1] at hS
          have HSc := Lib.hid hS
          have HR2 : Hid (firstR l = (0, 0)) := by show _ = _; rw [HR.out, if_neg (by rw [hsc']; simp)]
          clear hS hS1 hsc hsc'
          go_wp2_with fail
          refine (HSc.out _).mono ?_
          rintro e w' ⟨rfl, rfl⟩
          go_wp2_with fail
          go_ret2
          exact ⟨by rw [HR2.out]; rfl, Below.refl _ _⟩
end Go.Proofs.YtjkiollopajmoabDoor.R
