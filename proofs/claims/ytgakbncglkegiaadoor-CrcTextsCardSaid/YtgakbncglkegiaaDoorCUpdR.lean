/-
  Check sums: the reference.
-/
import Derived.Test.YtgakbncglkegiaaDoorCUpd
namespace Go.Proofs.YtgakbncglkegiaaDoor.C
set_option linter.unusedVariables false
open Go.RowKit V

/-! ### The reference -/
def it : Nat → Nat → Nat
  | 0, q => q
  | k + 1, q => it k (bit q)
set_option maxRecDepth 100000 in
set_option maxHeartbeats 1000000 in
theorem step_ref (n : Nat) (hn : n < 4294967296) (x : UInt8) (w : World) :
    Calls Tryd.prog 22 #[.int .u32 (n : Int), .int .u8 (x.toNat : Int)] w fun e w' => e = .returned (.int .u32 (stp n x : Int)) ∧ w = w' := by
  have hx := u32_xor_nat n x.toNat hn (by have := x.toNat_lt; omega)
  have h8 : (x.toNat : Int) % 4294967296 = (x.toNat : Int) := by have := x.toNat_lt; omega
  rw [← h8] at hx
  have HI := Lib.hid (stp_in hn x)
  have HE : Hid (bits8 (n ^^^ x.toNat) = stp n x) := rfl
  clear h8 hn
  generalize stp n x = S at *
  generalize (n ^^^ x.toNat) = p at *
  go_enter Tryd.func22, Tryd.ntmps22
  go_wp2_with fail
  go_loop [0, 5] (fun x i => ∃ (k q : Nat), k ≤ 8 ∧ i = .int .i64 k ∧ x = .int .u32 q ∧ Hid (q < 4294967296) ∧ Hid (it (8 - k) q = S)) (fun _ i => 8 - (intOf i).toNat)
  case atStart => exact ⟨0, p, Nat.zero_le _, rfl, rfl, HI, HE⟩
  case round =>
    obtain ⟨k, q, hk, rfl, rfl, HQ, HR⟩ := hrel
    by_cases hlt : k < 8
    · have HB := Lib.hid (bit_lt HQ.out)
      have HR2 : Hid (it (8 - (k + 1)) (bit q) = S) := by
        show _ = _
        rw [← HR.out, show 8 - k = (8 - (k + 1)) + 1 by omega]
        rfl
      by_cases ho : q % 2 = 1
      · have e1 : ((q : Int) % 2 == 1) = true := by rw [beq_iff_eq]; omega
        have hb : bits .xor .u32 ((q : Int) / 2 % 4294967296) 2197175160 = ((bit q : Nat) : Int) := by
          have := u32_xor_nat (q / 2) 2197175160 (by have := HQ.out; omega) (by omega)
          rw [show ((q / 2 : Nat) : Int) = (q : Int) / 2 % 4294967296 by have := HQ.out; omega] at this
          rw [bit, if_pos ho]
          exact this
        generalize bit q = b at *
        clear ho
        go_wp2_with fail
        go_round
        case rel => exact ⟨k + 1, b, by omega, by go_num, rfl, HB, HR2⟩
        case measure => simp [intOf]; omega
      · have e1 : ((q : Int) % 2 == 1) = false := by rw [beq_eq_false_iff_ne]; omega
        have hb : (q : Int) / 2 % 4294967296 = ((bit q : Nat) : Int) := by
          rw [bit, if_neg ho]; have := HQ.out; omega
        have HBi := Lib.hid hb
        generalize bit q = b at *
        clear ho hb
        go_wp2_with fail
        go_round
        case rel => exact ⟨k + 1, b, by omega, by go_num, by rw [HBi.out], HB, HR2⟩
        case measure => simp [intOf]; omega
    · obtain rfl : k = 8 := by omega
      go_wp2_with fail
      go_ret
      exact ⟨by rw [← HR.out]; rfl, rfl⟩

set_option maxRecDepth 100000 in
set_option maxHeartbeats 1000000 in
theorem update_ref (s : Nat) (hs : s < 4294967296) (l : List UInt8) (a : Option Addr) (c : Nat) (w : World) (hrow : Row8 w a l) (hlen : l.length ≤ 140737488355328) :
    Calls Tryd.prog 12 #[.int .u32 (s : Int), .slice a l.length c] w fun e w' => e = .returned (.int .u32 (upd s l : Int)) ∧ w = w' := by
  have HR := Lib.hid hrow
  have HN := Lib.hid (show (4294967295 - s) < 4294967296 by omega)
  have HU := Lib.hid (show upd s l = 4294967295 - run (4294967295 - s) l from rfl)
  have H0 : Hid (((4294967295 : Int) - (s : Int)) % 4294967296 = ((4294967295 - s : Nat) : Int)) := by show _ = _; omega
  have HLn := Lib.hid hlen
  generalize upd s l = U at *
  generalize 4294967295 - s = n0 at *
  clear hrow hs hlen
  go_enter Tryd.func12, Tryd.ntmps12
  go_wp2_with fail
  go_loop [5, 6] (fun x i => ∃ k : Nat, k ≤ l.length ∧ i = .int .i64 k ∧ x = .int .u32 (run n0 (l.take k) : Nat)) (fun _ i => l.length - (intOf i).toNat)
  case atStart => exact ⟨0, Nat.zero_le _, rfl, by rw [H0.out]; rfl⟩
  case round =>
    obtain ⟨k, hk, rfl, rfl⟩ := hrel
    have HM := Lib.hid (run_lt (l.take k) HN.out)
    by_cases hlt : k < l.length
    · rcases HR.out with he | ⟨g, o, rfl, hc⟩
      · rw [he] at hlt; simp at hlt
      have hcell := hc k hlt
      have HT := hidR (n0 := n0) hlt
      have hk63 : (l.length : Int) ≤ 140737488355328 := by have := HLn.out; omega
      generalize l[k] = x at *
      generalize run n0 (l.take k) = m at *
      clear hc
      have HF := Lib.hid (step_ref m HM.out x w)
      generalize stp m x = q at *
      go_wp2_with fail
      refine HF.out.mono ?_
      rintro e w' ⟨rfl, rfl⟩
      go_wp2_with fail
      go_round
      case rel => have hl := HLn.out; exact ⟨k + 1, by omega, by go_num, by rw [HT.out]⟩
      case measure => have hl := HLn.out; simp [intOf]; omega
    · obtain rfl : k = l.length := by omega
      rw [List.take_length] at *
      generalize run n0 l = m at *
      have hi : ((4294967295 : Int) - (m : Int)) % 4294967296 = ((4294967295 - m : Nat) : Int) := by have := HM.out; omega
      go_wp2_with fail
      go_ret
      obtain rfl : U = _ := HU.out
      exact ⟨rfl, rfl⟩

set_option maxHeartbeats 400000 in
theorem sum_ref (l : List UInt8) (a : Option Addr) (c : Nat) (w : World) (hrow : Row8 w a l) (hlen : l.length ≤ 140737488355328) :
    Calls Tryd.prog 10 #[.slice a l.length c] w fun e w' => e = .returned (.int .u32 (sum l : Int)) ∧ w = w' := by
  have HC := Lib.hid (update_ref 0 (by omega) l a c w hrow hlen)
  have HS : Hid (upd 0 l = sum l) := rfl
  clear hrow hlen
  generalize upd 0 l = U at *
  go_enter Tryd.func10, Tryd.ntmps10
  go_wp2_with fail
  refine HC.out.mono ?_
  rintro e w' ⟨rfl, rfl⟩
  go_wp2_with fail
  go_ret
  obtain rfl : U = _ := HS.out
  exact ⟨rfl, rfl⟩
end Go.Proofs.YtgakbncglkegiaaDoor.C
