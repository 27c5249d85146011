/-
  Check sums: the program's way, and the reference's.
-/
import Derived.Test.YtgakbncglkegiaaDoorCBase
namespace Go.Proofs.YtgakbncglkegiaaDoor.C
set_option linter.unusedVariables false
open Go.RowKit V

set_option maxRecDepth 100000 in
set_option maxHeartbeats 1000000 in
theorem update_any (s : Nat) (hs : s < 4294967296) (l : List UInt8) (a : Option Addr) (c : Nat) (w : World) (hL : Ld w) (hrow : Row8 w a l) (hlen : l.length ≤ 140737488355328) :
    Calls Tryd.prog 11 #[.int .u32 (s : Int), .slice a l.length c] w fun e w' => e = .returned (.int .u32 (upd s l : Int)) ∧ w = w' := by
  have HL := Lib.hid hL
  have HR := Lib.hid hrow
  have HN := Lib.hid (show (4294967295 - s) < 4294967296 by omega)
  have HU := Lib.hid (show upd s l = 4294967295 - run (4294967295 - s) l from rfl)
  have h0 := inv_int s hs
  generalize upd s l = U at *
  generalize 4294967295 - s = n0 at *
  have HLn := Lib.hid hlen
  clear hL hrow hs hlen
  go_enter Tryd.func11, Tryd.ntmps11
  go_wp2_with fail
  go_loop [5, 12] (fun x i => ∃ k : Nat, k ≤ l.length ∧ i = .int .i64 k ∧ x = .int .u32 (run n0 (l.take k) : Nat)) (fun _ i => l.length - (intOf i).toNat)
  case atStart => exact ⟨0, Nat.zero_le _, rfl, by simp [run]⟩
  case round =>
    obtain ⟨k, hk, rfl, rfl⟩ := hrel
    have HM := Lib.hid (run_lt (l.take k) HN.out)
    by_cases hlt : k < l.length
    · rcases HR.out with he | ⟨g, o, rfl, hc⟩
      · rw [he] at hlt; simp at hlt
      have hcell := hc k hlt
      have HT := Lib.hid (run_take n0 l k hlt)
      have hk63 : (l.length : Int) ≤ 140737488355328 := by have := HLn.out; omega
      generalize l[k] = x at *
      generalize hm : run n0 (l.take k) = m at *
      clear hm hc
      have HX : Hid (bits .xor .u32 (m : Int) ((x.toNat : Int) % 4294967296) = ((m ^^^ x.toNat : Nat) : Int)) := by
        show _ = _
        have h8 := x.toNat_lt
        rw [show (x.toNat : Int) % 4294967296 = (x.toNat : Int) by omega]
        exact u32_xor_nat m x.toNat HM.out (by omega)
      have HF1 := Lib.hid (four_any (m ^^^ x.toNat) (stp_in HM.out x) w HL.out)
      have HF2 := Lib.hid (four_any (bits4 (m ^^^ x.toNat)) (bits4_lt (stp_in HM.out x)) w HL.out)
      have hx := HX.out
      have HE : Hid (bits4 (bits4 (m ^^^ x.toNat)) = stp m x) := rfl
      clear HX
      generalize (m ^^^ x.toNat) = p at *
      generalize bits4 p = q at *
      generalize bits4 q = r at *
      go_wp2_with fail
      refine HF1.out.mono ?_
      rintro e w' ⟨rfl, rfl⟩
      go_wp2_with fail
      refine HF2.out.mono ?_
      rintro e w' ⟨rfl, rfl⟩
      go_wp2_with fail
      go_round
      case rel => have hl := HLn.out; exact ⟨k + 1, by omega, by go_num, by rw [HT.out, ← HE.out]⟩
      case measure => have hl := HLn.out; simp [intOf]; omega
    · obtain rfl : k = l.length := by omega
      rw [List.take_length] at *
      generalize run n0 l = m at *
      have hi := inv_int m HM.out
      go_wp2_with fail
      go_ret
      obtain rfl : U = _ := HU.out
      exact ⟨rfl, rfl⟩

theorem hidR {n0 : Nat} {l : List UInt8} {k : Nat} (hk : k < l.length) : Hid (run n0 (l.take (k + 1)) = stp (run n0 (l.take k)) l[k]) := run_take n0 l k hk

set_option maxHeartbeats 400000 in
theorem sum_any (l : List UInt8) (a : Option Addr) (c : Nat) (w : World) (hL : Ld w) (hrow : Row8 w a l) (hlen : l.length ≤ 140737488355328) :
    Calls Tryd.prog 9 #[.slice a l.length c] w fun e w' => e = .returned (.int .u32 (sum l : Int)) ∧ w = w' := by
  have HC := Lib.hid (update_any 0 (by omega) l a c w hL hrow hlen)
  have HS : Hid (upd 0 l = sum l) := rfl
  clear hL hrow hlen
  generalize upd 0 l = U at *
  go_enter Tryd.func9, Tryd.ntmps9
  go_wp2_with fail
  refine HC.out.mono ?_
  rintro e w' ⟨rfl, rfl⟩
  go_wp2_with fail
  go_ret
  obtain rfl : U = _ := HS.out
  exact ⟨rfl, rfl⟩

end Go.Proofs.YtgakbncglkegiaaDoor.C
