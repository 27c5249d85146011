/-
  The reference's Find, Dots, Time.
-/
import Derived.Test.YteojbekkbgcmnaaGreatMQAsk
import Derived.Test.YteojbekkbgcmnaaGreatQOwn
namespace Go.Proofs.YteojbekkbgcmnaaGreat.Qs
set_option linter.unusedVariables false
open Go.RowKit V Go.Sort D Nd
set_option maxRecDepth 100000 in
set_option maxHeartbeats 2000000 in
theorem time_ref (l : List Nt) (a : Option Addr) (c : Nat) (w : World) (hx : RowN w a l) (hlx : l.length ≤ 1000000) :
    Calls Tryz.prog 19 #[.slice a l.length c] w fun e w' => e = .returned (.int .i64 (timeS l)) ∧ Below w.heap.size w w' := by
  have HX := Lib.hid hx
  have hli : (l.length : Int) ≤ 1000000 := by omega
  clear hx hlx
  go_enter Tryz.func19, Tryz.ntmps19
  go_wp2_with fail
  go_loopw [3, 4] (fun m i wr => ∃ k : Nat, k ≤ l.length ∧ i = .int .i64 (k : Int) ∧ (∃ t : Int, m = .int .i64 t ∧ Hid (t = timeS (l.take k))) ∧ Hid (Below w.heap.size w wr)) (fun _ i _ => l.length - (intOf i).toNat)
  case atStart => exact ⟨0, Nat.zero_le _, rfl, ⟨0, rfl, rfl⟩, Below.refl _ _⟩
  case round =>
    obtain ⟨k, hk, rfl, ⟨t, rfl, HT⟩, hh⟩ := hrel
    by_cases hlt : k < l.length
    · have hi0 : (k : Int) < (l.length : Int) := by omega
      obtain ⟨b1, o1, rfl, hna⟩ := na_of (HX.out.keep hh.out) k hlt
      have HSt : Hid (timeS (l.take (k + 1)) = if timeS (l.take k) < l[k].2.2.1 then l[k].2.2.1 else timeS (l.take k)) := by
        show _ = _
        unfold timeS
        rw [foldl_take _ _ _ _ hlt]
      obtain ⟨q, hq⟩ : ∃ q, q = l[k] := ⟨_, rfl⟩
      rw [← hq] at hna HSt
      clear hq
      rw [← HT.out] at HSt
      obtain ⟨-, -, -, -, n4, -⟩ := hna
      obtain ⟨⟨q1, q2⟩, ⟨q3, q4⟩, q5, q6⟩ := q
      simp only at HSt n4
      by_cases ht : t < q5
      · rw [if_pos ht] at HSt
        go_wp2_with fail
        go_roundw
        case rel => exact ⟨k + 1, by omega, by go_num, ⟨q5, rfl, HSt.out.symm⟩, hh⟩
        case measure => simp [intOf]; omega
      · rw [if_neg ht] at HSt
        go_wp2_with fail
        go_roundw
        case rel => exact ⟨k + 1, by omega, by go_num, ⟨t, rfl, HSt.out.symm⟩, hh⟩
        case measure => simp [intOf]; omega
    · obtain rfl : k = l.length := by omega
      have hend : ¬ (l.length : Int) < (l.length : Int) := by omega
      rw [List.take_length] at HT
      go_wp2_with fail
      go_ret
      exact ⟨by rw [← HT.out]; rfl, hh.out⟩
end Go.Proofs.YteojbekkbgcmnaaGreat.Qs
