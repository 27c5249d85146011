/-
  The writers of layer 1: what each method does to a writer.
-/
import Derived.Test.YtjkiollopajmoaaVOwn
import Derived.Test.YtjkiollopajmoaaVWalkA
namespace Go.Proofs.Ytjkiollopajmoaa.V
set_option linter.unusedVariables false
open Go.RowKit

set_option maxRecDepth 100000 in
set_option maxHeartbeats 400000 in
theorem appnum_any (n : Nat) (hn : n < 18446744073709551616) (w : World) (base : Nat) (v : Value) (l : List UInt8) (h : O8 w base v l) (hl : l.length ≤ 35184372088832) (hbase : base ≤ w.heap.size) :
    Calls Try.prog 45 #[v, .int .u64 (n : Int)] w fun e w' => ∃ v', e = .returned v' ∧ O8 w' base v' (l ++ num n) ∧ w.grownBy w' v.ownBlock ∧ Grew w v v' := by
  go_enter Try.func45, Try.ntmps45
  go_wp2
  go_loopw [0, 1] (fun x i wr => ∃ (q : Nat) (pre : List UInt8), i = .int .u64 q ∧ q ≤ n ∧ Hid (num n = pre ++ num q) ∧ O8 wr base x (l ++ pre) ∧ w.grownBy wr v.ownBlock ∧ Grew w v x) (fun _ i _ => (intOf i).toNat)
  case atStart => exact ⟨n, [], rfl, Nat.le_refl _, rfl, by simpa using h, gb_refl _ _, .inl rfl⟩
  case round =>
    obtain ⟨q, pre, rfl, hqn, hq, ho, hg, hgr⟩ := hrel
    have HO := Lib.hid ho
    have hsz := hg.size
    have HG := Lib.hid hg
    have hlen : (l ++ pre).length ≤ 35184372088842 := by
      have h10 := num_ten hn
      rw [hq.out, List.length_append] at h10
      rw [List.length_append]; omega
    have HLn := Lib.hid hlen
    clear ho hg hlen
    by_cases hb : q < 128
    · obtain ⟨c, rfl⟩ : ∃ c : UInt8, q = c.toNat := ⟨UInt8.ofNat q, by simp; omega⟩
      have hc : num c.toNat = [c] := by rw [num_small hb]; simp
      have HC := Lib.hid hc
      clear hc
      go_wp2_with (at_builtin; refine wpList_app8 rfl (.tmp 15) (.tmp 18) rfl base _ _ rfl (HO.out.below ((Below.refl _ _).alloc (Nat.le_refl _) _)) (some ⟨wr.heap.size, 0, none⟩) [c] 1 rfl (row_one wr c _) (by simp) (by have := HLn.out; simp only [List.length_cons, List.length_nil]; omega) (by simp; omega) ?_; intro v' w' ho' hg' hgr')
      go_ret
      refine ⟨_, rfl, ?_, ?_, ?_⟩
      · rw [hq.out, HC.out, ← List.append_assoc]; exact ho'
      · exact gb_grew (gb_trans HG.out (gb_alloc _ _ _)) hgr hg'
      · exact hgr.trans (Nat.le_trans hsz (by simp)) hgr'
    · obtain ⟨c, hc⟩ : ∃ c : UInt8, c = UInt8.ofNat (q % 128 + 128) := ⟨_, rfl⟩
      have hcn : c.toNat = q % 128 + 128 := by rw [hc]; simp; omega
      have e : bits .or .u8 ((q : Int) % 256) 128 = (c.toNat : Int) := by
        have := or_128 (q % 256) (by omega)
        rw [hcn]
        have e2 : q % 256 % 128 = q % 128 := by omega
        rw [e2] at this
        exact this
      have HC : Hid (num q = c :: num (q / 128)) := by rw [hc]; exact num_big hb
      have hq7 : ((q : Int) / 128) = ((q / 128 : Nat) : Int) := by omega
      have HQ7 := Lib.hid hq7
      clear hc hcn hq7
      go_wp2_with (at_builtin; refine wpList_app8 rfl (.tmp 9) (.tmp 13) rfl base _ _ rfl (HO.out.below ((Below.refl _ _).alloc (Nat.le_refl _) _)) (some ⟨wr.heap.size, 0, none⟩) [c] 1 rfl (row_one wr c _) (by simp) (by have := HLn.out; simp only [List.length_cons, List.length_nil]; omega) (by simp; omega) ?_; intro v' w' ho' hg' hgr')
      go_roundw
      case rel =>
        refine ⟨q / 128, pre ++ [c], by rw [HQ7.out], by omega, ?_, ?_, ?_, ?_⟩
        · show _ = _
          rw [hq.out, HC.out]; simp
        · rw [← List.append_assoc]; exact ho'
        · exact gb_grew (gb_trans HG.out (gb_alloc _ _ _)) hgr hg'
        · exact hgr.trans (Nat.le_trans hsz (by simp)) hgr'
      case measure => simp [intOf]; omega

end Go.Proofs.Ytjkiollopajmoaa.V
