/-
  The reference's bytes of a number.
-/
import Derived.Test.YtjkiollopajmoaaVOwn
import Derived.Test.YtjkiollopajmoaaVWalkA
namespace Go.Proofs.Ytjkiollopajmoaa.V
set_option linter.unusedVariables false
open Go.RowKit

set_option maxRecDepth 100000 in
set_option maxHeartbeats 400000 in
theorem number_any (k : Nat) : ∀ (n : Nat) (w : World), n < k → n < 18446744073709551616 →
    Calls Try.prog 9 #[.int .u64 (n : Int)] w fun e w' => ∃ v, e = .returned v ∧ O8 w' w.heap.size v (num n) ∧ Below w.heap.size w w' := by
  induction k with
  | zero => intro n w h; omega
  | succ k ih =>
    intro n w hk hn
    by_cases hb : n < 128
    · obtain ⟨c, rfl⟩ : ∃ c : UInt8, n = c.toNat := ⟨UInt8.ofNat n, by simp; omega⟩
      have hc : num c.toNat = [c] := by rw [num_small hb]; simp
      rw [hc]
      clear hc ih
      go_enter Try.func9, Try.ntmps9
      go_wp2_with fail
      go_ret
      exact ⟨_, rfl, own_one w c _ (Nat.le_refl _), (Below.refl _ _).alloc (Nat.le_refl _) _⟩
    · obtain ⟨c, hc⟩ : ∃ c : UInt8, c = UInt8.ofNat (n % 128 + 128) := ⟨_, rfl⟩
      have hcn : c.toNat = n % 128 + 128 := by rw [hc]; simp; omega
      have e : (n : Int) % 128 + 128 = (c.toNat : Int) := by omega
      have hnum : num n = c :: num (n / 128) := by rw [hc]; exact num_big hb
      rw [hnum]
      have hlen := num_ten (n := n / 128) (by omega)
      have IH := Lib.hid (ih (n / 128))
      have hq : ((n : Int) / 128) = ((n / 128 : Nat) : Int) := by omega
      have HQ := Lib.hid hq
      clear hc hcn hnum ih hq
      go_enter Try.func9, Try.ntmps9
      go_wp2_with fail
      rw [HQ.out]
      refine (IH.out _ (by omega) (by omega)).mono ?_
      rintro e' w2 ⟨v2, rfl, ho2, hb2⟩
      obtain ⟨a, cp, rfl, hrow, hnil, hown⟩ := ho2.row
      have ho1 := (own_one w c w.heap.size (Nat.le_refl _)).below hb2
      have HB2 := Lib.hid hb2
      have hs2 : w.heap.size + 1 ≤ w2.heap.size := by have h := hb2.size; simpa using h
      clear ho2 hb2
      go_wp2_with (at_builtin; refine wpList_app8 rfl (.tmp 12) (.tmp 15) rfl w.heap.size _ [c] rfl ho1 a (num (n / 128)) cp rfl hrow (fun h => (hnil h).1) (by simp only [List.length_cons, List.length_nil]; omega) (by omega) ?_; intro v' w' ho' hg' hgr')
      go_ret
      refine ⟨_, rfl, ho', ?_⟩
      exact (((Below.refl _ _).alloc (Nat.le_refl _) _).trans (HB2.out.mono (by simp))).grown hg' (by omega) (by intro k hk; cases hk; exact Nat.le_refl _)

set_option maxRecDepth 100000 in
set_option maxHeartbeats 400000 in
/-- The reference's bytes with their length. -/
theorem with_any (w : World) (a : Option Addr) (l : List UInt8) (c : Nat) (hl : l.length ≤ 35184372088832) (h : Row8 w a l) (hnil : a = none → c = 0) :
    Calls Try.prog 43 #[.slice a l.length c] w fun e w' => ∃ v, e = .returned v ∧ O8 w' w.heap.size v (num l.length ++ l) ∧ Below w.heap.size w w' := by
  have HN := Lib.hid (number_any (l.length + 1) l.length)
  have H := Lib.hid h
  have HNil := Lib.hid hnil
  have hlen := num_ten (n := l.length) (by omega)
  clear h hnil
  go_enter Try.func43, Try.ntmps43
  go_wp2_with fail
  refine (HN.out _ (by omega) (by omega)).mono ?_
  rintro e' w2 ⟨v2, rfl, ho2, hb2⟩
  have HB2 := Lib.hid hb2
  have hs2 := hb2.size
  have hlt := Lib.hid ho2.lt
  clear hb2
  go_wp2_with (at_builtin; refine wpList_app8 rfl (.tmp 6) (.tmp 7) rfl w.heap.size _ _ rfl ho2 a l c rfl (H.out.keep HB2.out) HNil.out (by omega) hs2 ?_; intro v' w' ho' hg' hgr')
  go_ret
  refine ⟨_, rfl, ho', ?_⟩
  exact HB2.out.grown hg' hs2 (by intro k hk; exact (hlt.out k hk).1)

end Go.Proofs.Ytjkiollopajmoaa.V
