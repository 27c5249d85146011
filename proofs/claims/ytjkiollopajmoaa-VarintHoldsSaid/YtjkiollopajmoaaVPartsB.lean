/-
  What the law's own calls write, and what its bytes are.
-/
import Derived.Test.YtjkiollopajmoaaVParts
namespace Go.Proofs.Ytjkiollopajmoaa.V
set_option linter.unusedVariables false
open Go.RowKit

/-- One signed number. -/
theorem wint_one (w : World) (base b : Nat) (v : Value) (l : List UInt8) (n : Int) (h : Wr w base b v l) (hn : -9223372036854775808 ≤ n ∧ n ≤ 9223372036854775807) (hlen : l.length ≤ 35184372088000) (hbase : base ≤ w.heap.size) (c g : Nat) (hg : g = w.heap.size) :
    Calls Try.prog 27 #[.pointer (some ⟨b, 0, none⟩), .slice (some ⟨g, 0, none⟩) 1 c] (w.alloc (.cells #[.int .i64 n] 3)) fun e w' =>
      e = .returned (.tuple #[]) ∧ ∃ v', Wr w' base b v' (l ++ num (zig n)) ∧ Wf w w' b v ∧ Grew w v v' := by
  subst hg
  have hb := h.lt
  have hv := h.2.1.lt
  have H := wint_any (w.alloc (.cells #[.int .i64 n] 3)) base b v l (some ⟨w.heap.size, 0, none⟩) [n] c (h.keep ((Below.refl _ _).alloc (Nat.le_refl _) _)) (rowV_one w _ _) (by simpa using hn)
    (by
      intro b' o e _
      cases e
      refine ⟨by omega, fun e => ?_⟩
      have := (hv _ e.symm).2
      omega)
    (by simp; omega) (by simp; omega)
  refine H.mono fun e w' ⟨he, v', hw, hf, hg⟩ => ⟨he, v', by simpa [zigs] using hw, ?_, ?_⟩
  · exact (Wf.refl w b v).alloc _ |>.trans (.inl rfl) hf
  · exact (Grew.refl w v).trans (by simp) hg

set_option maxRecDepth 100000 in
set_option maxHeartbeats 800000 in
theorem write_any (w : World) (base b : Nat) (v : Value) (l : List UInt8) (what : Int) (n : Nat) (s : Int) (dv : Value) (a : Option Addr) (m : List UInt8) (c : Nat) (h : Wr w base b v l) (hn : n < 18446744073709551616) (hs : -9223372036854775808 ≤ s ∧ s ≤ 9223372036854775807)
    (hrow : Row8 w a m) (hnil : a = none → c = 0) (hne : ∀ b' o, a = some ⟨b', o, none⟩ → m ≠ [] → b' ≠ b ∧ some b' ≠ v.ownBlock) (hlen : l.length + m.length ≤ 35184372080000) (hbase : base ≤ w.heap.size) :
    Calls Try.prog 22 #[.pointer (some ⟨b, 0, none⟩), .agg #[.int .i64 what, .int .u64 (n : Int), .int .i64 s, dv], .slice a m.length c] w fun e w' =>
      e = .returned (.tuple #[]) ∧ ∃ v', Wr w' base b v' (l ++ pb what n s m) ∧ Wf w w' b v ∧ Grew w v v' := by
  have hba : Below w.heap.size w (w.alloc (.cells #[.int .i64 what, .int .u64 (n : Int), .int .i64 s, dv] 42)) := (Below.refl _ _).alloc (Nat.le_refl _) _
  have h1 := h.keep hba
  have hr1 := hrow.keep hba
  have hf1 : Wf w (w.alloc (.cells #[.int .i64 what, .int .u64 (n : Int), .int .i64 s, dv] 42)) b v := (Wf.refl w b v).alloc _
  have hb1 : base ≤ (w.alloc (.cells #[.int .i64 what, .int .u64 (n : Int), .int .i64 s, dv] 42)).heap.size := by simp; omega
  have H1 := Lib.hid h1
  have HR1 := Lib.hid hr1
  have HF1 := Lib.hid hf1
  have HB1 := Lib.hid hb1
  have HNil := Lib.hid hnil
  have HNe := Lib.hid hne
  clear h1 hr1 hf1 hb1 hnil hne hba hrow h
  have fin : ∀ (x : List UInt8) (e : Ending) (w' : World), (e = .returned (.tuple #[]) ∧ ∃ v', Wr w' base b v' (l ++ x) ∧ Wf (w.alloc (.cells #[.int .i64 what, .int .u64 (n : Int), .int .i64 s, dv] 42)) w' b v ∧ Grew (w.alloc (.cells #[.int .i64 what, .int .u64 (n : Int), .int .i64 s, dv] 42)) v v') →
      ∃ v', Wr w' base b v' (l ++ x) ∧ Wf w w' b v ∧ Grew w v v' := by
    intro x e w' ⟨_, v', hw, hf, hg⟩
    exact ⟨v', hw, HF1.out.trans (.inl rfl) hf, (Grew.refl w v).trans (by simp) hg⟩
  have HFin := Lib.hid fin
  clear fin
  by_cases h0 : what = 0
  · subst h0
    have hp : pb 0 n s m = num n := rfl
    rw [hp]
    clear hp
    go_enter Try.func22, Try.ntmps22
    go_wp2_with (go_at_call 26; refine (wnum_one _ base b v l n H1.out hn (by omega) HB1.out _ _ (by simp)).mono ?_; rintro e w2 ⟨rfl, h2⟩; have HX := Lib.hid (HFin.out _ _ _ ⟨rfl, h2⟩); clear h2)
    go_end0
    exact ⟨rfl, HX.out⟩
  by_cases h1 : what = 1
  · subst h1
    have hp : pb 1 n s m = num (zig s) := rfl
    rw [hp]
    clear hp h0
    obtain ⟨hs1, hs2⟩ := hs
    go_enter Try.func22, Try.ntmps22
    go_wp2_with (go_at_call 27; refine (wint_one _ base b v l s H1.out ⟨hs1, hs2⟩ (by omega) HB1.out _ _ (by simp)).mono ?_; rintro e w2 ⟨rfl, h2⟩; have HX := Lib.hid (HFin.out _ _ _ ⟨rfl, h2⟩); clear h2)
    go_end0
    exact ⟨rfl, HX.out⟩
  by_cases h2 : what = 2
  · subst h2
    have hp : pb 2 n s m = num m.length ++ m := rfl
    rw [hp]
    clear hp h0 h1
    go_enter Try.func22, Try.ntmps22
    go_wp2_with (go_at_call 37; refine (wput_any _ base b v l a m c H1.out HR1.out HNil.out HNe.out (by omega) HB1.out).mono ?_; rintro e w2 ⟨rfl, h2⟩; have HX := Lib.hid (HFin.out _ _ _ ⟨rfl, h2⟩); clear h2)
    go_end0
    exact ⟨rfl, HX.out⟩
  · have hp : pb what n s m = m := by unfold pb; rw [if_neg h0, if_neg h1, if_neg h2]
    rw [hp]
    clear hp
    go_enter Try.func22, Try.ntmps22
    go_wp2_with (go_at_call 38; refine (wraw_any _ base b v l a m c H1.out HR1.out HNil.out (by omega) HB1.out).mono ?_; rintro e w2 ⟨rfl, h2⟩; have HX := Lib.hid (HFin.out _ _ _ ⟨rfl, h2⟩); clear h2)
    go_end0
    exact ⟨rfl, HX.out⟩

set_option maxRecDepth 100000 in
set_option maxHeartbeats 800000 in
theorem bytes_of (w : World) (what : Int) (n : Nat) (s : Int) (a : Option Addr) (m : List UInt8) (c : Nat) (hn : n < 18446744073709551616) (hs : -9223372036854775808 ≤ s ∧ s ≤ 9223372036854775807) (hrow : Row8 w a m) (hnil : a = none → c = 0) (hlen : m.length ≤ 35184372080000) :
    Calls Try.prog 23 #[.agg #[.int .i64 what, .int .u64 (n : Int), .int .i64 s, .slice a m.length c]] w fun e w' =>
      ∃ a' c', e = .returned (.slice a' (pb what n s m).length c') ∧ Row8 w' a' (pb what n s m) ∧ (a' = none → c' = 0) ∧ Below w.heap.size w w' := by
  have hba : Below w.heap.size w (w.alloc (.cells #[.int .i64 what, .int .u64 (n : Int), .int .i64 s, .slice a m.length c] 42)) := (Below.refl _ _).alloc (Nat.le_refl _) _
  have hr1 := hrow.keep hba
  have HR1 := Lib.hid hr1
  have HBa := Lib.hid hba
  have HNil := Lib.hid hnil
  clear hr1 hba hnil hrow
  have fin : ∀ (x : List UInt8) (v : Value) (w' : World), O8 w' (w.alloc (.cells #[.int .i64 what, .int .u64 (n : Int), .int .i64 s, .slice a m.length c] 42)).heap.size v x → Below (w.alloc (.cells #[.int .i64 what, .int .u64 (n : Int), .int .i64 s, .slice a m.length c] 42)).heap.size (w.alloc (.cells #[.int .i64 what, .int .u64 (n : Int), .int .i64 s, .slice a m.length c] 42)) w' →
      ∃ a' c', v = .slice a' x.length c' ∧ Row8 w' a' x ∧ (a' = none → c' = 0) ∧ Below w.heap.size w w' := by
    intro x v w' ho hb
    obtain ⟨a', c', rfl, hrow, hnil, _⟩ := ho.row
    exact ⟨a', c', rfl, hrow, (fun h => (hnil h).1), HBa.out.trans (hb.mono HBa.out.size)⟩
  have HFin := Lib.hid fin
  clear fin
  by_cases h0 : what = 0
  · subst h0
    have hp : pb 0 n s m = num n := rfl
    rw [hp]
    clear hp
    go_enter Try.func23, Try.ntmps23
    go_wp2_with (go_at_call 9; refine (number_any (n + 1) n _ (by omega) hn).mono ?_; rintro e w2 ⟨v, rfl, ho, hb⟩; obtain ⟨a', c', rfl, h2⟩ := HFin.out _ _ _ ho hb; have HX := Lib.hid h2; clear h2 ho hb)
    go_ret
    exact ⟨a', c', rfl, HX.out⟩
  by_cases h1 : what = 1
  · subst h1
    have hp : pb 1 n s m = num (zig s) := rfl
    rw [hp]
    have hz := zig_lt hs.1 hs.2
    obtain ⟨hs1, hs2⟩ := hs
    clear hp h0
    go_enter Try.func23, Try.ntmps23
    go_wp2_with (first | (go_at_call 28; refine (refZig_any s _ hs1 hs2).mono ?_; rintro e w' ⟨rfl, rfl⟩) | (go_at_call 9; refine (number_any (zig s + 1) (zig s) _ (by omega) hz).mono ?_; rintro e w2 ⟨v, rfl, ho, hb⟩; obtain ⟨a', c', rfl, h2⟩ := HFin.out _ _ _ ho hb; have HX := Lib.hid h2; clear h2 ho hb))
    go_ret
    exact ⟨a', c', rfl, HX.out⟩
  by_cases h2 : what = 2
  · subst h2
    have hp : pb 2 n s m = num m.length ++ m := rfl
    rw [hp]
    clear hp h0 h1
    go_enter Try.func23, Try.ntmps23
    go_wp2_with (go_at_call 43; refine (with_any _ a m c (by omega) HR1.out HNil.out).mono ?_; rintro e w2 ⟨v, rfl, ho, hb⟩; obtain ⟨a', c', rfl, h2⟩ := HFin.out _ _ _ ho hb; have HX := Lib.hid h2; clear h2 ho hb)
    go_ret
    exact ⟨a', c', by rw [List.length_append]; rfl, HX.out⟩
  · have hp : pb what n s m = m := by unfold pb; rw [if_neg h0, if_neg h1, if_neg h2]
    rw [hp]
    clear hp
    go_enter Try.func23, Try.ntmps23
    go_wp2
    go_ret
    exact ⟨a, c, rfl, HR1.out, HNil.out, HBa.out⟩

end Go.Proofs.Ytjkiollopajmoaa.V
