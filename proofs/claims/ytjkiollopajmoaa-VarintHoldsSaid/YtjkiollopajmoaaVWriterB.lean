/-
  The writers of layer 1: bytes; how many were written, and which; nil writers.
-/
import Derived.Test.YtjkiollopajmoaaVWriter
namespace Go.Proofs.Ytjkiollopajmoaa.V
set_option linter.unusedVariables false
open Go.RowKit

set_option maxRecDepth 100000 in
set_option maxHeartbeats 400000 in
theorem wraw_any (w : World) (base b : Nat) (v : Value) (l : List UInt8) (a : Option Addr) (m : List UInt8) (c : Nat) (h : Wr w base b v l) (hrow : Row8 w a m) (hnil : a = none → c = 0)
    (hlen : l.length + m.length ≤ 35184372088832) (hbase : base ≤ w.heap.size) :
    Calls Try.prog 38 #[.pointer (some ⟨b, 0, none⟩), .slice a m.length c] w fun e w' => e = .returned (.tuple #[]) ∧ ∃ v', Wr w' base b v' (l ++ m) ∧ Wf w w' b v ∧ Grew w v v' := by
  have c0 := h.c0
  have H := Lib.hid h
  have HRow := Lib.hid hrow
  have HNil := Lib.hid hnil
  clear h hrow hnil
  go_enter Try.func38, Try.ntmps38
  go_wp2_with (at_builtin; refine wpList_app8 rfl (.tmp 10) (.tmp 11) rfl base _ _ rfl H.out.2.1 a m c rfl HRow.out HNil.out (by omega) hbase ?_; intro v2 w2 ho2 hg2 hgr2; obtain ⟨c2, f2⟩ := H.out.cellThen hg2; obtain ⟨a2, n2, cc2, rfl⟩ := ho2.shape)
  go_end0
  exact ⟨rfl, .slice a2 n2 cc2, H.out.step ho2 hg2 hgr2, (Wf.refl _ _ _).step (.inl rfl) hg2, hgr2⟩

set_option maxRecDepth 100000 in
set_option maxHeartbeats 400000 in
theorem wput_any (w : World) (base b : Nat) (v : Value) (l : List UInt8) (a : Option Addr) (m : List UInt8) (c : Nat) (h : Wr w base b v l) (hrow : Row8 w a m) (hnil : a = none → c = 0)
    (hne : ∀ b' o, a = some ⟨b', o, none⟩ → m ≠ [] → b' ≠ b ∧ some b' ≠ v.ownBlock)
    (hlen : l.length + m.length ≤ 35184372088800) (hbase : base ≤ w.heap.size) :
    Calls Try.prog 37 #[.pointer (some ⟨b, 0, none⟩), .slice a m.length c] w fun e w' => e = .returned (.tuple #[]) ∧ ∃ v', Wr w' base b v' (l ++ (num m.length ++ m)) ∧ Wf w w' b v ∧ Grew w v v' := by
  have HN := Lib.hid (wnum_one w base b v l m.length h (by omega) (by omega) hbase)
  have h10 := num_ten (n := m.length) (by omega)
  have HRow := Lib.hid hrow
  have HNil := Lib.hid hnil
  have HNe := Lib.hid hne
  clear h hrow hnil hne
  go_enter Try.func37, Try.ntmps37
  go_wp2_with fail
  refine (HN.out _ _ rfl).mono ?_
  rintro e w2 ⟨rfl, v2, hw2, hf2, hg2⟩
  have hrow2 : Row8 w2 a m := by
    rcases HRow.out with hm | ⟨b', o, rfl, hc⟩
    · exact .inl hm
    · by_cases hm : m = []
      · exact .inl hm
      · refine .inr ⟨b', o, rfl, fun i hi => ?_⟩
        have h' := hc i hi
        obtain ⟨n1, n2⟩ := HNe.out b' o rfl hm
        rw [World.cell?_of_block (w := w) (hf2.block b' (lt_of_cell h') n1 n2)]
        exact h'
  have HR := Lib.hid (wraw_any w2 base b v2 _ a m c hw2 hrow2 HNil.out (by rw [List.length_append]; omega) (by have := hf2.size; omega))
  have HF2 := Lib.hid hf2
  have HG2 := Lib.hid hg2
  clear hw2 hf2 hg2 hrow2
  go_wp2_with fail
  refine HR.out.mono ?_
  rintro e w3 ⟨rfl, v3, hw3, hf3, hg3⟩
  go_wp2_with fail
  go_end0
  refine ⟨rfl, v3, by rw [← List.append_assoc]; exact hw3, HF2.out.trans HG2.out hf3, HG2.out.trans HF2.out.size hg3⟩

set_option maxHeartbeats 400000 in
theorem wlen_any (w : World) (base b : Nat) (v : Value) (l : List UInt8) (h : Wr w base b v l) :
    Calls Try.prog 25 #[.pointer (some ⟨b, 0, none⟩)] w fun e w' => e = .returned (.int .i64 (l.length : Int)) ∧ w = w' := by
  have c0 := h.c0
  obtain ⟨a, c, rfl, _⟩ := h.2.1.row
  clear h
  generalize l.length = n at *
  go_enter Try.func25, Try.ntmps25
  go_wp2
  go_ret
  exact ⟨rfl, rfl⟩

set_option maxRecDepth 100000 in
set_option maxHeartbeats 400000 in
/-- A copy in new memory. -/
theorem clone_any (w : World) (base : Nat) (v : Value) (l : List UInt8) (h : O8 w base v l) (hlen : l.length ≤ 35184372088832) :
    Calls Try.prog 44 #[v] w fun e w' => ∃ v', e = .returned v' ∧ O8 w' w.heap.size v' l ∧ Below w.heap.size w w' := by
  obtain ⟨a, c, rfl, hrow, hnil, hown⟩ := h.row
  have HRow := Lib.hid hrow
  clear hrow h
  have hn2 : ∀ x, a = some x → x = ⟨x.block, 0, none⟩ := fun x hx => (hown x hx).1
  clear hown
  have hnone := fun (w : World) => Lib.run_eql_slice_nil (P := Try.prog) w 23 5 a l.length c 0 0 Try.underlying23
  rcases a with _ | ad
  · obtain ⟨rfl, rfl⟩ := hnil rfl
    clear hnil
    simp only [List.length_nil, Option.isNone_none] at hnone
    go_enter Try.func44, Try.ntmps44
    go_wp2
    go_ret
    exact ⟨_, rfl, O8.nil _ _, Below.refl _ _⟩
  · obtain ⟨g, hg⟩ : ∃ g, ad = ⟨g, 0, none⟩ := ⟨_, hn2 ad rfl⟩
    subst hg
    have HNil := Lib.hid hnil
    clear hnil hn2
    simp only [Option.isNone_some] at hnone
    have ho : O8 (w.alloc (.cells #[] 5)) w.heap.size (.slice (some ⟨w.heap.size, 0, none⟩) 0 0) [] := World.ownsRow_made w #[] 0 (Nat.le_refl _) (by unfold maxLen; omega) rfl
    have HO := Lib.hid ho
    clear ho
    go_enter Try.func44, Try.ntmps44
    go_wp2_with (at_builtin; (refine wpList_app8 rfl (.tmp 5) (.tmp 6) rfl w.heap.size _ _ rfl HO.out (some ⟨g, 0, none⟩) l c rfl (HRow.out.keep ((Below.refl _ _).alloc (Nat.le_refl _) _)) (by simp) (by simp only [List.length_nil]; omega) (by simp) ?_); intro v2 w2 ho2 hg2 hgr2)
    go_ret
    refine ⟨_, rfl, by simpa using ho2, ?_⟩
    exact ((Below.refl _ _).alloc (Nat.le_refl _) _).grown hg2 (by simp) (by intro k hk; cases hk; exact Nat.le_refl _)

set_option maxHeartbeats 400000 in
theorem wbytes_any (w : World) (base b : Nat) (v : Value) (l : List UInt8) (h : Wr w base b v l) (hlen : l.length ≤ 35184372088832) :
    Calls Try.prog 24 #[.pointer (some ⟨b, 0, none⟩)] w fun e w' => ∃ v', e = .returned v' ∧ O8 w' w.heap.size v' l ∧ Below w.heap.size w w' := by
  have c0 := h.c0
  have HC := Lib.hid (clone_any w base v l h.2.1 hlen)
  obtain ⟨a, n, c, rfl⟩ := h.2.1.shape
  clear h
  go_enter Try.func24, Try.ntmps24
  go_wp2_with (go_at_call 44; refine HC.out.mono ?_; rintro e w2 ⟨v2, rfl, ho2, hb2⟩)
  go_ret
  exact ⟨_, rfl, ho2, hb2⟩

/-! ### A nil writer -/
set_option maxHeartbeats 400000 in
theorem wnum_nil (w : World) (a : Option Addr) (n c : Nat) :
    Calls Try.prog 26 #[.pointer none, .slice a n c] w fun e w' => e = .returned (.tuple #[]) ∧ w = w' := by
  go_enter Try.func26, Try.ntmps26
  go_wp2
  refine bodyPost_ret (results_none rfl _ _ _) rfl ?_
  exact ⟨rfl, rfl⟩
set_option maxHeartbeats 400000 in
theorem wraw_nil (w : World) (a : Option Addr) (n c : Nat) :
    Calls Try.prog 38 #[.pointer none, .slice a n c] w fun e w' => e = .returned (.tuple #[]) ∧ w = w' := by
  go_enter Try.func38, Try.ntmps38
  go_wp2
  refine bodyPost_ret (results_none rfl _ _ _) rfl ?_
  exact ⟨rfl, rfl⟩
set_option maxHeartbeats 400000 in
theorem wlen_nil (w : World) :
    Calls Try.prog 25 #[.pointer none] w fun e w' => e = .returned (.int .i64 0) ∧ w = w' := by
  go_enter Try.func25, Try.ntmps25
  go_wp2
  go_ret
  exact ⟨rfl, rfl⟩
set_option maxHeartbeats 400000 in
theorem wbytes_nil (w : World) :
    Calls Try.prog 24 #[.pointer none] w fun e w' => e = .returned (.slice none 0 0) ∧ w = w' := by
  go_enter Try.func24, Try.ntmps24
  go_wp2
  go_ret
  exact ⟨rfl, rfl⟩
set_option maxHeartbeats 400000 in
theorem wput_nil (w : World) (a : Option Addr) (n c : Nat) (hn : n ≤ 9223372036854775807) :
    Calls Try.prog 37 #[.pointer none, .slice a n c] w fun e w' => e = .returned (.tuple #[]) ∧ Below w.heap.size w w' := by
  go_enter Try.func37, Try.ntmps37
  go_wp2_with (first | (go_at_call 26; refine (wnum_nil _ _ _ _).mono ?_; rintro e w2 ⟨rfl, rfl⟩) | (go_at_call 38; refine (wraw_nil _ _ _ _).mono ?_; rintro e w2 ⟨rfl, rfl⟩))
  go_end0
  exact ⟨rfl, (Below.refl _ _).alloc (Nat.le_refl _) _⟩
set_option maxRecDepth 100000 in
set_option maxHeartbeats 400000 in
/-- Int of one number, as it is called. -/
theorem wint_nil (w : World) (g c : Nat) (n : Int) (h1 : -9223372036854775808 ≤ n) (h2 : n ≤ 9223372036854775807) (hc : w.cell? ⟨g, 0, none⟩ = some (.int .i64 n)) :
    Calls Try.prog 27 #[.pointer none, .slice (some ⟨g, 0, none⟩) 1 c] w fun e w' => e = .returned (.tuple #[]) ∧ Below w.heap.size w w' := by
  go_enter Try.func27, Try.ntmps27
  go_wp2
  go_loopw [8] (fun i wr => ∃ (k : Nat), k ≤ 1 ∧ i = .int .i64 k ∧ Below w.heap.size w wr) (fun i _ => 1 - (intOf i).toNat)
  case atStart => exact ⟨0, by omega, rfl, Below.refl _ _⟩
  case round =>
    obtain ⟨k, hk, rfl, hb⟩ := hrel
    have hcell : wr.cell? ⟨g, 0, none⟩ = some (.int .i64 n) := by
      rw [hb.cell (p := ⟨g, 0, none⟩) (lt_of_cell hc)]; exact hc
    have HB := Lib.hid hb
    have hs := hb.size
    clear hb hc
    rcases Nat.lt_or_ge k 1 with hlt | hge
    · obtain rfl : k = 0 := by omega
      go_wp2_with (first | (go_at_call 14; refine (zig_any n _ h1 h2).mono ?_; rintro e w' ⟨rfl, rfl⟩) | (go_at_call 26; refine (wnum_nil _ _ _ _).mono ?_; rintro e w2 ⟨rfl, rfl⟩))
      go_roundw
      case rel => exact ⟨1, by omega, by go_num, HB.out.alloc (by omega) _⟩
      case measure => simp [intOf]
    · obtain rfl : k = 1 := by omega
      go_wp2
      go_end0
      exact ⟨rfl, HB.out⟩

end Go.Proofs.Ytjkiollopajmoaa.V
