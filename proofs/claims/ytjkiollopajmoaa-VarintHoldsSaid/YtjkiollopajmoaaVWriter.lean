/-
  A writer in memory, and what its methods do to it.
-/
import Derived.Test.YtjkiollopajmoaaVWrite
namespace Go.Proofs.Ytjkiollopajmoaa.V
set_option linter.unusedVariables false
open Go.RowKit

/-- Block b is a writer, whose slice v holds the bytes l. -/
def Wr (w : World) (base b : Nat) (v : Value) (l : List UInt8) : Prop := (∃ T, w.heap[b]? = some (.cells #[v] T (0, 0))) ∧ O8 w base v l ∧ v.ownBlock ≠ some b

/-- Of what was there, nothing has turned but the writer and its row. -/
structure Wf (w w' : World) (b : Nat) (v : Value) : Prop where
  os : w'.os = w.os
  tape : w'.tape = w.tape
  output : w'.output = w.output
  size : w.heap.size ≤ w'.heap.size
  block : ∀ k, k < w.heap.size → k ≠ b → some k ≠ v.ownBlock → w'.heap[k]? = w.heap[k]?

/-- The cells behind an address hold the values xs. -/
def RowV (w : World) (a : Option Addr) (xs : List Value) : Prop :=
  xs = [] ∨ ∃ b o, a = some ⟨b, o, none⟩ ∧ ∀ i (h : i < xs.length), w.cell? ⟨b, o + i, none⟩ = some xs[i]

theorem Wf.refl (w : World) (b : Nat) (v : Value) : Wf w w b v := ⟨rfl, rfl, rfl, Nat.le_refl _, fun _ _ _ _ => rfl⟩
theorem Wf.trans {w a c : World} {b : Nat} {v x : Value} (h : Wf w a b v) (hx : Grew w v x) (k : Wf a c b x) : Wf w c b v := by
  refine ⟨k.os.trans h.os, k.tape.trans h.tape, k.output.trans h.output, Nat.le_trans h.size k.size, fun i hi hb hr => (k.block i (Nat.lt_of_lt_of_le hi h.size) hb ?_).trans (h.block i hi hb hr)⟩
  rcases hx with hx | ⟨g, hg, hge⟩
  · rw [hx]; exact hr
  · rw [hg]; intro e; cases e; omega
theorem Wf.alloc {w a : World} {b : Nat} {v : Value} (h : Wf w a b v) (o : Obj) : Wf w (a.alloc o) b v :=
  ⟨h.os, h.tape, h.output, by have := h.size; simp; omega, fun k hk hb hr => (Below.heap_alloc a o k (Nat.lt_of_lt_of_le hk h.size)).trans (h.block k hk hb hr)⟩
/-- Where the writer and its row are new, nothing of what was there has turned. -/
theorem Wf.below {B : Nat} {a w w' : World} {b : Nat} {v : Value} (h : Wf w w' b v) (ha : Below B a w) (hB : B ≤ w.heap.size) (hb : B ≤ b) (hv : ∀ k, v.ownBlock = some k → B ≤ k) : Below B a w' :=
  ha.trans ⟨h.os, h.tape, h.output, h.size, fun k hk => h.block k (by omega) (by omega) (fun e => by have := hv k e.symm; omega)⟩

section
variable {w w' : World} {base b : Nat} {v : Value} {l : List UInt8}
theorem Wr.lt (h : Wr w base b v l) : b < w.heap.size := by
  obtain ⟨⟨T, h⟩, _⟩ := h
  exact (Array.getElem?_eq_some_iff.1 h).1
theorem Wr.c0 (h : Wr w base b v l) : w.cell? ⟨b, 0, none⟩ = some v := by
  obtain ⟨⟨T, h⟩, _⟩ := h
  simp [World.cell?, h]
theorem Wr.free (h : Wr w base b v l) : w.frozen? ⟨b, 0, none⟩ = false := by
  obtain ⟨⟨T, h⟩, _⟩ := h
  simp [World.frozen?, h]
theorem Wr.keep (h : Wr w base b v l) (hb : Below w.heap.size w w') : Wr w' base b v l := by
  have hlt := h.lt
  obtain ⟨⟨T, hh⟩, ho, hne⟩ := h
  exact ⟨⟨T, by rw [hb.block b hlt, hh]⟩, ho.below hb, hne⟩
/-- The writer's cell behind an append to its row. -/
theorem Wr.cellThen (h : Wr w base b v l) (hg : w.grownBy w' v.ownBlock) : w'.cell? ⟨b, 0, none⟩ = some v ∧ w'.frozen? ⟨b, 0, none⟩ = false := by
  have hh := hg.block b h.lt (fun e => h.2.2 e.symm)
  exact ⟨(World.cell?_of_block (w := w) hh).trans h.c0, (World.frozen?_of_block (w := w) hh).trans h.free⟩
theorem Wr.step {x : Value} {l' : List UInt8} (h : Wr w base b v l) (ho : O8 w' base x l') (hg : w.grownBy w' v.ownBlock) (hgr : Grew w v x) : Wr (w'.setCell ⟨b, 0, none⟩ x) base b x l' := by
  have hlt := h.lt
  have hb := hg.block b hlt (fun e => h.2.2 e.symm)
  have hne : x.ownBlock ≠ some b := by
    rcases hgr with e | ⟨k, e, hk⟩
    · rw [e]; exact h.2.2
    · rw [e]; intro e2; cases e2; omega
  obtain ⟨⟨T, hh⟩, _⟩ := h
  refine ⟨⟨T, ?_⟩, ?_, hne⟩
  · rw [hh] at hb
    simp [World.setCell, Array.getElem?_modify, hb]
  · refine O8.keep ho (gb_setCell w' b 0 x) ?_
    rcases hx : x.ownBlock with _ | k
    · exact .inl rfl
    · right; rw [hx] at hne; exact hne
theorem Wf.step {wr w2 : World} {x y : Value} (h : Wf w wr b v) (hx : Grew w v x) (hg : wr.grownBy w2 x.ownBlock) : Wf w (w2.setCell ⟨b, 0, none⟩ y) b v := by
  refine h.trans hx ⟨hg.os, hg.tape, hg.output, by have := hg.size; simpa [World.setCell] using this, fun k hk hb hr => ?_⟩
  rw [Below.heap_setCell w2 ⟨b, 0, none⟩ y k hb]
  exact hg.block k hk hr
theorem RowV.wf {a : Option Addr} {xs : List Value} (h : RowV w a xs) (hf : Wf w w' b v) (hne : ∀ b' o, a = some ⟨b', o, none⟩ → xs ≠ [] → b' ≠ b ∧ some b' ≠ v.ownBlock) : RowV w' a xs := by
  by_cases hl : xs = []
  · exact .inl hl
  · obtain ⟨b', o, rfl, hc⟩ := h.resolve_left hl
    refine .inr ⟨b', o, rfl, fun i hi => ?_⟩
    have h' := hc i hi
    obtain ⟨n1, n2⟩ := hne b' o rfl hl
    rw [World.cell?_of_block (w := w) (hf.block b' (lt_of_cell h') n1 n2)]
    exact h'
theorem RowV.keep {a : Option Addr} {xs : List Value} (h : RowV w a xs) (hb : Below w.heap.size w w') : RowV w' a xs := by
  rcases h with h | ⟨b, o, rfl, h⟩
  · exact .inl h
  · refine .inr ⟨b, o, rfl, fun i hi => ?_⟩
    have := h i hi
    rw [hb.cell (p := ⟨b, o + i, none⟩) (lt_of_cell this)]
    exact this
end

def u64s (l : List Nat) : List Value := l.map fun (n : Nat) => Value.int .u64 (n : Int)
def nums (l : List Nat) : List UInt8 := l.flatMap num
theorem nums_le : ∀ (l : List Nat), (∀ n ∈ l, n < 18446744073709551616) → (nums l).length ≤ 10 * l.length
  | [], _ => by simp [nums]
  | n :: l, h => by
    have h1 := num_ten (h n (by simp))
    have h2 := nums_le l (fun m hm => h m (by simp [hm]))
    simp only [nums, List.flatMap_cons, List.length_append, List.length_cons] at h2 ⊢
    omega
theorem nums_succ (l : List Nat) (k : Nat) (h : k < l.length) : nums (l.take (k + 1)) = nums (l.take k) ++ num l[k] := by
  unfold nums
  rw [List.take_succ_eq_append_getElem h, List.flatMap_append]
  simp

set_option maxRecDepth 100000 in
set_option maxHeartbeats 400000 in
theorem wnum_any (w : World) (base b : Nat) (v : Value) (l : List UInt8) (a : Option Addr) (ns : List Nat) (c : Nat) (h : Wr w base b v l) (hrow : RowV w a (u64s ns)) (hns : ∀ n ∈ ns, n < 18446744073709551616)
    (hne : ∀ b' o, a = some ⟨b', o, none⟩ → u64s ns ≠ [] → b' ≠ b ∧ some b' ≠ v.ownBlock) (hlen : l.length + 10 * ns.length ≤ 35184372088832) (hbase : base ≤ w.heap.size) :
    Calls Try.prog 26 #[.pointer (some ⟨b, 0, none⟩), .slice a ns.length c] w fun e w' => e = .returned (.tuple #[]) ∧ ∃ v', Wr w' base b v' (l ++ nums ns) ∧ Wf w w' b v ∧ Grew w v v' := by
  have H := Lib.hid h
  have HRow := Lib.hid hrow
  have HNe := Lib.hid hne
  have HNs := Lib.hid hns
  clear h hrow hne hns
  go_enter Try.func26, Try.ntmps26
  go_wp2
  go_loopw [10] (fun i wr => ∃ (k : Nat) (x : Value), k ≤ ns.length ∧ i = .int .i64 k ∧ Wr wr base b x (l ++ nums (ns.take k)) ∧ Wf w wr b v ∧ Grew w v x) (fun i _ => ns.length - (intOf i).toNat)
  case atStart => exact ⟨0, v, Nat.zero_le _, rfl, by simpa [nums] using H.out, Wf.refl _ _ _, .inl rfl⟩
  case round =>
    obtain ⟨k, x, hk, rfl, hw, hf, hgr⟩ := hrel
    have c0 := hw.c0
    have HW := Lib.hid hw
    have HF := Lib.hid hf
    have HG := Lib.hid hgr
    have hs := hf.size
    clear hw hf hgr
    by_cases hlt : k < ns.length
    · obtain ⟨n, hn, hn64⟩ : ∃ n : Nat, n = ns[k] ∧ n < 18446744073709551616 := ⟨_, rfl, HNs.out _ (List.getElem_mem hlt)⟩
      have hu : u64s ns ≠ [] := by intro e; have := congrArg List.length e; simp only [u64s, List.length_map, List.length_nil] at this; omega
      obtain ⟨b', o, rfl, hc⟩ := (HRow.out.wf HF.out HNe.out).resolve_left hu
      have hcell : wr.cell? ⟨b', o + k, none⟩ = some (.int .u64 (n : Int)) := by
        have := hc k (by simpa [u64s] using hlt)
        rw [this, hn]; simp [u64s]
      have HN := Lib.hid hn
      have hl2 : (l ++ nums (ns.take k)).length ≤ 35184372088832 := by
        have h2 := nums_le (ns.take k) (fun m hm => HNs.out m (List.mem_of_mem_take hm))
        rw [List.length_take] at h2
        rw [List.length_append]; omega
      have HL := Lib.hid hl2
      clear hc hn hu hl2
      have HC := Lib.hid (appnum_any n hn64 wr base x _ HW.out.2.1 HL.out (by omega))
      go_wp2_with (go_at_call 45; refine HC.out.mono ?_; rintro e w2 ⟨v2, rfl, ho2, hg2, hgr2⟩; obtain ⟨c2, f2⟩ := HW.out.cellThen hg2; obtain ⟨a2, n2, cc2, rfl⟩ := ho2.shape)
      go_roundw
      case rel =>
        refine ⟨k + 1, .slice a2 n2 cc2, by omega, by go_num, ?_, ?_, ?_⟩
        · rw [nums_succ ns k hlt, ← HN.out, ← List.append_assoc]
          exact HW.out.step ho2 hg2 hgr2
        · exact HF.out.step HG.out hg2
        · exact HG.out.trans hs hgr2
      case measure => simp [intOf]; omega
    · have hkl : k = ns.length := by omega
      subst hkl
      go_wp2
      go_end0
      refine ⟨rfl, x, ?_, HF.out, HG.out⟩
      have := HW.out
      rwa [List.take_length] at this

/-- A slice of the call's own, of one number. -/
theorem rowV_one (w : World) (x : Value) (t : TypeId) : RowV (w.alloc (.cells #[x] t)) (some ⟨w.heap.size, 0, none⟩) [x] := by
  refine .inr ⟨_, _, rfl, fun i hi => ?_⟩
  have : i = 0 := by simpa using hi
  subst this
  simp

/-- One number. -/
theorem wnum_one (w : World) (base b : Nat) (v : Value) (l : List UInt8) (n : Nat) (h : Wr w base b v l) (hn : n < 18446744073709551616) (hlen : l.length ≤ 35184372088800) (hbase : base ≤ w.heap.size) (c g : Nat) (hg : g = w.heap.size) :
    Calls Try.prog 26 #[.pointer (some ⟨b, 0, none⟩), .slice (some ⟨g, 0, none⟩) 1 c] (w.alloc (.cells #[.int .u64 (n : Int)] 22)) fun e w' =>
      e = .returned (.tuple #[]) ∧ ∃ v', Wr w' base b v' (l ++ num n) ∧ Wf w w' b v ∧ Grew w v v' := by
  subst hg
  have hb := h.lt
  have hv := h.2.1.lt
  have H := wnum_any (w.alloc (.cells #[.int .u64 (n : Int)] 22)) base b v l (some ⟨w.heap.size, 0, none⟩) [n] c (h.keep ((Below.refl _ _).alloc (Nat.le_refl _) _)) (rowV_one w _ _) (by simpa using hn)
    (by
      intro b' o e _
      cases e
      refine ⟨by omega, fun e => ?_⟩
      have := (hv _ e.symm).2
      omega)
    (by simp; omega) (by simp; omega)
  refine H.mono fun e w' ⟨he, v', hw, hf, hg⟩ => ⟨he, v', by simpa [nums] using hw, ?_, ?_⟩
  · exact (Wf.refl w b v).alloc _ |>.trans (.inl rfl) hf
  · exact (Grew.refl w v).trans (by simp) hg

def i64s (l : List Int) : List Value := l.map fun (n : Int) => Value.int .i64 n
def zigs (l : List Int) : List UInt8 := l.flatMap fun n => num (zig n)
theorem zigs_le : ∀ (l : List Int), (∀ n ∈ l, -9223372036854775808 ≤ n ∧ n ≤ 9223372036854775807) → (zigs l).length ≤ 10 * l.length
  | [], _ => by simp [zigs]
  | n :: l, h => by
    have h0 := h n (by simp)
    have h1 := num_ten (zig_lt h0.1 h0.2)
    have h2 := zigs_le l (fun m hm => h m (by simp [hm]))
    simp only [zigs, List.flatMap_cons, List.length_append, List.length_cons] at h2 ⊢
    omega
theorem zigs_succ (l : List Int) (k : Nat) (h : k < l.length) : zigs (l.take (k + 1)) = zigs (l.take k) ++ num (zig l[k]) := by
  unfold zigs
  rw [List.take_succ_eq_append_getElem h, List.flatMap_append]
  simp

set_option maxRecDepth 100000 in
set_option maxHeartbeats 400000 in
theorem wint_any (w : World) (base b : Nat) (v : Value) (l : List UInt8) (a : Option Addr) (ns : List Int) (c : Nat) (h : Wr w base b v l) (hrow : RowV w a (i64s ns)) (hns : ∀ n ∈ ns, -9223372036854775808 ≤ n ∧ n ≤ 9223372036854775807)
    (hne : ∀ b' o, a = some ⟨b', o, none⟩ → i64s ns ≠ [] → b' ≠ b ∧ some b' ≠ v.ownBlock) (hlen : l.length + 10 * ns.length ≤ 35184372088800) (hbase : base ≤ w.heap.size) :
    Calls Try.prog 27 #[.pointer (some ⟨b, 0, none⟩), .slice a ns.length c] w fun e w' => e = .returned (.tuple #[]) ∧ ∃ v', Wr w' base b v' (l ++ zigs ns) ∧ Wf w w' b v ∧ Grew w v v' := by
  have H := Lib.hid h
  have HRow := Lib.hid hrow
  have HNe := Lib.hid hne
  have HNs := Lib.hid hns
  clear h hrow hne hns
  go_enter Try.func27, Try.ntmps27
  go_wp2
  go_loopw [8] (fun i wr => ∃ (k : Nat) (x : Value), k ≤ ns.length ∧ i = .int .i64 k ∧ Wr wr base b x (l ++ zigs (ns.take k)) ∧ Wf w wr b v ∧ Grew w v x) (fun i _ => ns.length - (intOf i).toNat)
  case atStart => exact ⟨0, v, Nat.zero_le _, rfl, by simpa [zigs] using H.out, Wf.refl _ _ _, .inl rfl⟩
  case round =>
    obtain ⟨k, x, hk, rfl, hw, hf, hgr⟩ := hrel
    have HW := Lib.hid hw
    have HF := Lib.hid hf
    have HG := Lib.hid hgr
    have hs := hf.size
    clear hw hf hgr
    by_cases hlt : k < ns.length
    · obtain ⟨n, hn, hn1, hn2⟩ : ∃ n : Int, n = ns[k] ∧ -9223372036854775808 ≤ n ∧ n ≤ 9223372036854775807 := ⟨_, rfl, HNs.out _ (List.getElem_mem hlt)⟩
      have hu : i64s ns ≠ [] := by intro e; have := congrArg List.length e; simp only [i64s, List.length_map, List.length_nil] at this; omega
      obtain ⟨b', o, rfl, hc⟩ := (HRow.out.wf HF.out HNe.out).resolve_left hu
      have hcell : wr.cell? ⟨b', o + k, none⟩ = some (.int .i64 n) := by
        have := hc k (by simpa [i64s] using hlt)
        rw [this, hn]; simp [i64s]
      have HN := Lib.hid hn
      have hl2 : (l ++ zigs (ns.take k)).length ≤ 35184372088800 := by
        have h2 := zigs_le (ns.take k) (fun m hm => HNs.out m (List.mem_of_mem_take hm))
        rw [List.length_take] at h2
        rw [List.length_append]; omega
      clear hc hn hu
      have HC := Lib.hid (wnum_one wr base b x _ (zig n) HW.out (zig_lt hn1 hn2) hl2 (by omega))
      clear hl2
      go_wp2_with (first | (go_at_call 14; refine (zig_any n _ hn1 hn2).mono ?_; rintro e w' ⟨rfl, rfl⟩) | (go_at_call 26; refine (HC.out _ _ (by simp)).mono ?_; rintro e w2 ⟨rfl, v2, hw2, hf2, hgr2⟩))
      go_roundw
      case rel =>
        refine ⟨k + 1, v2, by omega, by go_num, ?_, ?_, ?_⟩
        · rw [zigs_succ ns k hlt, ← HN.out, ← List.append_assoc]
          exact hw2
        · exact HF.out.trans HG.out hf2
        · exact HG.out.trans hs hgr2
      case measure => simp [intOf]; omega
    · have hkl : k = ns.length := by omega
      subst hkl
      go_wp2
      go_end0
      refine ⟨rfl, x, ?_, HF.out, HG.out⟩
      have := HW.out
      rwa [List.take_length] at this

end Go.Proofs.Ytjkiollopajmoaa.V
