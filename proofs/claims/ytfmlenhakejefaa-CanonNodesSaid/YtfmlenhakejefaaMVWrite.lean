/-
  The writers of layer 1: what each method does to a writer.
-/
import Derived.Test.YtfmlenhakejefaaVOwn
import Derived.Test.YtfmlenhakejefaaVWalkA

section
namespace Go.Proofs.Ytfmlenhakejefaa.V
set_option linter.unusedVariables false
open Go.RowKit

set_option maxRecDepth 100000 in
set_option maxHeartbeats 400000 in
theorem appnum_any (n : Nat) (hn : n < 18446744073709551616) (w : World) (base : Nat) (v : Value) (l : List UInt8) (h : O8 w base v l) (hl : l.length ≤ 35184372088832) (hbase : base ≤ w.heap.size) :
    Calls Try.prog 60 #[v, .int .u64 (n : Int)] w fun e w' => ∃ v', e = .returned v' ∧ O8 w' base v' (l ++ num n) ∧ w.grownBy w' v.ownBlock ∧ Grew w v v' := by
  go_enter Try.func60, Try.ntmps60
  go_wp2
  go_loopw [0, 1] (fun x i wr => ∃ (q : Nat) (pre : List UInt8), i = .int .u64 q ∧ q ≤ n ∧ Hid (num n = pre ++ num q) ∧ O8 wr base x (l ++ pre) ∧ w.grownBy wr v.ownBlock ∧ Grew w v x) (fun _ i _ => (intOf i).toNat)
  case atStart => exact ⟨n, [], rfl, Nat.le_refl _, rfl, by simpa using h, gb_refl _ _, .inl rfl⟩
  case round =>
    obtain ⟨q, pre, rfl, hqn, hq, ho, hg, hgr⟩ := hrel
    have HO := Lib.hid ho
    have hsz := hg.size
    have HG := Lib.hid hg
    have hlen : (l ++ pre).length ≤ 35184372088842 := by
      have h10 := num_ten hn
      rw [hq.out, List.length_append] at h10
      rw [List.length_append]; omega
    have HLn := Lib.hid hlen
    clear ho hg hlen
    by_cases hb : q < 128
    · obtain ⟨c, rfl⟩ : ∃ c : UInt8, q = c.toNat := ⟨UInt8.ofNat q, by simp; omega⟩
      have hc : num c.toNat = [c] := by rw [num_small hb]; simp
      have HC := Lib.hid hc
      clear hc
      go_wp2_with (at_builtin; refine wpList_app8 rfl (.tmp 15) (.tmp 18) rfl base _ _ rfl (HO.out.below ((Below.refl _ _).alloc (Nat.le_refl _) _)) (some ⟨wr.heap.size, 0, none⟩) [c] 1 rfl (row_one wr c _) (by simp) (by have := HLn.out; simp only [List.length_cons, List.length_nil]; omega) (by simp; omega) ?_; intro v' w' ho' hg' hgr')
      go_ret
      refine ⟨_, rfl, ?_, ?_, ?_⟩
      · rw [hq.out, HC.out, ← List.append_assoc]; exact ho'
      · exact gb_grew (gb_trans HG.out (gb_alloc _ _ _)) hgr hg'
      · exact hgr.trans (Nat.le_trans hsz (by simp)) hgr'
    · obtain ⟨c, hc⟩ : ∃ c : UInt8, c = UInt8.ofNat (q % 128 + 128) := ⟨_, rfl⟩
      have hcn : c.toNat = q % 128 + 128 := by rw [hc]; simp; omega
      have e : bits .or .u8 ((q : Int) % 256) 128 = (c.toNat : Int) := by
        have := or_128 (q % 256) (by omega)
        rw [hcn]
        have e2 : q % 256 % 128 = q % 128 := by omega
        rw [e2] at this
        exact this
      have HC : Hid (num q = c :: num (q / 128)) := by rw [hc]; exact num_big hb
      have hq7 : ((q : Int) / 128) = ((q / 128 : Nat) : Int) := by omega
      have HQ7 := Lib.hid hq7
      clear hc hcn hq7
      go_wp2_with (at_builtin; refine wpList_app8 rfl (.tmp 9) (.tmp 13) rfl base _ _ rfl (HO.out.below ((Below.refl _ _).alloc (Nat.le_refl _) _)) (some ⟨wr.heap.size, 0, none⟩) [c] 1 rfl (row_one wr c _) (by simp) (by have := HLn.out; simp only [List.length_cons, List.length_nil]; omega) (by simp; omega) ?_; intro v' w' ho' hg' hgr')
      go_roundw
      case rel =>
        refine ⟨q / 128, pre ++ [c], by rw [HQ7.out], by omega, ?_, ?_, ?_, ?_⟩
        · show _ = _
          rw [hq.out, HC.out]; simp
        · rw [← List.append_assoc]; exact ho'
        · exact gb_grew (gb_trans HG.out (gb_alloc _ _ _)) hgr hg'
        · exact hgr.trans (Nat.le_trans hsz (by simp)) hgr'
      case measure => simp [intOf]; omega

end Go.Proofs.Ytfmlenhakejefaa.V
end

/-
  A writer in memory, and what its methods do to it.
-/
section
namespace Go.Proofs.Ytfmlenhakejefaa.V
set_option linter.unusedVariables false
open Go.RowKit

/-- Block b is a writer, whose slice v holds the bytes l. -/
def Wr (w : World) (base b : Nat) (v : Value) (l : List UInt8) : Prop := (∃ T, w.heap[b]? = some (.cells #[v] T (0, 0))) ∧ O8 w base v l ∧ v.ownBlock ≠ some b

/-- Of what was there, nothing has turned but the writer and its row. -/
structure Wf (w w' : World) (b : Nat) (v : Value) : Prop where
  os : w'.os = w.os
  tape : w'.tape = w.tape
  output : w'.output = w.output
  size : w.heap.size ≤ w'.heap.size
  block : ∀ k, k < w.heap.size → k ≠ b → some k ≠ v.ownBlock → w'.heap[k]? = w.heap[k]?

/-- The cells behind an address hold the values xs. -/
def RowV (w : World) (a : Option Addr) (xs : List Value) : Prop :=
  xs = [] ∨ ∃ b o, a = some ⟨b, o, none⟩ ∧ ∀ i (h : i < xs.length), w.cell? ⟨b, o + i, none⟩ = some xs[i]

theorem Wf.refl (w : World) (b : Nat) (v : Value) : Wf w w b v := ⟨rfl, rfl, rfl, Nat.le_refl _, fun _ _ _ _ => rfl⟩
theorem Wf.trans {w a c : World} {b : Nat} {v x : Value} (h : Wf w a b v) (hx : Grew w v x) (k : Wf a c b x) : Wf w c b v := by
  refine ⟨k.os.trans h.os, k.tape.trans h.tape, k.output.trans h.output, Nat.le_trans h.size k.size, fun i hi hb hr => (k.block i (Nat.lt_of_lt_of_le hi h.size) hb ?_).trans (h.block i hi hb hr)⟩
  rcases hx with hx | ⟨g, hg, hge⟩
  · rw [hx]; exact hr
  · rw [hg]; intro e; cases e; omega
theorem Wf.alloc {w a : World} {b : Nat} {v : Value} (h : Wf w a b v) (o : Obj) : Wf w (a.alloc o) b v :=
  ⟨h.os, h.tape, h.output, by have := h.size; simp; omega, fun k hk hb hr => (Below.heap_alloc a o k (Nat.lt_of_lt_of_le hk h.size)).trans (h.block k hk hb hr)⟩
/-- Where the writer and its row are new, nothing of what was there has turned. -/
theorem Wf.below {B : Nat} {a w w' : World} {b : Nat} {v : Value} (h : Wf w w' b v) (ha : Below B a w) (hB : B ≤ w.heap.size) (hb : B ≤ b) (hv : ∀ k, v.ownBlock = some k → B ≤ k) : Below B a w' :=
  ha.trans ⟨h.os, h.tape, h.output, h.size, fun k hk => h.block k (by omega) (by omega) (fun e => by have := hv k e.symm; omega)⟩

section
variable {w w' : World} {base b : Nat} {v : Value} {l : List UInt8}
theorem Wr.lt (h : Wr w base b v l) : b < w.heap.size := by
  obtain ⟨⟨T, h⟩, _⟩ := h
  exact (Array.getElem?_eq_some_iff.1 h).1
theorem Wr.c0 (h : Wr w base b v l) : w.cell? ⟨b, 0, none⟩ = some v := by
  obtain ⟨⟨T, h⟩, _⟩ := h
  simp [World.cell?, h]
theorem Wr.free (h : Wr w base b v l) : w.frozen? ⟨b, 0, none⟩ = false := by
  obtain ⟨⟨T, h⟩, _⟩ := h
  simp [World.frozen?, h]
theorem Wr.keep (h : Wr w base b v l) (hb : Below w.heap.size w w') : Wr w' base b v l := by
  have hlt := h.lt
  obtain ⟨⟨T, hh⟩, ho, hne⟩ := h
  exact ⟨⟨T, by rw [hb.block b hlt, hh]⟩, ho.below hb, hne⟩
/-- The writer's cell behind an append to its row. -/
theorem Wr.cellThen (h : Wr w base b v l) (hg : w.grownBy w' v.ownBlock) : w'.cell? ⟨b, 0, none⟩ = some v ∧ w'.frozen? ⟨b, 0, none⟩ = false := by
  have hh := hg.block b h.lt (fun e => h.2.2 e.symm)
  exact ⟨(World.cell?_of_block (w := w) hh).trans h.c0, (World.frozen?_of_block (w := w) hh).trans h.free⟩
theorem Wr.step {x : Value} {l' : List UInt8} (h : Wr w base b v l) (ho : O8 w' base x l') (hg : w.grownBy w' v.ownBlock) (hgr : Grew w v x) : Wr (w'.setCell ⟨b, 0, none⟩ x) base b x l' := by
  have hlt := h.lt
  have hb := hg.block b hlt (fun e => h.2.2 e.symm)
  have hne : x.ownBlock ≠ some b := by
    rcases hgr with e | ⟨k, e, hk⟩
    · rw [e]; exact h.2.2
    · rw [e]; intro e2; cases e2; omega
  obtain ⟨⟨T, hh⟩, _⟩ := h
  refine ⟨⟨T, ?_⟩, ?_, hne⟩
  · rw [hh] at hb
    simp [World.setCell, Array.getElem?_modify, hb]
  · refine O8.keep ho (gb_setCell w' b 0 x) ?_
    rcases hx : x.ownBlock with _ | k
    · exact .inl rfl
    · right; rw [hx] at hne; exact hne
theorem Wf.step {wr w2 : World} {x y : Value} (h : Wf w wr b v) (hx : Grew w v x) (hg : wr.grownBy w2 x.ownBlock) : Wf w (w2.setCell ⟨b, 0, none⟩ y) b v := by
  refine h.trans hx ⟨hg.os, hg.tape, hg.output, by have := hg.size; simpa [World.setCell] using this, fun k hk hb hr => ?_⟩
  rw [Below.heap_setCell w2 ⟨b, 0, none⟩ y k hb]
  exact hg.block k hk hr
theorem RowV.wf {a : Option Addr} {xs : List Value} (h : RowV w a xs) (hf : Wf w w' b v) (hne : ∀ b' o, a = some ⟨b', o, none⟩ → xs ≠ [] → b' ≠ b ∧ some b' ≠ v.ownBlock) : RowV w' a xs := by
  by_cases hl : xs = []
  · exact .inl hl
  · obtain ⟨b', o, rfl, hc⟩ := h.resolve_left hl
    refine .inr ⟨b', o, rfl, fun i hi => ?_⟩
    have h' := hc i hi
    obtain ⟨n1, n2⟩ := hne b' o rfl hl
    rw [World.cell?_of_block (w := w) (hf.block b' (lt_of_cell h') n1 n2)]
    exact h'
theorem RowV.keep {a : Option Addr} {xs : List Value} (h : RowV w a xs) (hb : Below w.heap.size w w') : RowV w' a xs := by
  rcases h with h | ⟨b, o, rfl, h⟩
  · exact .inl h
  · refine .inr ⟨b, o, rfl, fun i hi => ?_⟩
    have := h i hi
    rw [hb.cell (p := ⟨b, o + i, none⟩) (lt_of_cell this)]
    exact this
end

def u64s (l : List Nat) : List Value := l.map fun (n : Nat) => Value.int .u64 (n : Int)
def nums (l : List Nat) : List UInt8 := l.flatMap num
theorem nums_le : ∀ (l : List Nat), (∀ n ∈ l, n < 18446744073709551616) → (nums l).length ≤ 10 * l.length
  | [], _ => by simp [nums]
  | n :: l, h => by
    have h1 := num_ten (h n (by simp))
    have h2 := nums_le l (fun m hm => h m (by simp [hm]))
    simp only [nums, List.flatMap_cons, List.length_append, List.length_cons] at h2 ⊢
    omega
theorem nums_succ (l : List Nat) (k : Nat) (h : k < l.length) : nums (l.take (k + 1)) = nums (l.take k) ++ num l[k] := by
  unfold nums
  rw [List.take_succ_eq_append_getElem h, List.flatMap_append]
  simp

set_option maxRecDepth 100000 in
set_option maxHeartbeats 400000 in
theorem wnum_any (w : World) (base b : Nat) (v : Value) (l : List UInt8) (a : Option Addr) (ns : List Nat) (c : Nat) (h : Wr w base b v l) (hrow : RowV w a (u64s ns)) (hns : ∀ n ∈ ns, n < 18446744073709551616)
    (hne : ∀ b' o, a = some ⟨b', o, none⟩ → u64s ns ≠ [] → b' ≠ b ∧ some b' ≠ v.ownBlock) (hlen : l.length + 10 * ns.length ≤ 35184372088832) (hbase : base ≤ w.heap.size) :
    Calls Try.prog 48 #[.pointer (some ⟨b, 0, none⟩), .slice a ns.length c] w fun e w' => e = .returned (.tuple #[]) ∧ ∃ v', Wr w' base b v' (l ++ nums ns) ∧ Wf w w' b v ∧ Grew w v v' := by
  have H := Lib.hid h
  have HRow := Lib.hid hrow
  have HNe := Lib.hid hne
  have HNs := Lib.hid hns
  clear h hrow hne hns
  go_enter Try.func48, Try.ntmps48
  go_wp2
  go_loopw [10] (fun i wr => ∃ (k : Nat) (x : Value), k ≤ ns.length ∧ i = .int .i64 k ∧ Wr wr base b x (l ++ nums (ns.take k)) ∧ Wf w wr b v ∧ Grew w v x) (fun i _ => ns.length - (intOf i).toNat)
  case atStart => exact ⟨0, v, Nat.zero_le _, rfl, by simpa [nums] using H.out, Wf.refl _ _ _, .inl rfl⟩
  case round =>
    obtain ⟨k, x, hk, rfl, hw, hf, hgr⟩ := hrel
    have c0 := hw.c0
    have HW := Lib.hid hw
    have HF := Lib.hid hf
    have HG := Lib.hid hgr
    have hs := hf.size
    clear hw hf hgr
    by_cases hlt : k < ns.length
    · obtain ⟨n, hn, hn64⟩ : ∃ n : Nat, n = ns[k] ∧ n < 18446744073709551616 := ⟨_, rfl, HNs.out _ (List.getElem_mem hlt)⟩
      have hu : u64s ns ≠ [] := by intro e; have := congrArg List.length e; simp only [u64s, List.length_map, List.length_nil] at this; omega
      obtain ⟨b', o, rfl, hc⟩ := (HRow.out.wf HF.out HNe.out).resolve_left hu
      have hcell : wr.cell? ⟨b', o + k, none⟩ = some (.int .u64 (n : Int)) := by
        have := hc k (by simpa [u64s] using hlt)
        rw [this, hn]; simp [u64s]
      have HN := Lib.hid hn
      have hl2 : (l ++ nums (ns.take k)).length ≤ 35184372088832 := by
        have h2 := nums_le (ns.take k) (fun m hm => HNs.out m (List.mem_of_mem_take hm))
        rw [List.length_take] at h2
        rw [List.length_append]; omega
      have HL := Lib.hid hl2
      clear hc hn hu hl2
      have HC := Lib.hid (appnum_any n hn64 wr base x _ HW.out.2.1 HL.out (by omega))
      go_wp2_with (go_at_call 60; refine HC.out.mono ?_; rintro e w2 ⟨v2, rfl, ho2, hg2, hgr2⟩; obtain ⟨c2, f2⟩ := HW.out.cellThen hg2; obtain ⟨a2, n2, cc2, rfl⟩ := ho2.shape)
      go_roundw
      case rel =>
        refine ⟨k + 1, .slice a2 n2 cc2, by omega, by go_num, ?_, ?_, ?_⟩
        · rw [nums_succ ns k hlt, ← HN.out, ← List.append_assoc]
          exact HW.out.step ho2 hg2 hgr2
        · exact HF.out.step HG.out hg2
        · exact HG.out.trans hs hgr2
      case measure => simp [intOf]; omega
    · have hkl : k = ns.length := by omega
      subst hkl
      go_wp2
      go_end0
      refine ⟨rfl, x, ?_, HF.out, HG.out⟩
      have := HW.out
      rwa [List.take_length] at this

/-- A slice of the call's own, of one number. -/
theorem rowV_one (w : World) (x : Value) (t : TypeId) : RowV (w.alloc (.cells #[x] t)) (some ⟨w.heap.size, 0, none⟩) [x] := by
  refine .inr ⟨_, _, rfl, fun i hi => ?_⟩
  have : i = 0 := by simpa using hi
  subst this
  simp

/-- One number. -/
theorem wnum_one (w : World) (base b : Nat) (v : Value) (l : List UInt8) (n : Nat) (h : Wr w base b v l) (hn : n < 18446744073709551616) (hlen : l.length ≤ 35184372088800) (hbase : base ≤ w.heap.size) (c g : Nat) (hg : g = w.heap.size) :
    Calls Try.prog 48 #[.pointer (some ⟨b, 0, none⟩), .slice (some ⟨g, 0, none⟩) 1 c] (w.alloc (.cells #[.int .u64 (n : Int)] 59)) fun e w' =>
      e = .returned (.tuple #[]) ∧ ∃ v', Wr w' base b v' (l ++ num n) ∧ Wf w w' b v ∧ Grew w v v' := by
  subst hg
  have hb := h.lt
  have hv := h.2.1.lt
  have H := wnum_any (w.alloc (.cells #[.int .u64 (n : Int)] 59)) base b v l (some ⟨w.heap.size, 0, none⟩) [n] c (h.keep ((Below.refl _ _).alloc (Nat.le_refl _) _)) (rowV_one w _ _) (by simpa using hn)
    (by
      intro b' o e _
      cases e
      refine ⟨by omega, fun e => ?_⟩
      have := (hv _ e.symm).2
      omega)
    (by simp; omega) (by simp; omega)
  refine H.mono fun e w' ⟨he, v', hw, hf, hg⟩ => ⟨he, v', by simpa [nums] using hw, ?_, ?_⟩
  · exact (Wf.refl w b v).alloc _ |>.trans (.inl rfl) hf
  · exact (Grew.refl w v).trans (by simp) hg

def i64s (l : List Int) : List Value := l.map fun (n : Int) => Value.int .i64 n
def zigs (l : List Int) : List UInt8 := l.flatMap fun n => num (zig n)
theorem zigs_le : ∀ (l : List Int), (∀ n ∈ l, -9223372036854775808 ≤ n ∧ n ≤ 9223372036854775807) → (zigs l).length ≤ 10 * l.length
  | [], _ => by simp [zigs]
  | n :: l, h => by
    have h0 := h n (by simp)
    have h1 := num_ten (zig_lt h0.1 h0.2)
    have h2 := zigs_le l (fun m hm => h m (by simp [hm]))
    simp only [zigs, List.flatMap_cons, List.length_append, List.length_cons] at h2 ⊢
    omega
theorem zigs_succ (l : List Int) (k : Nat) (h : k < l.length) : zigs (l.take (k + 1)) = zigs (l.take k) ++ num (zig l[k]) := by
  unfold zigs
  rw [List.take_succ_eq_append_getElem h, List.flatMap_append]
  simp

end Go.Proofs.Ytfmlenhakejefaa.V
end

/-
  The writers of layer 1: bytes; how many were written, and which; nil writers.
-/
section
namespace Go.Proofs.Ytfmlenhakejefaa.V
set_option linter.unusedVariables false
open Go.RowKit

set_option maxRecDepth 100000 in
set_option maxHeartbeats 400000 in
theorem wraw_any (w : World) (base b : Nat) (v : Value) (l : List UInt8) (a : Option Addr) (m : List UInt8) (c : Nat) (h : Wr w base b v l) (hrow : Row8 w a m) (hnil : a = none → c = 0)
    (hlen : l.length + m.length ≤ 35184372088832) (hbase : base ≤ w.heap.size) :
    Calls Try.prog 41 #[.pointer (some ⟨b, 0, none⟩), .slice a m.length c] w fun e w' => e = .returned (.tuple #[]) ∧ ∃ v', Wr w' base b v' (l ++ m) ∧ Wf w w' b v ∧ Grew w v v' := by
  have c0 := h.c0
  have H := Lib.hid h
  have HRow := Lib.hid hrow
  have HNil := Lib.hid hnil
  clear h hrow hnil
  go_enter Try.func41, Try.ntmps41
  go_wp2_with (at_builtin; refine wpList_app8 rfl (.tmp 10) (.tmp 11) rfl base _ _ rfl H.out.2.1 a m c rfl HRow.out HNil.out (by omega) hbase ?_; intro v2 w2 ho2 hg2 hgr2; obtain ⟨c2, f2⟩ := H.out.cellThen hg2; obtain ⟨a2, n2, cc2, rfl⟩ := ho2.shape)
  go_end0
  exact ⟨rfl, .slice a2 n2 cc2, H.out.step ho2 hg2 hgr2, (Wf.refl _ _ _).step (.inl rfl) hg2, hgr2⟩

set_option maxRecDepth 100000 in
set_option maxHeartbeats 400000 in
theorem wput_any (w : World) (base b : Nat) (v : Value) (l : List UInt8) (a : Option Addr) (m : List UInt8) (c : Nat) (h : Wr w base b v l) (hrow : Row8 w a m) (hnil : a = none → c = 0)
    (hne : ∀ b' o, a = some ⟨b', o, none⟩ → m ≠ [] → b' ≠ b ∧ some b' ≠ v.ownBlock)
    (hlen : l.length + m.length ≤ 35184372088800) (hbase : base ≤ w.heap.size) :
    Calls Try.prog 54 #[.pointer (some ⟨b, 0, none⟩), .slice a m.length c] w fun e w' => e = .returned (.tuple #[]) ∧ ∃ v', Wr w' base b v' (l ++ (num m.length ++ m)) ∧ Wf w w' b v ∧ Grew w v v' := by
  have HN := Lib.hid (wnum_one w base b v l m.length h (by omega) (by omega) hbase)
  have h10 := num_ten (n := m.length) (by omega)
  have HRow := Lib.hid hrow
  have HNil := Lib.hid hnil
  have HNe := Lib.hid hne
  clear h hrow hnil hne
  go_enter Try.func54, Try.ntmps54
  go_wp2_with fail
  refine (HN.out _ _ rfl).mono ?_
  rintro e w2 ⟨rfl, v2, hw2, hf2, hg2⟩
  have hrow2 : Row8 w2 a m := by
    rcases HRow.out with hm | ⟨b', o, rfl, hc⟩
    · exact .inl hm
    · by_cases hm : m = []
      · exact .inl hm
      · refine .inr ⟨b', o, rfl, fun i hi => ?_⟩
        have h' := hc i hi
        obtain ⟨n1, n2⟩ := HNe.out b' o rfl hm
        rw [World.cell?_of_block (w := w) (hf2.block b' (lt_of_cell h') n1 n2)]
        exact h'
  have HR := Lib.hid (wraw_any w2 base b v2 _ a m c hw2 hrow2 HNil.out (by rw [List.length_append]; omega) (by have := hf2.size; omega))
  have HF2 := Lib.hid hf2
  have HG2 := Lib.hid hg2
  clear hw2 hf2 hg2 hrow2
  go_wp2_with fail
  refine HR.out.mono ?_
  rintro e w3 ⟨rfl, v3, hw3, hf3, hg3⟩
  go_wp2_with fail
  go_end0
  refine ⟨rfl, v3, by rw [← List.append_assoc]; exact hw3, HF2.out.trans HG2.out hf3, HG2.out.trans HF2.out.size hg3⟩

set_option maxRecDepth 100000 in
set_option maxHeartbeats 400000 in
/-- A copy in new memory. -/
theorem clone_any (w : World) (base : Nat) (v : Value) (l : List UInt8) (h : O8 w base v l) (hlen : l.length ≤ 35184372088832) :
    Calls Try.prog 49 #[v] w fun e w' => ∃ v', e = .returned v' ∧ O8 w' w.heap.size v' l ∧ Below w.heap.size w w' := by
  obtain ⟨a, c, rfl, hrow, hnil, hown⟩ := h.row
  have HRow := Lib.hid hrow
  clear hrow h
  have hn2 : ∀ x, a = some x → x = ⟨x.block, 0, none⟩ := fun x hx => (hown x hx).1
  clear hown
  have hnone := fun (w : World) => Lib.run_eql_slice_nil (P := Try.prog) w 24 5 a l.length c 0 0 Try.underlying24
  rcases a with _ | ad
  · obtain ⟨rfl, rfl⟩ := hnil rfl
    clear hnil
    simp only [List.length_nil, Option.isNone_none] at hnone
    go_enter Try.func49, Try.ntmps49
    go_wp2
    go_ret
    exact ⟨_, rfl, O8.nil _ _, Below.refl _ _⟩
  · obtain ⟨g, hg⟩ : ∃ g, ad = ⟨g, 0, none⟩ := ⟨_, hn2 ad rfl⟩
    subst hg
    have HNil := Lib.hid hnil
    clear hnil hn2
    simp only [Option.isNone_some] at hnone
    have ho : O8 (w.alloc (.cells #[] 5)) w.heap.size (.slice (some ⟨w.heap.size, 0, none⟩) 0 0) [] := World.ownsRow_made w #[] 0 (Nat.le_refl _) (by unfold maxLen; omega) rfl
    have HO := Lib.hid ho
    clear ho
    go_enter Try.func49, Try.ntmps49
    go_wp2_with (at_builtin; (refine wpList_app8 rfl (.tmp 5) (.tmp 6) rfl w.heap.size _ _ rfl HO.out (some ⟨g, 0, none⟩) l c rfl (HRow.out.keep ((Below.refl _ _).alloc (Nat.le_refl _) _)) (by simp) (by simp only [List.length_nil]; omega) (by simp) ?_); intro v2 w2 ho2 hg2 hgr2)
    go_ret
    refine ⟨_, rfl, by simpa using ho2, ?_⟩
    exact ((Below.refl _ _).alloc (Nat.le_refl _) _).grown hg2 (by simp) (by intro k hk; cases hk; exact Nat.le_refl _)

set_option maxHeartbeats 400000 in
theorem wbytes_any (w : World) (base b : Nat) (v : Value) (l : List UInt8) (h : Wr w base b v l) (hlen : l.length ≤ 35184372088832) :
    Calls Try.prog 38 #[.pointer (some ⟨b, 0, none⟩)] w fun e w' => ∃ v', e = .returned v' ∧ O8 w' w.heap.size v' l ∧ Below w.heap.size w w' := by
  have c0 := h.c0
  have HC := Lib.hid (clone_any w base v l h.2.1 hlen)
  obtain ⟨a, n, c, rfl⟩ := h.2.1.shape
  clear h
  go_enter Try.func38, Try.ntmps38
  go_wp2_with (go_at_call 49; refine HC.out.mono ?_; rintro e w2 ⟨v2, rfl, ho2, hb2⟩)
  go_ret
  exact ⟨_, rfl, ho2, hb2⟩

/-! ### A nil writer -/
set_option maxHeartbeats 400000 in
theorem wnum_nil (w : World) (a : Option Addr) (n c : Nat) :
    Calls Try.prog 48 #[.pointer none, .slice a n c] w fun e w' => e = .returned (.tuple #[]) ∧ w = w' := by
  go_enter Try.func48, Try.ntmps48
  go_wp2
  refine bodyPost_ret (results_none rfl _ _ _) rfl ?_
  exact ⟨rfl, rfl⟩
set_option maxHeartbeats 400000 in
theorem wraw_nil (w : World) (a : Option Addr) (n c : Nat) :
    Calls Try.prog 41 #[.pointer none, .slice a n c] w fun e w' => e = .returned (.tuple #[]) ∧ w = w' := by
  go_enter Try.func41, Try.ntmps41
  go_wp2
  refine bodyPost_ret (results_none rfl _ _ _) rfl ?_
  exact ⟨rfl, rfl⟩
set_option maxHeartbeats 400000 in
theorem wbytes_nil (w : World) :
    Calls Try.prog 38 #[.pointer none] w fun e w' => e = .returned (.slice none 0 0) ∧ w = w' := by
  go_enter Try.func38, Try.ntmps38
  go_wp2
  go_ret
  exact ⟨rfl, rfl⟩
set_option maxHeartbeats 400000 in
theorem wput_nil (w : World) (a : Option Addr) (n c : Nat) (hn : n ≤ 9223372036854775807) :
    Calls Try.prog 54 #[.pointer none, .slice a n c] w fun e w' => e = .returned (.tuple #[]) ∧ Below w.heap.size w w' := by
  go_enter Try.func54, Try.ntmps54
  go_wp2_with (first | (go_at_call 48; refine (wnum_nil _ _ _ _).mono ?_; rintro e w2 ⟨rfl, rfl⟩) | (go_at_call 41; refine (wraw_nil _ _ _ _).mono ?_; rintro e w2 ⟨rfl, rfl⟩))
  go_end0
  exact ⟨rfl, (Below.refl _ _).alloc (Nat.le_refl _) _⟩
end Go.Proofs.Ytfmlenhakejefaa.V
end
