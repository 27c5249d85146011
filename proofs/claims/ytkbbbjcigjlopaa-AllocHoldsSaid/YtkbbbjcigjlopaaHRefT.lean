/-
  The reference's Take.
-/
import Derived.Test.YtkbbbjcigjlopaaHRef
namespace Go.Proofs.Ytkbbbjcigjlopaa.H
set_option linter.unusedVariables false
open Go.RowKit V Go.Sort D

abbrev E : TypeId := 39
theorem lit_one (w : World) (d : Dt) (t : TypeId) : RowD (w.alloc (.cells #[.int .i64 d.1, .int .i64 d.2] t)) (some ⟨w.heap.size, 0, none⟩) [d] := RowD.lit w [d] _ t (0, 0) rfl
theorem a3_two (w : World) (x y : Al) (s t : TypeId) : A3 ((w.alloc (abox x s)).alloc (abox y t)) w.heap.size x ∧ A3 ((w.alloc (abox x s)).alloc (abox y t)) (w.heap.size + 1) y := by
  refine ⟨(a3_new w x s).keep (bel_box _ _), ?_⟩
  have h := a3_new (w.alloc (abox x s)) y t
  rwa [show (w.alloc (abox x s)).heap.size = w.heap.size + 1 by simp] at h
set_option maxRecDepth 100000 in
set_option maxHeartbeats 2000000 in
theorem take_ref (x : Al) (n : Int) (w : World) (hv : Vs x) : Calls Try.prog 30 #[av x, .int .i64 n] w fun e w' => ∃ a c, e = .returned (.tuple #[av (takeA x n).1, .slice a (takeA x n).2.1.length c, .int .i64 (takeA x n).2.2]) ∧ RowD w' a (takeA x n).2.1 ∧ (a = none → c = 0) ∧ (takeA x n).2.1.length ≤ c ∧ (∀ b o, a = some ⟨b, o, none⟩ → w.heap.size ≤ b) ∧ Below w.heap.size w w' := by
  unfold Vs at hv
  obtain ⟨r, l, e⟩ := x
  simp only at hv
  by_cases h0 : n < 0
  · rw [show takeA ⟨r, l, e⟩ n = (⟨r, l, e⟩, [], 2) by unfold takeA; rw [if_pos (.inl h0)]]
    clear hv
    go_enter Try.func30, Try.ntmps30
    go_wp2_with fail
    (try simp only [Exit.inBlock, Exit.then])
    refine bodyPost_ret (v := .tuple #[av ⟨r, l, e⟩, .slice none 0 0, .int .i64 2]) (by rw [results_cell_two (fn := Try.f30) (p := 4) (u := 5) (v := 6) (ty := 23) rfl]; go_simp) rfl ?_
    first
    | exact ⟨none, 0, rfl, RowD.nil _ _, fun _ => rfl, (fun _ _ h => by cases h), (bel_box _ _).alloc (by simp) _⟩
    | exact ⟨none, 0, rfl, RowD.nil _ _, fun _ => rfl, Nat.le_refl _, (fun _ _ h => by cases h), (bel_box _ _).alloc (by simp) _⟩
    | exact ⟨none, 0, rfl, RowD.nil _ _, fun _ => rfl, (bel_box _ _).alloc (by simp) _⟩
  by_cases h1 : 65536 < n
  · rw [show takeA ⟨r, l, e⟩ n = (⟨r, l, e⟩, [], 2) by unfold takeA; rw [if_pos (.inr h1)]]
    clear hv
    go_enter Try.func30, Try.ntmps30
    go_wp2_with fail
    (try simp only [Exit.inBlock, Exit.then])
    refine bodyPost_ret (v := .tuple #[av ⟨r, l, e⟩, .slice none 0 0, .int .i64 2]) (by rw [results_cell_two (fn := Try.f30) (p := 4) (u := 5) (v := 6) (ty := 23) rfl]; go_simp) rfl ?_
    first
    | exact ⟨none, 0, rfl, RowD.nil _ _, fun _ => rfl, (fun _ _ h => by cases h), (bel_box _ _).alloc (by simp) _⟩
    | exact ⟨none, 0, rfl, RowD.nil _ _, fun _ => rfl, Nat.le_refl _, (fun _ _ h => by cases h), (bel_box _ _).alloc (by simp) _⟩
    | exact ⟨none, 0, rfl, RowD.nil _ _, fun _ => rfl, (bel_box _ _).alloc (by simp) _⟩
  by_cases h2 : e - l < n
  · rw [show takeA ⟨r, l, e⟩ n = (⟨r, l, e⟩, [], 14) by unfold takeA; simp only; rw [if_neg (by omega), if_pos h2]]
    obtain ⟨hv1, hv2, hv3, hv4, hv5⟩ := hv
    clear hv1 hv2
    go_enter Try.func30, Try.ntmps30
    go_wp2_with fail
    (try simp only [Exit.inBlock, Exit.then])
    refine bodyPost_ret (v := .tuple #[av ⟨r, l, e⟩, .slice none 0 0, .int .i64 14]) (by rw [results_cell_two (fn := Try.f30) (p := 4) (u := 5) (v := 6) (ty := 23) rfl]; go_simp) rfl ?_
    first
    | exact ⟨none, 0, rfl, RowD.nil _ _, fun _ => rfl, (fun _ _ h => by cases h), (bel_box _ _).alloc (by simp) _⟩
    | exact ⟨none, 0, rfl, RowD.nil _ _, fun _ => rfl, Nat.le_refl _, (fun _ _ h => by cases h), (bel_box _ _).alloc (by simp) _⟩
    | exact ⟨none, 0, rfl, RowD.nil _ _, fun _ => rfl, (bel_box _ _).alloc (by simp) _⟩
  obtain ⟨m, rfl⟩ := Int.eq_ofNat_of_zero_le (show 0 ≤ n by omega)
  rw [show takeA ⟨r, l, e⟩ (m : Int) = (⟨r, l + m, e⟩, dotsA r l m, 0) by unfold takeA; simp only; rw [if_neg (by omega), if_neg h2]; rfl]
  obtain ⟨hv1, hv2, hv3, hv4, hv5⟩ := hv
  have hm : (m : Int) ≤ 65536 := by omega
  clear hv1 hv2 h1
  have HV : Hid (l ≤ e ∧ e ≤ 4294967295 ∧ (m : Int) ≤ e - l) := by show _ ∧ _ ∧ _; omega
  obtain ⟨t0, t1⟩ := a3_two w ⟨r, l, e⟩ ⟨0, 0, 0⟩ 23 23
  have H0 := Lib.hid t0
  have H1 := Lib.hid t1
  have HB : Hid (Below w.heap.size w ((w.alloc (abox ⟨r, l, e⟩ 23)).alloc (abox ⟨0, 0, 0⟩ 23))) := (bel_box _ _).alloc (by simp) _
  have hsz : ((w.alloc (abox ⟨r, l, e⟩ 23)).alloc (abox ⟨0, 0, 0⟩ 23)).heap.size = w.heap.size + 2 := by simp
  clear t0 t1
  go_enter Try.func30, Try.ntmps30
  go_wp2_with fail
  generalize (w.alloc _).alloc _ = w1 at *
  go_loopw [7, 8] (fun o i wr => ∃ k : Nat, k ≤ m ∧ i = .int .i64 ((k : Int) + 1) ∧ Hid (A3 wr w.heap.size ⟨r, l, e⟩) ∧ Hid (A3 wr (w.heap.size + 1) ⟨0, 0, 0⟩) ∧ Hid (OD wr (w.heap.size + 2) E o (dotsA r l k)) ∧ Hid (Below w.heap.size w wr) ∧ Hid (w.heap.size + 2 ≤ wr.heap.size)) (fun _ i _ => m + 1 - (intOf i).toNat)
  case atStart => exact ⟨0, Nat.zero_le _, rfl, H0, H1, OD.nil _ _ _, HB, by show _ ≤ _; omega⟩
  case round =>
    obtain ⟨k, hk, rfl, H0, H1, HO, HB, HS⟩ := hrel
    obtain ⟨a2, c2, rfl, -⟩ := HO.out.row
    by_cases hlt : k < m
    · have hkm : (k : Int) + 1 ≤ (m : Int) := by omega
      have k0 := H0.out.c0
      have k1 := H0.out.c1
      simp only at k0 k1
      have HK := Lib.hid hk
      clear hk
      go_wp2_with (at_builtin; refine wpList_appD rfl _ _ _ rfl Try.underlying46 infoD _ _ rfl (HO.out.below ((Below.refl _ _).alloc (Nat.le_refl _) _)) (some ⟨wr.heap.size, 0, none⟩) [(r, l + ((k : Int) + 1))] 1 rfl (lit_one wr (r, l + ((k : Int) + 1)) _) (fun h => by cases h) (by rw [dotsA_len]; simp; omega) (by simp; have := HS.out; omega) ?_)
      intro v2 w2 ho hg _
      have hlo := HS.out
      have HB1 : Hid (Below w.heap.size w (wr.alloc (Obj.cells #[Value.int IntKind.i64 r, Value.int IntKind.i64 (l + ((k : Int) + 1))] 39))) := HB.out.alloc HB.out.size _
      have hne : ∀ j, (Value.slice a2 (dotsA r l k).length c2).ownBlock = some j → w.heap.size + 2 ≤ j := fun j hj => (HO.out.lt j hj).1
      have e0 : w2.heap[w.heap.size]? = wr.heap[w.heap.size]? := (hg.block _ (by simp; omega) (fun h => by have := hne _ h.symm; omega)).trans (Below.heap_alloc _ _ _ (by omega))
      have e1 : w2.heap[w.heap.size + 1]? = wr.heap[w.heap.size + 1]? := (hg.block _ (by simp; omega) (fun h => by have := hne _ h.symm; omega)).trans (Below.heap_alloc _ _ _ (by omega))
      have H0' := Lib.hid (H0.out.of_heap e0)
      have H1' := Lib.hid (H1.out.of_heap e1)
      have HB2 : Hid (Below w.heap.size w w2) := HB1.out.grown hg (by simp; omega) (fun j hj => by have := hne j hj; omega)
      have HS2 : Hid (w.heap.size + 2 ≤ w2.heap.size) := by have := hg.size; simp at this; show _ ≤ _; omega
      have HO2 : Hid (OD w2 (w.heap.size + 2) E v2 (dotsA r l (k + 1))) := by
        rw [dotsA_snoc, show l + 1 + (k : Int) = l + ((k : Int) + 1) by omega]
        exact ho
      clear ho hg hne e0 e1 hlo HB1 k0 k1
      go_wp2_with fail
      go_roundw
      case rel => exact ⟨k + 1, by omega, by go_num, H0', H1', HO2, HB2, HS2⟩
      case measure => simp [intOf]; omega
    · obtain rfl : k = m := by omega
      have k0 := H0.out.c0
      have k1 := H0.out.c1
      have k2 := H0.out.c2
      have j0 := H1.out.c0
      have j1 := H1.out.c1
      have j2 := H1.out.c2
      have f0 := H1.out.free 0
      have f1 := H1.out.free 1
      have f2 := H1.out.free 2
      simp only at k0 k1 k2 j0 j1 j2
      go_wp2_with fail
      (try simp only [Exit.inBlock, Exit.then])
      refine bodyPost_ret (v := .tuple #[av ⟨r, l + (k : Int), e⟩, .slice a2 (dotsA r l k).length c2, .int .i64 0]) (by rw [results_cell_two (fn := Try.f30) (p := 4) (u := 5) (v := 6) (ty := 23) rfl]; go_simp) rfl ?_
      obtain ⟨a3, c3, e3, hrow, hnil, hlen, hbl⟩ := HO.out.row
      simp only [Value.slice.injEq, true_and] at e3
      obtain ⟨rfl, rfl⟩ := e3
      refine ⟨a2, c2, rfl, hrow.of_heap (fun b hb hlt => ?_), fun h => (hnil h).1, hlen, (fun b o h => by have := (hbl _ h).2.2.1; simp only at this; omega), ((HB.out.setCell (by simp) _).setCell (by simp) _).setCell (by simp) _⟩
      obtain ⟨o, ho⟩ := hb
      have hge := (hbl _ ho).2.2.1
      simp only at hge
      rw [Below.heap_setCell _ _ _ _ (by simp only; omega), Below.heap_setCell _ _ _ _ (by simp only; omega), Below.heap_setCell _ _ _ _ (by simp only; omega)]
end Go.Proofs.Ytkbbbjcigjlopaa.H
