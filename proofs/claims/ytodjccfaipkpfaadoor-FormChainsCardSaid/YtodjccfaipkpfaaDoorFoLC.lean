/-
  The law FormChains.
-/
import Derived.Test.YtodjccfaipkpfaaDoorFoLA
namespace Go.Proofs.YtodjccfaipkpfaaDoor.Fo
set_option linter.unusedVariables false
open Go.RowKit V Go.Sort D Nd Qs Wk
attribute [local irreducible] Sch.heldN Sch.stepV Sch.stepE

theorem cut_loN (a : Option Addr) (len cap n : Nat) (hn : n ≤ cap) : ∀ wx : World,
    (Instr.slice 22 (.slice a len cap) none (some (.int .i64 (n : Int))) none).run Tryd.prog wx = .ok (.slice a n cap) wx := by
  obtain ⟨i, hi, hz0, hz1, hz2⟩ := G.info_of infoN
  intro wx
  have h1 : (Instr.sliceBound (.int .i64 (n : Int)) cap .sliceAcap).run Tryd.prog wx = .ok n wx := by
    rw [run_sliceBound _ _ _ _ _ (by omega) (by omega)]; rfl
  by_cases hc : cap = 0
  · rw [hc] at h1
    simp [Instr.slice, run_underlying Tryd.underlying22, Instr.sliceBounds, h1, Result.andThen, sizeOf, typeInfo, hi, hc]
  · have : a.map (fun x => x.add 0) = a := by
      rcases a with _ | ⟨b, o, s⟩
      · rfl
      · simp [Addr.add]
    simp [Instr.slice, run_underlying Tryd.underlying22, Instr.sliceBounds, h1, Result.andThen, sizeOf, typeInfo, hi, hc, this]
theorem ch_succ (f : Nat → Nt) (n : Nat) : chF f (n + 1) = chF f n ++ [f n] := by unfold chF; rw [List.range_succ, List.map_append]; rfl
theorem bad_len (w k n : Nat) : (badL w k n).length = n := ch_len
theorem bad_at {w k n i : Nat} (h : i < (badL w k n).length) : (badL w k n)[i] = badN w k i := ch_at i h
theorem bad_other {w k i : Nat} (h : i ≠ k) : badN w k i = badN 2 0 i := by
  unfold badN
  rw [if_neg (show ¬ (w = 1 ∧ i = k) from fun h' => h h'.2), if_neg (show ¬ (2 = 1 ∧ i = 0) from fun h' => absurd h'.1 (by decide)), if_neg (show ¬ (w = 0 ∧ i = k ∧ 0 < i) from fun h' => h h'.2.1), if_neg (show ¬ (2 = 0 ∧ i = 0 ∧ 0 < i) from fun h' => absurd h'.1 (by decide))]
theorem bad_good (i : Nat) : badN 2 0 i = ((1, (i : Int) + 1), (if i = 0 then (0, 0) else (1, (i : Int))), (i : Int) + 1, 97) := by
  unfold badN
  rw [if_neg (show ¬ (2 = 1 ∧ i = 0) from fun h' => absurd h'.1 (by decide)), if_neg (show ¬ (2 = 0 ∧ i = 0 ∧ 0 < i) from fun h' => absurd h'.1 (by decide))]
theorem bad_time {j : Nat} (h0 : 0 < j) : badN 0 j j = ((badN 2 0 j).1, (badN 2 0 j).2.1, (j : Int), (badN 2 0 j).2.2.2) := by
  rw [bad_good]
  unfold badN
  rw [if_neg (show ¬ (0 = 1 ∧ j = j) from fun h' => absurd h'.1 (by decide)), if_pos (show 0 = 0 ∧ j = j ∧ 0 < j from ⟨rfl, rfl, h0⟩)]
theorem bad_parent (j : Nat) : badN 1 j j = ((badN 2 0 j).1, (2, 1), (badN 2 0 j).2.2) := by
  rw [bad_good]
  unfold badN
  rw [if_pos (show 1 = 1 ∧ j = j from ⟨rfl, rfl⟩), if_neg (show ¬ (1 = 0 ∧ j = j ∧ 0 < j) from fun h' => absurd h'.1 (by decide))]
theorem bad_setT {n j : Nat} (hj : j < n) (h0 : 0 < j) : (badL 2 0 n).set j ((badN 2 0 j).1, (badN 2 0 j).2.1, (j : Int), (badN 2 0 j).2.2.2) = badL 0 j n := by
  apply List.ext_getElem
  · rw [List.length_set, bad_len, bad_len]
  · intro i h1 h2
    rw [List.getElem_set, bad_at, bad_at]
    by_cases e : j = i
    · subst e
      rw [if_pos rfl, bad_time h0]
    · rw [if_neg e, bad_other (w := 0) (fun h => e h.symm)]
theorem bad_setP {n j : Nat} (hj : j < n) : (badL 2 0 n).set j ((badN 2 0 j).1, (2, 1), (badN 2 0 j).2.2) = badL 1 j n := by
  apply List.ext_getElem
  · rw [List.length_set, bad_len, bad_len]
  · intro i h1 h2
    rw [List.getElem_set, bad_at, bad_at]
    by_cases e : j = i
    · subst e
      rw [if_pos rfl, bad_parent]
    · rw [if_neg e, bad_other (w := 1) (fun h => e h.symm)]
theorem badF0 {j : Nat} (h : 0 < j) : badF 0 j j = 4 := by
  unfold badF
  rw [if_pos rfl, if_neg (show ¬ (0 = 1) by decide), if_pos (show 0 = 0 ∧ 0 < j from ⟨rfl, h⟩)]
theorem badF1 (j : Nat) : badF 1 j j = 3 := by
  unfold badF
  rw [if_pos rfl, if_pos rfl]
theorem bad_fit (w k n : Nat) (h : n ≤ 400) : ∀ x ∈ badL w k n, fitN x := fun x hx => by
  obtain ⟨i, hi, rfl⟩ := ch_mem.1 hx
  have hb : ∀ z : Int, 0 ≤ z → z ≤ 400 → (Lit.int .i64 z).wf = true := fun z h1 h2 => by
    simp only [Lit.wf, IntKind.min, IntKind.max, IntKind.signed, IntKind.bits]
    simp
    omega
  refine ⟨⟨hb _ (by show (0 : Int) ≤ 1; omega) (by show (1 : Int) ≤ 400; omega), hb _ (by show (0 : Int) ≤ (i : Int) + 1; omega) (by show (i : Int) + 1 ≤ 400; omega)⟩, ?_⟩
  show fitD (if w = 1 ∧ i = k then (2, 1) else if i = 0 then (0, 0) else (1, (i : Int)))
  split
  · exact ⟨hb _ (by omega) (by omega), hb _ (by omega) (by omega)⟩
  · split
    · exact ⟨hb _ (by omega) (by omega), hb _ (by omega) (by omega)⟩
    · exact ⟨hb _ (by omega) (by omega), hb _ (by omega) (by omega)⟩
theorem on_putPar {w : World} {base g c m : Nat} {l : List Nt} (h : ON w base 37 (.slice (some ⟨g, 0, none⟩) m c) l) {k : Nat} (hk : k < l.length) (p : Dt) : ON ((w.setCell ⟨g, k * 6 + 2, none⟩ (.int .i64 p.1)).setCell ⟨g, k * 6 + 2 + 1, none⟩ (.int .i64 p.2)) base 37 (.slice (some ⟨g, 0, none⟩) m c) (l.set k (l[k].1, p, l[k].2.2)) := by
  rcases h.cur with ⟨e, -⟩ | ⟨g', cap, cur, e, hb, hg, hn, hc, hs, hr⟩
  · cases e
  · simp only [Value.slice.injEq, Option.some.injEq, Addr.mk.injEq, and_true] at e
    obtain ⟨rfl, rfl, rfl⟩ := e
    have := on_of (l := l.set k (l[k].1, p, l[k].2.2)) hb (heap_set (heap_set hg (k * 6 + 2) (.int .i64 p.1)) (k * 6 + 2 + 1) (.int .i64 p.2)) (by simpa using hn) hc (by simpa using hs) (fun i hi j hj => ?_)
    · rw [List.length_set] at this; exact this
    · rw [List.length_set] at hi
      simp only [Array.getElem?_setIfInBounds, Array.size_setIfInBounds]
      rw [List.getElem_set]
      by_cases e : k = i
      · subst e
        rw [if_pos rfl]
        by_cases e3 : j = 3
        · subst e3
          simp; omega
        · rw [if_neg (by omega)]
          by_cases e2 : j = 2
          · subst e2
            simp; omega
          · rw [if_neg (by omega), hr k hi j hj]
            match j, hj, e2, e3 with
            | 0, _, _, _ => rfl
            | 1, _, _, _ => rfl
            | 4, _, _, _ => rfl
            | 5, _, _, _ => rfl
      · rw [if_neg e, if_neg (by omega), if_neg (by omega)]
        exact hr i hi j hj
/-- What the law asks of such a chain. -/
theorem bad_faults {w k n : Nat} (hn : n ≤ 200) (hk : k < n) (g cL : Nat) (T : List Dt) (hT : (if badF w k k = 0 then [] else [((k : Int), badF w k k)]) = T) : ∀ (b : Option Addr) (m d : Nat) (W : World), RowN W (some ⟨g, 0, none⟩) (badL w k n) → RowD W b T → m = T.length →
    Calls Tryd.prog 8 #[.slice (some ⟨g, 0, none⟩) n cL, .slice b m d] W fun e w' => e = .returned (.bool true) ∧ Below W.heap.size W w' := fun b m d W h1 h2 hm => by
  subst hm
  have h := faults_true (badL w k n) T (some ⟨g, 0, none⟩) b cL d W (by rw [bad_fault (by omega) hk, hT]) (bad_fit w k n (by omega)) h1 h2 (by rw [bad_len]; omega)
  rw [bad_len] at h
  exact h
theorem bad_wholes {w k n : Nat} (hn : n ≤ 200) (hk : k < n) (g cL : Nat) (Y : List Nt) (hY : (if badF w k k = 0 then badL w k n else (badL w k n).take k) = Y) : ∀ (m : Nat) (W : World), RowN W (some ⟨g, 0, none⟩) (badL w k n) → m = Y.length →
    Calls Tryd.prog 12 #[.slice (some ⟨g, 0, none⟩) n cL, .slice (some ⟨g, 0, none⟩) m cL, .int .i64 0] W fun e w' => e = .returned (.bool true) ∧ Below W.heap.size W w' := fun m W h1 hm => by
  subst hm
  have hr : RowN W (some ⟨g, 0, none⟩) Y := by
    rw [← hY]
    split
    · exact h1
    · exact h1.take k
  have h := whole_true (badL w k n) Y 0 (some ⟨g, 0, none⟩) (some ⟨g, 0, none⟩) cL cL W (by unfold wholeP; rw [if_pos (bad_vs (by omega)), bad_whole (by omega) hk, hY]) (bad_fit w k n (by omega)) h1 hr (by rw [bad_len]; omega)
  rw [bad_len] at h
  exact h
/-- A box with a node that may be written. -/
def Zn (w : World) (g : Nat) (n : Nt) : Prop := Nb w g n ∧ ∀ o, w.frozen? ⟨g, o, none⟩ = false
theorem Zn.new (w : World) (n : Nt) : Zn (w.alloc (.cells (nc n) 37)) w.heap.size n := by
  refine ⟨Nb.new w n, fun o => ?_⟩
  go_simp
theorem Zn.par {w : World} {g : Nat} {n : Nt} (h : Zn w g n) (p : Dt) : Nb ((w.setCell ⟨g, 2, none⟩ (.int .i64 p.1)).setCell ⟨g, 3, none⟩ (.int .i64 p.2)) g (n.1, p, n.2.2) := by
  obtain ⟨⟨h0, h1, h2, h3, h4, h5⟩, hf⟩ := h
  refine ⟨?_, ?_, ?_, ?_, ?_, ?_⟩ <;> go_simp
theorem gb_par (w : World) (g o : Nat) (u v : Value) : w.grownBy ((w.setCell ⟨g, o, none⟩ u).setCell ⟨g, o + 1, none⟩ v) (some g) := gb_trans (gb_setCell _ _ _ _) (gb_setCell _ _ _ _)

set_option maxRecDepth 100000 in
set_option maxHeartbeats 8000000 in
theorem chains_law (n q t : Nat) (hn : n ≤ 255) (hq : q ≤ 255) (ht : t ≤ 255) (w : World) (hW : Ws w) : Calls Tryd.prog 6 #[.int .u8 (n : Int), .int .u8 (q : Int), .int .u8 (t : Int)] w fun e w' => e = .returned (.bool true) ∧ Below w.heap.size w w' := by
  have HKn := Lib.hid (fun w h => known_any w h)
  have HW := Lib.hid hW
  clear hW
  by_cases hsm : n < 1
  · have hg : (n : Int) < 1 := by omega
    have HB := Lib.hid (Below.refl w.heap.size w)
    clear hsm hn
    go_enter Tryd.func6, Tryd.ntmps6
    go_wp2_with fail
    refine (HKn.out _ HW.out).mono ?_
    rintro e w2 ⟨rfl, hb⟩
    replace HB := bel_tr HB hb
    clear hb HKn
    go_wp2_with fail
    go_ret
    exact ⟨rfl, HB.out⟩
  by_cases hbig : 200 < n
  · have hg0 : ¬ (n : Int) < 1 := by omega
    have hg : (200 : Int) < (n : Int) := by omega
    have HB := Lib.hid (Below.refl w.heap.size w)
    clear hsm hn hbig
    go_enter Tryd.func6, Tryd.ntmps6
    go_wp2_with fail
    refine (HKn.out _ HW.out).mono ?_
    rintro e w2 ⟨rfl, hb⟩
    replace HB := bel_tr HB hb
    clear hb HKn
    go_wp2_with fail
    go_ret
    exact ⟨rfl, HB.out⟩
  have hg0 : ¬ (n : Int) < 1 := by omega
  have hg1 : ¬ (200 : Int) < (n : Int) := by omega
  have hni : (n : Int) ≤ 200 := by omega
  have HLe : Hid (1 ≤ n ∧ n ≤ 200) := ⟨by omega, by omega⟩
  clear hsm hn hbig
  go_enter Tryd.func6, Tryd.ntmps6
  go_wp2_with fail
  go_loopw [7, 8, 9] (fun v i _ wr => ∃ k : Nat, k ≤ n ∧ i = .int .i64 ((k : Int) + 1) ∧ Hid (Below w.heap.size w wr) ∧ Hid (ON wr w.heap.size 37 v (badL 2 0 k))) (fun _ i _ _ => n + 1 - (intOf i).toNat)
  case atStart => exact ⟨0, Nat.zero_le _, rfl, Below.refl _ _, ON.nil _ _ _⟩
  case round =>
    obtain ⟨k, hk, rfl, HB, HO⟩ := hrel
    by_cases hlt : k < n
    · have hi0 : (k : Int) + 1 ≤ (n : Int) := by omega
      have hk4 : (k : Int) ≤ 400 := by omega
      have HSt := Lib.hid (ch_succ (badN 2 0) k)
      have HKl : Hid ((badL 2 0 k).length ≤ 400) := by show _ ≤ _; unfold badL; rw [ch_len]; have := HLe.out; omega
      go_wp2_with fail
      refine (at_any 1 ((k : Int) + 1) _).mono ?_
      rintro e w3 ⟨rfl, hb⟩
      replace HB := bel_tr HB hb
      replace HO := Lib.hid (HO.out.below hb)
      clear hb
      go_wp2_with fail
      refine (at_any 1 (k : Int) _).mono ?_
      rintro e w4 ⟨rfl, hb⟩
      replace HB := bel_tr HB hb
      replace HO := Lib.hid (HO.out.below hb)
      clear hb
      go_wp2_with fail
      refine (of_any (1, (k : Int) + 1) (1, (k : Int)) ((k : Int) + 1) 97 _).mono ?_
      rintro e w5 ⟨rfl, hb⟩
      replace HB := bel_tr HB hb
      replace HO := Lib.hid (HO.out.below hb)
      clear hb
      have hb := bel_box w5 (.cells (nc ((1, (k : Int) + 1), (1, (k : Int)), (k : Int) + 1, 97)) 37)
      have HZ := Lib.hid (Zn.new w5 ((1, (k : Int) + 1), (1, (k : Int)), (k : Int) + 1, 97))
      have HGw : Hid (w.heap.size ≤ w5.heap.size) := HB.out.size
      have HOl : Hid (∀ x, u7.ownBlock = some x → x < w5.heap.size) := fun x hx => (HO.out.lt x hx).2
      replace HB := bel_tr HB hb
      replace HO := Lib.hid (HO.out.below hb)
      clear hb
      go_upto_region 8 with fail
      generalize hw6 : w5.alloc (.cells (nc ((1, (k : Int) + 1), (1, (k : Int)), (k : Int) + 1, 97)) 37) = w6 at *
      generalize hge : w5.heap.size = g at *
      clear hge hw6
      by_cases hk0 : k = 0
      · have hk1 : ((k : Int) + 1 == 1) = true := by rw [beq_iff_eq]; omega
        have hne : Hid (badN 2 0 k = ((1, (k : Int) + 1), (0, 0), (k : Int) + 1, 97)) := by subst hk0; rfl
        have HZ2 := Lib.hid (HZ.out.par (0, 0))
        have hgp := gb_par w6 g 2 (.int .i64 0) (.int .i64 0)
        have HBz : Hid (Below w.heap.size w ((w6.setCell ⟨g, 2, none⟩ (.int .i64 0)).setCell ⟨g, 2 + 1, none⟩ (.int .i64 0))) := below_gb HB.out hgp HB.out.size HGw.out
        have HOz := Lib.hid (HO.out.keep hgp (by
          rcases hv : u7.ownBlock with _ | x
          · exact .inl rfl
          · exact .inr (by intro e; cases e; exact absurd (HOl.out g hv) (Nat.lt_irrefl _))))
        obtain ⟨⟨n0, n1, n2, n3, n4, n5⟩, hf⟩ := HZ.out
        have f2 := hf 2
        have f3 := hf 3
        clear hf hgp hk0 HZ
        go_upto_region 10 with fail
        generalize hw7 : (w6.setCell ⟨g, 2, none⟩ (.int .i64 0)).setCell ⟨g, 2 + 1, none⟩ (.int .i64 0) = w7 at *
        clear hw7 n0 n1 n2 n3 n4 n5 f2 f3
        have hb2 := bel_box w7 (.cells (nc ((1, (k : Int) + 1), (0, 0), (k : Int) + 1, 97)) 37)
        have HO2 := Lib.hid (HOz.out.below hb2)
        have HB2 := bel_tr HBz hb2
        have HLt : Hid (RowN (w7.alloc (.cells (nc ((1, (k : Int) + 1), (0, 0), (k : Int) + 1, 97)) 37)) (some ⟨w7.heap.size, 0, none⟩) [((1, (k : Int) + 1), (0, 0), (k : Int) + 1, 97)]) := RowN.lit w7 [((1, (k : Int) + 1), (0, 0), (k : Int) + 1, 97)] (nc ((1, (k : Int) + 1), (0, 0), (k : Int) + 1, 97)) _ _ rfl
        obtain ⟨n0, n1, n2, n3, n4, n5⟩ := HZ2.out
        clear hb2 HZ2
        go_wp2_with (at_builtin; refine wpList_appN rfl _ _ _ rfl Tryd.underlying22 infoN _ _ rfl HO2.out (some ⟨w7.heap.size, 0, none⟩) [((1, (k : Int) + 1), (0, 0), (k : Int) + 1, 97)] 1 1 rfl rfl HLt.out (fun h => by cases h) (by have := HKl.out; simp only [List.length_cons, List.length_nil]; omega) HB2.out.size ?_; intro v8 w8 ho hg _)
        have HO8 : Hid (ON w8 w.heap.size 37 v8 (badL 2 0 (k + 1))) := by show ON _ _ _ _ _; unfold badL; rw [HSt.out, hne.out]; exact ho
        have HB8 := Lib.hid (HB2.out.grown hg HB2.out.size (fun x hx => (HO2.out.lt x hx).1))
        clear ho hg n0 n1 n2 n3 n4 n5
        go_wp2_with fail
        go_roundw
        case rel => exact ⟨k + 1, by omega, by go_num, HB8, HO8⟩
        case measure => simp [intOf]; omega
      · have hk1 : ((k : Int) + 1 == 1) = false := by rw [beq_eq_false_iff_ne]; omega
        have hne : Hid (badN 2 0 k = ((1, (k : Int) + 1), (1, (k : Int)), (k : Int) + 1, 97)) := by
          show _ = _
          unfold badN
          rw [if_neg (by omega), if_neg hk0, if_neg (by omega)]
        have hb2 := bel_box w6 (.cells (nc ((1, (k : Int) + 1), (1, (k : Int)), (k : Int) + 1, 97)) 37)
        have HO2 := Lib.hid (HO.out.below hb2)
        have HB2 := bel_tr HB hb2
        have HLt : Hid (RowN (w6.alloc (.cells (nc ((1, (k : Int) + 1), (1, (k : Int)), (k : Int) + 1, 97)) 37)) (some ⟨w6.heap.size, 0, none⟩) [((1, (k : Int) + 1), (1, (k : Int)), (k : Int) + 1, 97)]) := RowN.lit w6 [((1, (k : Int) + 1), (1, (k : Int)), (k : Int) + 1, 97)] (nc ((1, (k : Int) + 1), (1, (k : Int)), (k : Int) + 1, 97)) _ _ rfl
        obtain ⟨⟨n0, n1, n2, n3, n4, n5⟩, -⟩ := HZ.out
        clear hb2 hk0 HZ
        go_wp2_with (at_builtin; refine wpList_appN rfl _ _ _ rfl Tryd.underlying22 infoN _ _ rfl HO2.out (some ⟨w6.heap.size, 0, none⟩) [((1, (k : Int) + 1), (1, (k : Int)), (k : Int) + 1, 97)] 1 1 rfl rfl HLt.out (fun h => by cases h) (by have := HKl.out; simp only [List.length_cons, List.length_nil]; omega) HB2.out.size ?_; intro v8 w8 ho hg _)
        have HO8 : Hid (ON w8 w.heap.size 37 v8 (badL 2 0 (k + 1))) := by show ON _ _ _ _ _; unfold badL; rw [HSt.out, hne.out]; exact ho
        have HB8 := Lib.hid (HB2.out.grown hg HB2.out.size (fun x hx => (HO2.out.lt x hx).1))
        clear ho hg n0 n1 n2 n3 n4 n5
        go_wp2_with fail
        go_roundw
        case rel => exact ⟨k + 1, by omega, by go_num, HB8, HO8⟩
        case measure => simp [intOf]; omega
    · obtain rfl : k = n := by omega
      have hend : ¬ (k : Int) + 1 ≤ (k : Int) := by omega
      obtain ⟨aL, cL, hv7, -, hnL, hcL, hxL⟩ := ON.row HO.out
      have hlen : (badL 2 0 k).length = k := by unfold badL; exact ch_len
      rw [hlen] at hv7 hcL
      obtain ⟨g, rfl⟩ : ∃ g, aL = some ⟨g, 0, none⟩ := by
        rcases aL with _ | x
        · have h0 := (hnL rfl).2
          rw [h0] at hlen
          have := HLe.out.1
          simp at hlen
          omega
        · obtain ⟨e, -⟩ := hxL x rfl
          exact ⟨x.block, by rw [← e]⟩
      have HGb : Hid (w.heap.size ≤ g) := (hxL _ rfl).2.2.1
      have HCl : Hid (k ≤ cL) := hcL
      subst hv7
      clear hnL hxL hcL hlen hlt hk
      have hkp : (0 : Int) < (k : Int) := by have := HLe.out.1; omega
      have hk0 : ((k : Int) == 0) = false := by rw [beq_eq_false_iff_ne]; omega
      go_upto_region 12 with fail
      obtain ⟨j, hj⟩ : ∃ j, j = q % k := ⟨_, rfl⟩
      have hjk : j < k := by rw [hj]; exact Nat.mod_lt _ HLe.out.1
      have hm : (q : Int) % (k : Int) = (j : Int) := by rw [hj]; exact (Int.natCast_emod q k).symm
      rw [hm]
      clear hm hj
      have hji : (j : Int) < (k : Int) := by omega
      have HLk : Hid (k ≤ 200) := HLe.out.2
      by_cases hA : t = 0 ∧ 0 < j
      · obtain ⟨rfl, hj0⟩ := hA
        obtain ⟨i, rfl⟩ : ∃ i, j = i + 1 := ⟨j - 1, by omega⟩
        have hii : i < k := by omega
        have HFt := Lib.hid (bad_faults (w := 0) HLk.out hjk g cL [(((i + 1 : Nat) : Int), 4)] (by rw [badF0 hj0]; rfl))
        have HWt := Lib.hid (bad_wholes (w := 0) HLk.out hjk g cL ((badL 0 (i + 1) k).take (i + 1)) (by rw [badF0 hj0]; rfl) (i + 1))
        have hbl : i + 1 = ((badL 0 (i + 1) k).take (i + 1)).length := by rw [List.length_take, bad_len]; omega
        have HBl := Lib.hid hbl
        clear hbl
        have hcut := cut_loN (some ⟨g, 0, none⟩) k cL (i + 1) (by have := HCl.out; omega)
        have hix := ixN g 0 k cL i (i : Int) rfl hii
        have hix1 := ixN g 0 k cL (i + 1) ((i : Int) + 1) rfl hjk
        have hfr := HO.out.free ((i + 1) * 6 + 4)
        have h4a := (HO.out.na i (by rw [bad_len]; exact hii)).2.2.2.2.1
        have h4b := (HO.out.na (i + 1) (by rw [bad_len]; exact hjk)).2.2.2.2.1
        rw [bad_at, bad_good] at h4a h4b
        simp only at h4a h4b
        have HO2 : Hid (ON (wr.setCell ⟨g, (i + 1) * 6 + 4, none⟩ (.int .i64 ((i : Int) + 1))) w.heap.size 37 (.slice (some ⟨g, 0, none⟩) k cL) (badL 0 (i + 1) k)) := by
          have h := HO.out.putTime (k := i + 1) (by rw [bad_len]; exact hjk) ((i : Int) + 1)
          rw [bad_at] at h
          have e := bad_setT hjk hj0
          rw [show (((i + 1 : Nat) : Int)) = (i : Int) + 1 from rfl] at e
          rw [e] at h
          exact h
        have HB2 : Hid (Below w.heap.size w (wr.setCell ⟨g, (i + 1) * 6 + 4, none⟩ (.int .i64 ((i : Int) + 1)))) := HB.out.setCell (p := ⟨g, _, none⟩) HGb.out _
        rw [show (((i + 1 : Nat) : Int)) = (i : Int) + 1 from rfl] at *
        have hi1 : (0 : Int) < (i : Int) + 1 := by omega
        go_upto_region 14 with fail
        clear h4a h4b hfr HB HO
        generalize hws : wr.setCell ⟨g, (i + 1) * 6 + 4, none⟩ (.int .i64 ((i : Int) + 1)) = w2 at *
        clear hws
        have HR := Lib.hid HO2.out.r.1
        have hbx := bel_box w2 (.cells #[.int .i64 ((i : Int) + 1), .int .i64 4] 44)
        have HT : Hid (RowD (w2.alloc (.cells #[.int .i64 ((i : Int) + 1), .int .i64 4] 44)) (some ⟨w2.heap.size, 0, none⟩) [((i : Int) + 1, 4)]) := RowD.lit w2 [((i : Int) + 1, 4)] _ 44 (0, 0) rfl
        replace HB2 := bel_tr HB2 hbx
        replace HR := Lib.hid (HR.out.keep hbx)
        clear hbx HO2
        go_wp2_with fail
        refine (HFt.out _ 1 1 _ HR.out HT.out rfl).mono ?_
        rintro e w7 ⟨rfl, hb⟩
        replace HB2 := bel_tr HB2 hb
        replace HR := Lib.hid (HR.out.keep hb)
        clear hb HFt HT
        go_wp2_with fail
        refine (HWt.out _ HR.out HBl.out).mono ?_
        rintro e w8 ⟨rfl, hb⟩
        replace HB2 := bel_tr HB2 hb
        clear hb HWt HR
        go_wp2_with fail
        refine (HKn.out _ (HW.out.keep HB2.out)).mono ?_
        rintro e w9 ⟨rfl, hb⟩
        replace HB2 := bel_tr HB2 hb
        clear hb HKn
        go_wp2_with fail
        go_ret
        exact ⟨rfl, HB2.out⟩
      · by_cases hB1 : t = 1
        · have HFt := Lib.hid (bad_faults (w := 1) HLk.out hjk g cL [((j : Int), 3)] (by rw [badF1]; rfl))
          have HWt := Lib.hid (bad_wholes (w := 1) HLk.out hjk g cL ((badL 1 j k).take j) (by rw [badF1]; rfl) j)
          have hbl : j = ((badL 1 j k).take j).length := by rw [List.length_take, bad_len]; omega
          have HBl := Lib.hid hbl
          clear hbl
          have hcut := cut_loN (some ⟨g, 0, none⟩) k cL j (by have := HCl.out; omega)
          have hix := ixN g 0 k cL j (j : Int) rfl hjk
          subst hB1
          go_wp2_with fail
          refine (at_any 2 1 _).mono ?_
          rintro e w5 ⟨rfl, hb⟩
          replace HB := bel_tr HB hb
          replace HO := Lib.hid (HO.out.below hb)
          clear hb
          have hf2 := HO.out.free (j * 6 + 2)
          have hf3 := HO.out.free (j * 6 + 3)
          obtain ⟨m0, m1, m2, m3, m4, m5⟩ := HO.out.na j (by rw [bad_len]; exact hjk)
          have HO2 : Hid (ON ((w5.setCell ⟨g, j * 6 + 2, none⟩ (.int .i64 2)).setCell ⟨g, j * 6 + 2 + 1, none⟩ (.int .i64 1)) w.heap.size 37 (.slice (some ⟨g, 0, none⟩) k cL) (badL 1 j k)) := by
            have h := on_putPar HO.out (k := j) (by rw [bad_len]; exact hjk) (2, 1)
            rw [bad_at, bad_setP hjk] at h
            exact h
          have hgp := gb_par w5 g (j * 6 + 2) (.int .i64 2) (.int .i64 1)
          have HB2 : Hid (Below w.heap.size w ((w5.setCell ⟨g, j * 6 + 2, none⟩ (.int .i64 2)).setCell ⟨g, j * 6 + 2 + 1, none⟩ (.int .i64 1))) := below_gb HB.out hgp HB.out.size HGb.out
          clear hgp
          go_upto_region 17 with fail
          clear m0 m1 m2 m3 m4 m5 hf2 hf3 HB HO
          generalize hws : (w5.setCell ⟨g, j * 6 + 2, none⟩ (.int .i64 2)).setCell ⟨g, j * 6 + 2 + 1, none⟩ (.int .i64 1) = w2 at *
          clear hws
          have HR := Lib.hid HO2.out.r.1
          have hbx := bel_box w2 (.cells #[.int .i64 ((j : Int)), .int .i64 3] 44)
          have HT : Hid (RowD (w2.alloc (.cells #[.int .i64 ((j : Int)), .int .i64 3] 44)) (some ⟨w2.heap.size, 0, none⟩) [((j : Int), 3)]) := RowD.lit w2 [((j : Int), 3)] _ 44 (0, 0) rfl
          replace HB2 := bel_tr HB2 hbx
          replace HR := Lib.hid (HR.out.keep hbx)
          clear hbx HO2
          go_wp2_with fail
          refine (HFt.out _ 1 1 _ HR.out HT.out rfl).mono ?_
          rintro e w7 ⟨rfl, hb⟩
          replace HB2 := bel_tr HB2 hb
          replace HR := Lib.hid (HR.out.keep hb)
          clear hb HFt HT
          go_wp2_with fail
          refine (HWt.out _ HR.out HBl.out).mono ?_
          rintro e w8 ⟨rfl, hb⟩
          replace HB2 := bel_tr HB2 hb
          clear hb HWt HR
          go_wp2_with fail
          refine (HKn.out _ (HW.out.keep HB2.out)).mono ?_
          rintro e w9 ⟨rfl, hb⟩
          replace HB2 := bel_tr HB2 hb
          clear hb HKn
          go_wp2_with fail
          go_ret
          exact ⟨rfl, HB2.out⟩
        · have HR := Lib.hid HO.out.r.1
          have HFt := Lib.hid (bad_faults (w := 2) (k := 0) HLk.out (by have := HLe.out; omega) g cL [] rfl)
          have HWt := Lib.hid (bad_wholes (w := 2) (k := 0) HLk.out (by have := HLe.out; omega) g cL (badL 2 0 k) rfl k)
          have HBl := Lib.hid (bad_len 2 0 k).symm
          have HB2 := HB
          clear HO HB
          have ht1 : ((t : Int) == 1) = false := by rw [beq_eq_false_iff_ne]; omega
          by_cases ht0 : t = 0
          · have hj0 : j = 0 := by omega
            subst ht0
            subst hj0
            go_wp2_with fail
            refine (HFt.out _ 0 0 _ HR.out (RowD.nil _ none) rfl).mono ?_
            rintro e w7 ⟨rfl, hb⟩
            replace HB2 := bel_tr HB2 hb
            replace HR := Lib.hid (HR.out.keep hb)
            clear hb HFt
            go_wp2_with fail
            refine (HWt.out _ HR.out HBl.out).mono ?_
            rintro e w8 ⟨rfl, hb⟩
            replace HB2 := bel_tr HB2 hb
            clear hb HWt HR
            go_wp2_with fail
            refine (HKn.out _ (HW.out.keep HB2.out)).mono ?_
            rintro e w9 ⟨rfl, hb⟩
            replace HB2 := bel_tr HB2 hb
            clear hb HKn
            go_wp2_with fail
            go_ret
            exact ⟨rfl, HB2.out⟩
          · have ht2 : ((t : Int) == 0) = false := by rw [beq_eq_false_iff_ne]; omega
            go_wp2_with fail
            refine (HFt.out _ 0 0 _ HR.out (RowD.nil _ none) rfl).mono ?_
            rintro e w7 ⟨rfl, hb⟩
            replace HB2 := bel_tr HB2 hb
            replace HR := Lib.hid (HR.out.keep hb)
            clear hb HFt
            go_wp2_with fail
            refine (HWt.out _ HR.out HBl.out).mono ?_
            rintro e w8 ⟨rfl, hb⟩
            replace HB2 := bel_tr HB2 hb
            clear hb HWt HR
            go_wp2_with fail
            refine (HKn.out _ (HW.out.keep HB2.out)).mono ?_
            rintro e w9 ⟨rfl, hb⟩
            replace HB2 := bel_tr HB2 hb
            clear hb HKn
            go_wp2_with fail
            go_ret
            exact ⟨rfl, HB2.out⟩
end Go.Proofs.YtodjccfaipkpfaaDoor.Fo
