/-
  The law WalkLongs.
-/
import Derived.Test.YtpandphlcgjdkaaMWKnG
import Derived.Test.YtpandphlcgjdkaaMNPure

section
namespace Go.Proofs.Ytpandphlcgjdkaa.Un
set_option linter.unusedVariables false
open Go.RowKit V Go.Shelf D Nd Qs Wk
attribute [local irreducible] Sch.heldN Sch.stepV Sch.stepE

/-- A box with a node that may be written. -/
def Zn (w : World) (g : Nat) (n : Nt) : Prop := Nb w g n ∧ ∀ o, w.frozen? ⟨g, o, none⟩ = false
theorem Zn.keep {w w' : World} {g : Nat} {n : Nt} (h : Zn w g n) (hb : Below w.heap.size w w') : Zn w' g n := ⟨h.1.keep hb, fun o => (hb.frozen (p := ⟨g, o, none⟩) h.1.lt).trans (h.2 o)⟩
theorem Zn.new (w : World) (n : Nt) : Zn (w.alloc (.cells (nc n) 35)) w.heap.size n := by
  refine ⟨Nb.new w n, fun o => ?_⟩
  go_simp
theorem Zn.par {w : World} {g : Nat} {n : Nt} (h : Zn w g n) (p : Dt) : Zn ((w.setCell ⟨g, 2, none⟩ (.int .i64 p.1)).setCell ⟨g, 3, none⟩ (.int .i64 p.2)) g (n.1, p, n.2.2) := by
  obtain ⟨⟨h0, h1, h2, h3, h4, h5⟩, hf⟩ := h
  refine ⟨?_, fun o => ?_⟩
  · refine ⟨?_, ?_, ?_, ?_, ?_, ?_⟩ <;> go_simp
  · simp only [World.frozen?_setCell]
    exact hf o
theorem gb_par (w : World) (g : Nat) (u v : Value) : w.grownBy ((w.setCell ⟨g, 2, none⟩ u).setCell ⟨g, 3, none⟩ v) (some g) := gb_trans (gb_setCell _ _ _ _) (gb_setCell _ _ _ _)
theorem own_keep {w w' : World} {base g : Nat} {v : Value} {l : List Nt} (h : ON w base EN v l) (hg : w.grownBy w' (some g)) (hlt : ∀ x, v.ownBlock = some x → x < g) : ON w' base EN v l := World.ownsRow.kept h hg (by
  rcases hv : v.ownBlock with _ | x
  · exact .inl rfl
  · exact .inr (by intro e; cases e; exact absurd (hlt g hv) (Nat.lt_irrefl _)))

/-- What is wanted, as far as it is laid. -/
def wantW (k m : Nat) : List Nt := nthN false 0 :: (wideL k).take m
theorem wide_len (k : Nat) : (wideL k).length = k - 1 := by unfold wideL; rw [List.length_reverse, List.length_drop, long_len]
theorem want_len (k m : Nat) (h : m ≤ k - 1) : (wantW k m).length = m + 1 := by
  unfold wantW
  rw [List.length_cons, List.length_take, wide_len]
  omega
theorem want_step (k m : Nat) (h : m < k - 1) : wantW k (m + 1) = wantW k m ++ [(longN false k)[k - 1 - m]'(by rw [long_len]; omega)] := by
  unfold wantW
  rw [List.take_succ_eq_append_getElem (by rw [wide_len]; exact h), List.cons_append]
  congr 2
  congr 1
  simp only [wideL, List.getElem_reverse, List.getElem_drop, List.length_drop, long_len]
  congr 1
  omega
theorem want_all (k : Nat) (h : k ≤ 400) (h1 : 1 < k) : wantW k (k - 1) = orderS (longN false k) := by
  rw [wide_order k h (by omega)]
  unfold wantW
  rw [List.take_of_length_le (by rw [wide_len]; omega)]
theorem small_order : ∀ k, ¬ 1 < k → orderS (longN false k) = longN false k := by
  intro k hk
  have hc : k = 0 ∨ k = 1 := by omega
  rcases hc with rfl | rfl <;> decide +kernel
set_option maxRecDepth 100000 in
set_option maxHeartbeats 8000000 in
theorem longs_law (n : Nat) (hn : n ≤ 65535) (ch : Bool) (w : World) : Calls Try.prog 5 #[.int .u16 (n : Int), .bool ch] w fun e w' => e = .returned (.bool true) ∧ Below w.heap.size w w' := by
  have HKn := Lib.hid (fun w => known_any w)
  by_cases hbig : 400 < n
  · have hg : (400 : Int) < (n : Int) := by omega
    go_enter Try.func5, Try.ntmps5
    go_wp2_with fail
    refine (HKn.out _).mono ?_
    rintro e w2 ⟨rfl, hb⟩
    have HB := Lib.hid hb
    clear hb HKn
    go_wp2_with fail
    go_ret
    exact ⟨rfl, HB.out⟩
  · have hle : n ≤ 400 := by omega
    have hng : ¬ (400 : Int) < (n : Int) := by omega
    have hni : (n : Int) ≤ 400 := by omega
    have HLe := Lib.hid hle
    clear hbig hn
    go_enter Try.func5, Try.ntmps5
    go_wp2_with fail
    go_loopw [5, 6, 7] (fun v i _ wr => ∃ k : Nat, k ≤ n ∧ i = .int .i64 ((k : Int) + 1) ∧ Hid (Below w.heap.size w wr) ∧ Hid (ON wr w.heap.size EN v (longN ch k))) (fun _ i _ _ => n + 1 - (intOf i).toNat)
    case atStart => exact ⟨0, Nat.zero_le _, rfl, Below.refl _ _, ON.nil _ _ _⟩
    case round =>
      obtain ⟨k, hk, rfl, HB, HO⟩ := hrel
      by_cases hlt : k < n
      · have hi0 : (k : Int) + 1 ≤ (n : Int) := by omega
        have hk4 : (k : Int) ≤ 400 := by omega
        have HSt := Lib.hid (long_succ ch k)
        have HKl : Hid ((longN ch k).length ≤ 400) := by show _ ≤ _; rw [long_len]; have := HLe.out; omega
        go_wp2_with fail
        refine (at_any 1 ((k : Int) + 1) _).mono ?_
        rintro e w3 ⟨rfl, hb⟩
        have hbx := bel_box w3 (.cells (nc ((1, (k : Int) + 1), (0, 0), (k : Int) + 1, 97)) 35)
        have HB3 := Lib.hid (bel_tr (bel_tr HB.out hb) hbx)
        have HO3 := Lib.hid ((HO.out.below hb).below hbx)
        have HZ := Lib.hid (Zn.new w3 ((1, (k : Int) + 1), (0, 0), (k : Int) + 1, 97))
        have HOl : Hid (∀ x, u5.ownBlock = some x → x < w3.heap.size) := fun x hx => ((HO.out.below hb).lt x hx).2
        have HGw : Hid (w.heap.size ≤ w3.heap.size) := (bel_tr HB.out hb).size
        clear hb hbx HB HO
        by_cases hk0 : k = 0
        · have hlt1 : ¬ (1 : Int) < (k : Int) + 1 := by omega
          have HSt2 : Hid (longN ch (k + 1) = longN ch k ++ [((1, (k : Int) + 1), (0, 0), (k : Int) + 1, 97)]) := by show _ = _; rw [HSt.out]; unfold nthN; rw [if_pos hk0]
          clear HSt hk0
          have hb2 := bel_box (w3.alloc (.cells (nc ((1, (k : Int) + 1), (0, 0), (k : Int) + 1, 97)) 35)) (.cells (nc ((1, (k : Int) + 1), (0, 0), (k : Int) + 1, 97)) 35)
          have HO2 := Lib.hid (HO3.out.below hb2)
          have HB2 := bel_tr HB3.out hb2
          have hsz : (w3.alloc (.cells (nc ((1, (k : Int) + 1), (0, 0), (k : Int) + 1, 97)) 35)).heap.size = w3.heap.size + 1 := by simp
          have HLt : Hid (RowN ((w3.alloc (.cells (nc ((1, (k : Int) + 1), (0, 0), (k : Int) + 1, 97)) 35)).alloc (.cells (nc ((1, (k : Int) + 1), (0, 0), (k : Int) + 1, 97)) 35)) (some ⟨w3.heap.size + 1, 0, none⟩) [((1, (k : Int) + 1), (0, 0), (k : Int) + 1, 97)]) := by rw [← hsz]; exact RowN.lit _ [((1, (k : Int) + 1), (0, 0), (k : Int) + 1, 97)] (nc ((1, (k : Int) + 1), (0, 0), (k : Int) + 1, 97)) _ _ rfl
          clear hb2 hsz HZ
          go_wp2_with (at_builtin; refine wpList_appN rfl _ _ _ rfl Try.underlying22 infoN _ _ rfl HO2.out (some ⟨w3.heap.size + 1, 0, none⟩) [((1, (k : Int) + 1), (0, 0), (k : Int) + 1, 97)] 1 1 rfl rfl HLt.out (fun h => by cases h) (by have := HKl.out; simp only [List.length_cons, List.length_nil]; omega) HB2.size ?_)
          intro v7 w7 ho hg _
          have HO7 : Hid (ON w7 w.heap.size EN v7 (longN ch (k + 1))) := by rw [HSt2.out]; exact ho
          have HB7 := Lib.hid (HB2.grown hg HB2.size (fun x hx => (HO2.out.lt x hx).1))
          clear ho hg
          go_wp2_with fail
          go_roundw
          case rel => exact ⟨k + 1, by omega, by go_num, HB7, HO7⟩
          case measure => simp [intOf]; omega
        · have hlt1 : (1 : Int) < (k : Int) + 1 := by omega
          go_wp2_with fail
          generalize w3.alloc (.cells (nc ((1, (k : Int) + 1), (0, 0), (k : Int) + 1, 97)) 35) = w4 at *
          generalize hge : w3.heap.size = g at *
          clear hge
          refine (at_any 1 1 _).mono ?_
          rintro e w5 ⟨rfl, hb⟩
          replace HB3 := Lib.hid (bel_tr HB3.out hb)
          replace HO3 := Lib.hid (HO3.out.below hb)
          replace HZ := Lib.hid (HZ.out.keep hb)
          clear hb
          have hgp := gb_par w5 g (.int .i64 1) (.int .i64 1)
          have HBz := Lib.hid (bel_low HB3.out hgp (fun x e => by cases e; exact HGw.out))
          have HOz := Lib.hid (own_keep HO3.out hgp HOl.out)
          have HZ2 := Lib.hid (HZ.out.par (1, 1))
          obtain ⟨⟨n0, n1, n2, n3, n4, n5⟩, hf⟩ := HZ.out
          have f2 := hf 2
          have f3 := hf 3
          obtain ⟨⟨m0, m1, m2, m3, m4, m5⟩, -⟩ := HZ2.out
          rcases ch with _ | _
          · have HSt2 : Hid (longN false (k + 1) = longN false k ++ [((1, (k : Int) + 1), (1, 1), (k : Int) + 1, 97)]) := by show _ = _; rw [HSt.out]; unfold nthN; rw [if_neg hk0, if_neg (by decide)]
            clear hf HZ HZ2 HB3 HO3 HSt hgp hk0
            have hb2 := bel_box ((w5.setCell ⟨g, 2, none⟩ (.int .i64 1)).setCell ⟨g, 3, none⟩ (.int .i64 1)) (.cells (nc ((1, (k : Int) + 1), (1, 1), (k : Int) + 1, 97)) 35)
            have HO2 := Lib.hid (HOz.out.below hb2)
            have HB2 := bel_tr HBz.out hb2
            have hsz : (((w5.setCell ⟨g, 2, none⟩ (.int .i64 1)).setCell ⟨g, 3, none⟩ (.int .i64 1))).heap.size = w5.heap.size := by simp
            have HLt : Hid (RowN ((((w5.setCell ⟨g, 2, none⟩ (.int .i64 1)).setCell ⟨g, 3, none⟩ (.int .i64 1))).alloc (.cells (nc ((1, (k : Int) + 1), (1, 1), (k : Int) + 1, 97)) 35)) (some ⟨w5.heap.size, 0, none⟩) [((1, (k : Int) + 1), (1, 1), (k : Int) + 1, 97)]) := by rw [← hsz]; exact RowN.lit _ [((1, (k : Int) + 1), (1, 1), (k : Int) + 1, 97)] (nc ((1, (k : Int) + 1), (1, 1), (k : Int) + 1, 97)) _ _ rfl
            clear hb2 hsz
            go_wp2_with (at_builtin; refine wpList_appN rfl _ _ _ rfl Try.underlying22 infoN _ _ rfl HO2.out (some ⟨w5.heap.size, 0, none⟩) [((1, (k : Int) + 1), (1, 1), (k : Int) + 1, 97)] 1 1 rfl rfl HLt.out (fun h => by cases h) (by have := HKl.out; simp only [List.length_cons, List.length_nil]; omega) HB2.size ?_)
            intro v7 w7 ho hg _
            have HO7 : Hid (ON w7 w.heap.size EN v7 (longN false (k + 1))) := by rw [HSt2.out]; exact ho
            have HB7 := Lib.hid (HB2.grown hg HB2.size (fun x hx => (HO2.out.lt x hx).1))
            clear ho hg n0 n1 n2 n3 n4 n5 m0 m1 m2 m3 m4 m5
            go_wp2_with fail
            go_roundw
            case rel => exact ⟨k + 1, by omega, by go_num, HB7, HO7⟩
            case measure => simp [intOf]; omega
          · have HSt2 : Hid (longN true (k + 1) = longN true k ++ [((1, (k : Int) + 1), (1, (k : Int)), (k : Int) + 1, 97)]) := by show _ = _; rw [HSt.out]; unfold nthN; rw [if_neg hk0, if_pos rfl]
            clear hf HB3 HO3 HSt hgp hk0
            go_wp2_with fail
            generalize (w5.setCell ⟨g, 2, none⟩ (.int .i64 1)).setCell ⟨g, 3, none⟩ (.int .i64 1) = w6 at *
            clear n0 n1 n2 n3 n4 n5 m0 m1 m2 m3 m4 m5 f2 f3
            refine (at_any 1 (k : Int) _).mono ?_
            rintro e w7 ⟨rfl, hb⟩
            replace HBz := Lib.hid (bel_tr HBz.out hb)
            replace HOz := Lib.hid (HOz.out.below hb)
            replace HZ2 := Lib.hid (HZ2.out.keep hb)
            clear hb
            have hgp := gb_par w7 g (.int .i64 1) (.int .i64 (k : Int))
            replace HBz := Lib.hid (bel_low HBz.out hgp (fun x e => by cases e; exact HGw.out))
            replace HOz := Lib.hid (own_keep HOz.out hgp HOl.out)
            have HZ3 := Lib.hid (HZ2.out.par (1, (k : Int)))
            obtain ⟨⟨n0, n1, n2, n3, n4, n5⟩, hf⟩ := HZ2.out
            have f2 := hf 2
            have f3 := hf 3
            obtain ⟨⟨m0, m1, m2, m3, m4, m5⟩, -⟩ := HZ3.out
            clear hf HZ2 HZ3 HZ hgp
            have hb2 := bel_box ((w7.setCell ⟨g, 2, none⟩ (.int .i64 1)).setCell ⟨g, 3, none⟩ (.int .i64 (k : Int))) (.cells (nc ((1, (k : Int) + 1), (1, (k : Int)), (k : Int) + 1, 97)) 35)
            have HO2 := Lib.hid (HOz.out.below hb2)
            have HB2 := bel_tr HBz.out hb2
            have hsz : (((w7.setCell ⟨g, 2, none⟩ (.int .i64 1)).setCell ⟨g, 3, none⟩ (.int .i64 (k : Int)))).heap.size = w7.heap.size := by simp
            have HLt : Hid (RowN ((((w7.setCell ⟨g, 2, none⟩ (.int .i64 1)).setCell ⟨g, 3, none⟩ (.int .i64 (k : Int)))).alloc (.cells (nc ((1, (k : Int) + 1), (1, (k : Int)), (k : Int) + 1, 97)) 35)) (some ⟨w7.heap.size, 0, none⟩) [((1, (k : Int) + 1), (1, (k : Int)), (k : Int) + 1, 97)]) := by rw [← hsz]; exact RowN.lit _ [((1, (k : Int) + 1), (1, (k : Int)), (k : Int) + 1, 97)] (nc ((1, (k : Int) + 1), (1, (k : Int)), (k : Int) + 1, 97)) _ _ rfl
            clear hb2 hsz
            go_wp2_with (at_builtin; refine wpList_appN rfl _ _ _ rfl Try.underlying22 infoN _ _ rfl HO2.out (some ⟨w7.heap.size, 0, none⟩) [((1, (k : Int) + 1), (1, (k : Int)), (k : Int) + 1, 97)] 1 1 rfl rfl HLt.out (fun h => by cases h) (by have := HKl.out; simp only [List.length_cons, List.length_nil]; omega) HB2.size ?_)
            intro v7 w7 ho hg _
            have HO7 : Hid (ON w7 w.heap.size EN v7 (longN true (k + 1))) := by rw [HSt2.out]; exact ho
            have HB7 := Lib.hid (HB2.grown hg HB2.size (fun x hx => (HO2.out.lt x hx).1))
            clear ho hg n0 n1 n2 n3 n4 n5 m0 m1 m2 m3 m4 m5
            go_wp2_with fail
            go_roundw
            case rel => exact ⟨k + 1, by omega, by go_num, HB7, HO7⟩
            case measure => simp [intOf]; omega
      · obtain rfl : k = n := by omega
        have hend : ¬ (k : Int) + 1 ≤ (k : Int) := by omega
        clear hlt hk
        obtain ⟨aL, cL, hv5, hrL, hnL, -, -⟩ := ON.row HO.out
        rw [long_len] at hv5
        subst hv5
        have HX := Lib.hid hrL
        have HNl : Hid (aL = none → cL = 0) := fun h => (hnL h).1
        have HLv := Lib.hid (long_valid ch k HLe.out)
        have HLl := Lib.hid (long_len ch k)
        obtain ⟨Wt, hWt⟩ : ∃ Wt, Wt = orderS (longN ch k) := ⟨_, rfl⟩
        have HOe : Hid (orderP (longN ch k) = (Wt, 0)) := by show _ = _; unfold orderP; rw [if_pos HLv.out, hWt]
        have HLo : Hid (lostP (longN ch k) = ([], 0)) := by show _ = _; unfold lostP; rw [if_pos HLv.out, long_lost ch k HLe.out]
        have HWl : Hid (Wt.length = k) := by
          show _ = _
          rw [hWt]
          cases ch with
          | true => rw [chain_orderL k HLe.out, long_len]
          | false =>
            by_cases h0 : k = 0
            · subst h0; decide
            · rw [wide_order k HLe.out (by omega), List.length_cons]
              unfold wideL
              rw [List.length_reverse, List.length_drop, long_len]
              omega
        have HPe : Hid (0 < k → ∃ p, pathP (longN ch k) (1, (k : Int)) = (p, 0) ∧ p.length = if ch = true then k else min 2 k) := by
          intro h0
          obtain ⟨p, hl, hp⟩ : ∃ p : List Dt, p.length = (if ch = true then k else min 2 k) ∧ Pt (longN ch k) (1, (k : Int)) p := by
            cases ch with
            | true =>
              obtain ⟨p, h1, h2⟩ := chain_path k HLe.out (k - 1) (by omega)
              rw [show (((k - 1 : Nat) : Int) + 1) = (k : Int) by omega] at h2
              exact ⟨p, by rw [h1, if_pos rfl]; omega, h2⟩
            | false =>
              obtain ⟨p, h1, h2⟩ := wide_path k HLe.out (k - 1) (by omega)
              rw [show (((k - 1 : Nat) : Int) + 1) = (k : Int) by omega] at h2
              exact ⟨p, by rw [h1, if_neg (by decide)]; congr 1; omega, h2⟩
          refine ⟨p, ?_, hl⟩
          have hr : validR (1, (k : Int)) = true := by unfold validR; simp; have := HLe.out; omega
          unfold pathP
          rw [if_pos (by rw [HLv.out, hr]; rfl), pathQ_some (by rfl) hp]
          rfl
        have HPp := Lib.hid (fun w h => path_prog (longN ch k) (1, (k : Int)) aL cL w h (by rw [long_len]; have := HLe.out; omega))
        have HOrd := Lib.hid (fun aW cW w h1 h2 => ordered_true (longN ch k) aL cL Wt 0 aW cW w h1 (by rw [long_len]; have := HLe.out; omega) HOe.out h2 (by rw [HWl.out]; have := HLe.out; omega))
        have HLst := Lib.hid (fun w h1 => lost_true (longN ch k) aL cL [] 0 none 0 w h1 (by rw [long_len]; have := HLe.out; omega) HLo.out (.inl rfl) (by decide))
        rw [HWl.out, long_len] at HOrd
        rw [long_len] at HPp HLst
        clear hrL hnL HO HOe HLo
        rcases ch with _ | _
        · by_cases h1 : 1 < k
          · have h1i : (1 : Int) < (k : Int) := by omega
            have hki : (k : Int) ≤ 400 := by have := HLe.out; omega
            obtain ⟨bL, oL, rfl, hna⟩ := na_of HX.out 0 (by rw [long_len]; omega)
            have hq : (longN false k)[0]'(by rw [long_len]; omega) = nthN false 0 := long_at _ _ _ _
            rw [hq] at hna
            have HW0 : Hid (wantW k 0 = [] ++ [nthN false 0]) := rfl
            rw [Nat.zero_mul, Nat.add_zero] at hna
            obtain ⟨B0, hB0⟩ : ∃ B0, B0 = wr.heap.size := ⟨_, rfl⟩
            have HbL : Hid (bL < B0) := by show _ < _; rw [hB0]; exact lt_of_cell hna.1
            have HB0 : Hid (w.heap.size ≤ B0) := by show _ ≤ _; rw [hB0]; exact HB.out.size
            have hb2 := bel_box wr (.cells (nc (nthN false 0)) 35)
            have HB2 := Lib.hid (bel_tr HB.out hb2)
            have HX2 := Lib.hid (HX.out.keep hb2)
            have HLt : Hid (RowN (wr.alloc (.cells (nc (nthN false 0)) 35)) (some ⟨wr.heap.size, 0, none⟩) [nthN false 0]) := RowN.lit wr [nthN false 0] (nc (nthN false 0)) _ _ rfl
            have HBs : Hid (B0 ≤ (wr.alloc (.cells (nc (nthN false 0)) 35)).heap.size) := by show _ ≤ _; rw [hB0]; exact hb2.size
            clear hb2 HB HX hB0
            obtain ⟨q, hq2⟩ : ∃ q, q = nthN false 0 := ⟨_, rfl⟩
            rw [← hq2] at hna HW0 HB2 HX2 HLt HBs
            obtain ⟨n0, n1, n2, n3, n4, n5⟩ := hna
            obtain ⟨⟨q1, q2⟩, ⟨q3, q4⟩, q5, q6⟩ := q
            clear hq hq2
            go_wp2_with (at_builtin; refine wpList_appN rfl _ _ _ rfl Try.underlying22 infoN (.slice none 0 0) [] rfl (ON.nil _ B0 _) (some ⟨wr.heap.size, 0, none⟩) [((q1, q2), (q3, q4), q5, q6)] 1 1 rfl rfl HLt.out (fun h => by cases h) (by simp only [List.length_nil, List.length_cons]; omega) HBs.out ?_)
            intro v7 w7 ho hg _
            have HO7 : Hid (ON w7 B0 EN v7 (wantW k 0)) := by rw [HW0.out]; exact ho
            have hb7 : Below (wr.alloc (.cells (nc ((q1, q2), (q3, q4), q5, q6)) 35)).heap.size (wr.alloc (.cells (nc ((q1, q2), (q3, q4), q5, q6)) 35)) w7 := (Below.refl _ _).grown hg (Nat.le_refl _) (fun x hx => by cases hx)
            have HB7 := Lib.hid (bel_tr HB2.out hb7)
            have HX7 := Lib.hid (HX2.out.keep hb7)
            have HS7 : Hid (B0 ≤ w7.heap.size) := Nat.le_trans HBs.out hb7.size
            clear ho hg hb7 n0 n1 n2 n3 n4 n5 HLt HBs HB2 HX2 HW0
            go_wp2_with fail
            go_loopw [8, 9] (fun v i wr => ∃ m : Nat, m ≤ k - 1 ∧ i = .int .i64 ((k : Int) - 1 - (m : Int)) ∧ Hid (Below w.heap.size w wr) ∧ Hid (B0 ≤ wr.heap.size) ∧ Hid (RowN wr (some ⟨bL, oL, none⟩) (longN false k)) ∧ Hid (ON wr B0 EN v (wantW k m))) (fun _ i _ => (intOf i).toNat)
            case atStart => exact ⟨0, Nat.zero_le _, by go_num, HB7, HS7, HX7, HO7⟩
            case round =>
              obtain ⟨m, hm, rfl, HB, HS, HX, HO⟩ := hrel
              by_cases hlt : m < k - 1
              · have hi0 : (0 : Int) < (k : Int) - 1 - (m : Int) := by omega
                obtain ⟨j, hj⟩ : ∃ j, j = k - 1 - m := ⟨_, rfl⟩
                have hji : (k : Int) - 1 - (m : Int) = (j : Int) := by omega
                have hjk : j < (longN false k).length := by rw [long_len]; omega
                have hji2 : (j : Int) < (k : Int) := by omega
                have HSt := Lib.hid (want_step k m hlt)
                have HKl : Hid ((wantW k m).length ≤ 400) := by show _ ≤ _; rw [want_len k m hm]; have := HLe.out; omega
                obtain ⟨b1, o1, he1, hna⟩ := na_of HX.out j hjk
                cases he1
                obtain ⟨q, hq2⟩ : ∃ q, q = (longN false k)[j] := ⟨_, rfl⟩
                have HSt2 : Hid (wantW k (m + 1) = wantW k m ++ [q]) := by
                  subst hj
                  show _ = _
                  rw [HSt.out, hq2]
                rw [← hq2] at hna
                clear HSt hq2
                rw [hji] at hi0 ⊢
                have HJ := Lib.hid hji
                clear hj hji
                have hb2 := bel_box wr (.cells (nc q) 35)
                have HB2 := bel_tr HB.out hb2
                have HX2 := Lib.hid (HX.out.keep hb2)
                have HO2 := Lib.hid (HO.out.below hb2)
                have HLt : Hid (RowN (wr.alloc (.cells (nc q) 35)) (some ⟨wr.heap.size, 0, none⟩) [q]) := RowN.lit wr [q] (nc q) _ _ rfl
                have HSz : Hid (B0 ≤ (wr.alloc (.cells (nc q) 35)).heap.size) := Nat.le_trans HS.out hb2.size
                clear hb2
                obtain ⟨n0, n1, n2, n3, n4, n5⟩ := hna
                obtain ⟨⟨q1, q2⟩, ⟨q3, q4⟩, q5, q6⟩ := q
                go_wp2_with (at_builtin; refine wpList_appN rfl _ _ _ rfl Try.underlying22 infoN _ _ rfl HO2.out (some ⟨wr.heap.size, 0, none⟩) [((q1, q2), (q3, q4), q5, q6)] 1 1 rfl rfl HLt.out (fun h => by cases h) (by have := HKl.out; simp only [List.length_cons, List.length_nil]; omega) HSz.out ?_)
                intro v8 w8 ho hg _
                have HO8 : Hid (ON w8 B0 EN v8 (wantW k (m + 1))) := by rw [HSt2.out]; exact ho
                have HB8 := Lib.hid (HB2.grown hg HB2.size (fun x hx => Nat.le_trans HB0.out (HO2.out.lt x hx).1))
                have HX8 : Hid (RowN w8 (some ⟨bL, oL, none⟩) (longN false k)) := HX2.out.gb hg (fun b o e e2 => by cases e; have h1 := (HO2.out.lt _ e2.symm).1; have h2 := HbL.out; omega)
                have HS8 : Hid (B0 ≤ w8.heap.size) := Nat.le_trans HSz.out hg.size
                clear ho hg n0 n1 n2 n3 n4 n5
                go_wp2_with fail
                go_roundw
                case rel => exact ⟨m + 1, by omega, by rw [show (j : Int) - 1 = (k : Int) - 1 - ((m + 1 : Nat) : Int) by have := HJ.out; omega], HB8, HS8, HX8, HO8⟩
                case measure => simp [intOf]; omega
              · obtain rfl : m = k - 1 := by omega
                have hend : ¬ (0 : Int) < (k : Int) - 1 - ((k - 1 : Nat) : Int) := by omega
                rw [want_all k HLe.out h1, ← hWt] at HO
                obtain ⟨aW, cW, hvW, hrW, -, -, -⟩ := ON.row HO.out
                rw [show Wt.length = k from HWl.out] at hvW
                subst hvW
                have HW := Lib.hid hrW
                clear hrW HO HO7 HX7 HB7 HS7 hWt hlt hm HS
                go_wp2_with fail
                refine (HOrd.out aW cW _ HX.out HW.out).mono ?_
                rintro e w21 ⟨rfl, hb⟩
                replace HB := Lib.hid (bel_tr HB.out hb)
                replace HX := Lib.hid (HX.out.keep hb)
                clear hb HOrd HW
                go_wp2_with fail
                refine (HLst.out _ HX.out).mono ?_
                rintro e w22 ⟨rfl, hb⟩
                replace HB := Lib.hid (bel_tr HB.out hb)
                replace HX := Lib.hid (HX.out.keep hb)
                clear hb HLst
                by_cases h0 : k = 0
                · clear HX HPe HPp HWl HLl HLv HNl
                  subst h0
                  go_wp2_with fail
                  refine (HKn.out _).mono ?_
                  rintro e w23 ⟨rfl, hb⟩
                  replace HB := Lib.hid (bel_tr HB.out hb)
                  clear hb HKn
                  go_wp2_with fail
                  go_ret
                  exact ⟨rfl, HB.out⟩
                · obtain ⟨p, hp1, hp2⟩ := HPe.out (by omega)
                  rw [hp1] at HPp
                  have HP2 := Lib.hid hp2
                  have h0i : ¬ (k : Int) = 0 := by omega
                  clear hp1 hp2
                  go_wp2_with fail
                  refine (at_any 1 (k : Int) _).mono ?_
                  rintro e w23 ⟨rfl, hb⟩
                  replace HB := Lib.hid (bel_tr HB.out hb)
                  replace HX := Lib.hid (HX.out.keep hb)
                  clear hb
                  go_wp2_with fail
                  refine (HPp.out _ HX.out).mono ?_
                  rintro e w24 ⟨v, rfl, ho, hb⟩
                  obtain ⟨a5, c5, hv, -⟩ := OD.row ho
                  rw [show p.length = _ from HP2.out] at hv
                  rw [if_neg (by decide)] at hv
                  have hmn : min 2 (k : Int) = ((min 2 k : Nat) : Int) := by omega
                  subst hv
                  replace HB := Lib.hid (bel_tr HB.out hb)
                  clear hb ho HX HPp
                  go_wp2_with fail
                  refine (HKn.out _).mono ?_
                  rintro e w25 ⟨rfl, hb⟩
                  replace HB := Lib.hid (bel_tr HB.out hb)
                  clear hb HKn
                  go_wp2_with fail
                  go_ret
                  exact ⟨rfl, HB.out⟩
          · have h1i : ¬ (1 : Int) < (k : Int) := by omega
            have HW : Hid (RowN wr aL Wt) := by rw [hWt, small_order k h1]; exact HX.out
            clear hWt h1
            go_wp2_with fail
            refine (HOrd.out aL cL _ HX.out HW.out).mono ?_
            rintro e w21 ⟨rfl, hb⟩
            replace HB := Lib.hid (bel_tr HB.out hb)
            replace HX := Lib.hid (HX.out.keep hb)
            clear hb HOrd HW
            go_wp2_with fail
            refine (HLst.out _ HX.out).mono ?_
            rintro e w22 ⟨rfl, hb⟩
            replace HB := Lib.hid (bel_tr HB.out hb)
            replace HX := Lib.hid (HX.out.keep hb)
            clear hb HLst
            by_cases h0 : k = 0
            · clear HX HPe HPp HWl HLl HLv HNl
              subst h0
              go_wp2_with fail
              refine (HKn.out _).mono ?_
              rintro e w23 ⟨rfl, hb⟩
              replace HB := Lib.hid (bel_tr HB.out hb)
              clear hb HKn
              go_wp2_with fail
              go_ret
              exact ⟨rfl, HB.out⟩
            · obtain ⟨p, hp1, hp2⟩ := HPe.out (by omega)
              rw [hp1] at HPp
              have HP2 := Lib.hid hp2
              have h0i : ¬ (k : Int) = 0 := by omega
              clear hp1 hp2
              go_wp2_with fail
              refine (at_any 1 (k : Int) _).mono ?_
              rintro e w23 ⟨rfl, hb⟩
              replace HB := Lib.hid (bel_tr HB.out hb)
              replace HX := Lib.hid (HX.out.keep hb)
              clear hb
              go_wp2_with fail
              refine (HPp.out _ HX.out).mono ?_
              rintro e w24 ⟨v, rfl, ho, hb⟩
              obtain ⟨a5, c5, hv, -⟩ := OD.row ho
              rw [show p.length = _ from HP2.out] at hv
              rw [if_neg (by decide)] at hv
              have hmn : min 2 (k : Int) = ((min 2 k : Nat) : Int) := by omega
              subst hv
              replace HB := Lib.hid (bel_tr HB.out hb)
              clear hb ho HX HPp
              go_wp2_with fail
              refine (HKn.out _).mono ?_
              rintro e w25 ⟨rfl, hb⟩
              replace HB := Lib.hid (bel_tr HB.out hb)
              clear hb HKn
              go_wp2_with fail
              go_ret
              exact ⟨rfl, HB.out⟩
        · have HW : Hid (RowN wr aL Wt) := by rw [hWt, chain_orderL k HLe.out]; exact HX.out
          clear hWt
          go_wp2_with fail
          refine (HOrd.out aL cL _ HX.out HW.out).mono ?_
          rintro e w21 ⟨rfl, hb⟩
          replace HB := Lib.hid (bel_tr HB.out hb)
          replace HX := Lib.hid (HX.out.keep hb)
          clear hb HOrd HW
          go_wp2_with fail
          refine (HLst.out _ HX.out).mono ?_
          rintro e w22 ⟨rfl, hb⟩
          replace HB := Lib.hid (bel_tr HB.out hb)
          replace HX := Lib.hid (HX.out.keep hb)
          clear hb HLst
          by_cases h0 : k = 0
          · clear HX HPe HPp HWl HLl HLv HNl
            subst h0
            go_wp2_with fail
            refine (HKn.out _).mono ?_
            rintro e w23 ⟨rfl, hb⟩
            replace HB := Lib.hid (bel_tr HB.out hb)
            clear hb HKn
            go_wp2_with fail
            go_ret
            exact ⟨rfl, HB.out⟩
          · obtain ⟨p, hp1, hp2⟩ := HPe.out (by omega)
            rw [hp1] at HPp
            have HP2 := Lib.hid hp2
            have h0i : ¬ (k : Int) = 0 := by omega
            clear hp1 hp2
            go_wp2_with fail
            refine (at_any 1 (k : Int) _).mono ?_
            rintro e w23 ⟨rfl, hb⟩
            replace HB := Lib.hid (bel_tr HB.out hb)
            replace HX := Lib.hid (HX.out.keep hb)
            clear hb
            go_wp2_with fail
            refine (HPp.out _ HX.out).mono ?_
            rintro e w24 ⟨v, rfl, ho, hb⟩
            obtain ⟨a5, c5, hv, -⟩ := OD.row ho
            rw [show p.length = _ from HP2.out] at hv
            rw [if_pos trivial] at hv
            subst hv
            replace HB := Lib.hid (bel_tr HB.out hb)
            clear hb ho HX HPp
            go_wp2_with fail
            refine (HKn.out _).mono ?_
            rintro e w25 ⟨rfl, hb⟩
            replace HB := Lib.hid (bel_tr HB.out hb)
            clear hb HKn
            go_wp2_with fail
            go_ret
            exact ⟨rfl, HB.out⟩
end Go.Proofs.Ytpandphlcgjdkaa.Un
end

/-
  The law WalkLongs, as the row's frame asks for it.
-/
section
namespace Go.Proofs.Ytpandphlcgjdkaa.Un
set_option linter.unusedVariables false
open Go.RowKit V D Nd

theorem longs_law2 (z : Int) (ch : Bool) (w : World) (hw : (Lit.int .u16 z).wf) :
    Calls Try.prog 5 #[.int .u16 z, .bool ch] w fun e w' => e = .returned (.bool true) ∧ Below w.heap.size w w' := by
  have e1 : IntKind.u16.min = 0 := by decide
  have e2 : IntKind.u16.max = 65535 := by decide
  have h : 0 ≤ z ∧ z ≤ 65535 := by simp [Lit.wf, e1, e2] at hw; omega
  obtain ⟨n, rfl⟩ : ∃ n : Nat, z = (n : Int) := ⟨z.toNat, by omega⟩
  exact longs_law n (by omega) ch w
end Go.Proofs.Ytpandphlcgjdkaa.Un
end
