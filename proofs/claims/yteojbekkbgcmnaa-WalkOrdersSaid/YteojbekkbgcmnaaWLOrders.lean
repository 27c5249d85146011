/-
  The law WalkOrders.
-/
import Derived.Test.YteojbekkbgcmnaaMWKnG
import Derived.Test.YteojbekkbgcmnaaWPX
namespace Go.Proofs.Yteojbekkbgcmnaa.Un
set_option linter.unusedVariables false
open Go.RowKit V Go.Shelf D Nd Qs Wk
attribute [local irreducible] Sch.heldN Sch.stepV Sch.stepE

theorem infoInt : (Try.prog.info? 3).map (fun i => (i.zero, i.size, i.bytes)) = some (some (.int .i64 0), 1, 8) := by kernel_rfl
set_option maxRecDepth 100000 in
set_option maxHeartbeats 8000000 in
theorem orders_law (l : List Nt) (t : Nat) (a : Option Addr) (c : Nat) (w : World) (ht : t ≤ 255) (hi : ∀ x ∈ l, i32 x.2.2.2) (hx : RowN w a l) :
    Calls Try.prog 4 #[.slice a l.length c, .int .u8 (t : Int)] w fun e w' => e = .returned (.bool true) ∧ Below w.heap.size w w' := by
  have HKn := Lib.hid (fun w => known_any w)
  by_cases hbig : 40 < l.length
  · have hg : (40 : Int) < (l.length : Int) := by omega
    go_enter Try.func4, Try.ntmps4
    go_wp2_with fail
    refine (HKn.out _).mono ?_
    rintro e w2 ⟨rfl, hb⟩
    have HB := Lib.hid hb
    clear hb HKn
    go_wp2_with fail
    go_ret
    exact ⟨rfl, HB.out⟩
  have hle : l.length ≤ 40 := by omega
  have hng : ¬ (40 : Int) < (l.length : Int) := by omega
  have HX := Lib.hid hx
  have HLe := Lib.hid hle
  have HVl := Lib.hid (fun w h => validS_ref l a c w hi h (by omega))
  clear hbig hi hx hle
  rcases hv : validS l with _ | _
  · rw [hv] at HVl
    have HOr := Lib.hid (fun w h => ordered_true l a c [] 2 none 0 w h (by have := HLe.out; omega) (by unfold orderP; rw [if_neg (by rw [hv]; decide)]) (RowN.nil _ _) (by decide))
    have HGo := Lib.hid (fun w h => goes_true l (-1) a none none c 0 0 0 0 w h (by have := HLe.out; omega) [] (by unfold seenL; rw [if_neg (by rw [hv]; decide)]; rfl) [] (by unfold seenL; rw [if_neg (by rw [hv]; decide)]; rfl) rfl rfl (RowN.nil _ _) (.inl rfl))
    clear hv
    go_enter Try.func4, Try.ntmps4
    go_wp2_with fail
    refine (HVl.out _ HX.out).mono ?_
    rintro e w2 ⟨rfl, hb⟩
    have HB := Lib.hid hb
    replace HX := Lib.hid (HX.out.keep hb)
    clear hb HVl
    go_wp2_with fail
    refine (HOr.out _ HX.out).mono ?_
    rintro e w3 ⟨rfl, hb⟩
    replace HB := Lib.hid (bel_tr HB.out hb)
    replace HX := Lib.hid (HX.out.keep hb)
    clear hb HOr
    go_wp2_with fail
    refine (HGo.out _ HX.out).mono ?_
    rintro e w4 ⟨rfl, hb⟩
    replace HB := Lib.hid (bel_tr HB.out hb)
    clear hb HGo HX
    go_wp2_with fail
    refine (HKn.out _).mono ?_
    rintro e w5 ⟨rfl, hb⟩
    replace HB := Lib.hid (bel_tr HB.out hb)
    clear hb HKn
    go_wp2_with fail
    go_ret
    exact ⟨rfl, HB.out⟩
  rw [hv] at HVl
  have HOc := Lib.hid (fun w h => order_ref l hv (by have := HLe.out; omega) a c w h)
  have HPt := Lib.hid (fun d w h => path_ref l d a c w h (by have := HLe.out; omega))
  have HDp := Lib.hid (fun k hk hd => dep_at hv k hk hd)
  have HDl := Lib.hid (dep_len l)
  have HOl : Hid ((orderS l).length ≤ 40) := by have h1 := both_len hv; have := HLe.out; show _ ≤ _; omega
  have HPo : Hid (orderP l = (orderS l, 0)) := by show _ = _; unfold orderP; rw [if_pos hv]
  have HEo : Hid (orderS l = (allD (seenL l)).map (·.2)) := by show _ = _; unfold seenL; rw [if_pos hv, all_snd]
  have HEd : Hid (depS l = (allD (seenL l)).map (fun x => (x.1 : Int))) := by show _ = _; unfold seenL; rw [if_pos hv]; rfl
  have HOr := Lib.hid (fun aW cW w h1 h2 => ordered_true l a c (orderS l) 0 aW cW w h1 (by have := HLe.out; omega) HPo.out h2 (by have := HOl.out; omega))
  have HGo := Lib.hid (fun few aW cW aD cD w h1 h2 h3 => goes_true l few a aW aD c cW cD (orderS l).length (orderS l).length w h1 (by have := HLe.out; omega) (orderS l) HEo.out (depS l) HEd.out rfl HDl.out.symm h2 h3)
  clear hv HPo HEo HEd
  generalize orderS l = O at *
  generalize depS l = DD at *
  have hcv : IntKind.i64.wrap (t : Int) = t := wrap_nat (by omega)
  have hcv2 : (t : Int) % 256 = t := by omega
  go_enter Try.func4, Try.ntmps4
  go_wp2_with fail
  refine (HVl.out _ HX.out).mono ?_
  rintro e w2 ⟨rfl, hb⟩
  have HB := Lib.hid hb
  replace HX := Lib.hid (HX.out.keep hb)
  clear hb HVl
  go_wp2_with fail
  refine (HOc.out _ HX.out).mono ?_
  rintro e w3 ⟨v3, rfl, ho, hb⟩
  obtain ⟨aO, cO, rfl, hrO, -⟩ := ON.row ho
  have HO := Lib.hid hrO
  replace HB := Lib.hid (bel_tr HB.out hb)
  replace HX := Lib.hid (HX.out.keep hb)
  clear hb ho hrO HOc
  have hol : (O.length : Int) ≤ 40 := by have := HOl.out; omega
  go_wp2_with fail
  go_loopw [6, 8, 9, 10, 31] (fun v _ _ _ i wr => ∃ k : Nat, k ≤ O.length ∧ i = .int .i64 (k : Int) ∧ Hid (Below w3.heap.size w3 wr) ∧ Hid (G.OI wr w3.heap.size 3 .i64 v (DD.take k))) (fun _ _ _ _ i _ => O.length - (intOf i).toNat)
  case atStart => exact ⟨0, Nat.zero_le _, rfl, Below.refl _ _, G.OI.nil _ _ _ _⟩
  case round =>
    obtain ⟨k, hk, rfl, HZ, HD⟩ := hrel
    by_cases hlt : k < O.length
    · have hi0 : (k : Int) < (O.length : Int) := by omega
      have hDk : k < DD.length := by rw [HDl.out]; exact hlt
      obtain ⟨b1, o1, e1, hna⟩ := na_of (HO.out.keep HZ.out) k hlt
      obtain ⟨p, hp1, hp2, hp3, hp4⟩ := HDp.out k hlt hDk
      have HTk : Hid (DD.take (k + 1) = DD.take k ++ [DD[k]]) := List.take_succ_eq_append_getElem hDk
      have HKl : Hid ((DD.take k).length ≤ 40) := by have := HOl.out; have := HDl.out; show _ ≤ _; rw [List.length_take]; omega
      obtain ⟨q, hq⟩ : ∃ q, q = O[k] := ⟨_, rfl⟩
      rw [← hq] at hna hp1
      subst e1
      have HPe := Lib.hid hp1
      have HPl := Lib.hid hp2
      have hnp : (p.length : Int) ≤ 41 := by have := HLe.out; omega
      have hnp1 : (1 : Int) ≤ (p.length : Int) := by omega
      clear hp1 hp2 hp3 hp4 hq
      have hb2 := bel_box wr (.cells (nc q) 35)
      have HZ2 := Lib.hid (bel_tr HZ.out hb2)
      have HX2 := Lib.hid ((HX.out.keep HZ.out).keep hb2)
      have HD2 := Lib.hid (HD.out.below hb2)
      have hc := HPt.out q.1 _ HX2.out
      rw [HPe.out] at hc
      have HC := Lib.hid hc
      clear hc hb2
      obtain ⟨n0, n1, n2, n3, n4, n5⟩ := hna
      obtain ⟨⟨q1, q2⟩, ⟨q3, q4⟩, q5, q6⟩ := q
      simp only [Option.isSome_some, Option.getD_some] at HC
      go_wp2_with fail
      refine HC.out.mono ?_
      rintro e w5 ⟨v5, rfl, ho, hb⟩
      obtain ⟨a5, c5, rfl, -⟩ := OD.row ho
      have HZ5 := Lib.hid (bel_tr HZ2.out hb)
      have HD5 := Lib.hid (HD2.out.below hb)
      clear ho hb HC n0 n1 n2 n3 n4 n5 HX2 HD2 HZ2
      have hb6 := bel_box w5 (.cells #[.int .i64 ((p.length : Int) - 1)] 3)
      have HD6 := Lib.hid (HD5.out.below hb6)
      have HZ6 := Lib.hid (bel_tr HZ5.out hb6)
      clear hb6
      go_wp2_with (at_builtin; refine G.wpList_appI rfl (.tmp 42) (.tmp 46) 40 rfl Try.underlying40 infoInt _ (DD.take k) rfl HD6.out w5.heap.size 0 1 1 [(p.length : Int) - 1] rfl rfl (G.RowI.lit .i64 w5 _ rfl [(p.length : Int) - 1] _ _ rfl) (by have := HKl.out; simp; omega) (by omega) HZ6.out.size ?_; intro v' w' ho' hg' hgr')
      have HD7 : Hid (G.OI w' w3.heap.size 3 .i64 v' (DD.take (k + 1))) := by show G.OI _ _ _ _ _ _; rw [HTk.out, ← HPl.out]; exact ho'
      have HZ7 : Hid (Below w3.heap.size w3 w') := by
        exact HZ6.out.grown hg' HZ6.out.size (fun x hx => (HD6.out.lt x hx).1)
      clear ho' hg' hgr'
      go_wp2_with fail
      go_roundw
      case rel => exact ⟨k + 1, by omega, by go_num, HZ7, HD7⟩
      case measure => simp [intOf]; omega
    · obtain rfl : k = O.length := by omega
      have hend : ¬ (O.length : Int) < (O.length : Int) := by omega
      have hde : DD.take O.length = DD := List.take_of_length_le (by rw [HDl.out]; exact Nat.le_refl _)
      rw [hde] at HD
      obtain ⟨aD, cD, hvD, hrD, -⟩ := G.OI.row HD.out
      rw [HDl.out] at hvD
      subst hvD
      have HDr := Lib.hid hrD
      replace HB := Lib.hid (bel_tr HB.out HZ.out)
      replace HX := Lib.hid (HX.out.keep HZ.out)
      replace HO := Lib.hid (HO.out.keep HZ.out)
      clear hrD hde HD HZ HDp HPt hlt hk
      go_wp2_with fail
      refine (HOr.out aO cO _ HX.out HO.out).mono ?_
      rintro e w21 ⟨rfl, hb⟩
      replace HB := Lib.hid (bel_tr HB.out hb)
      replace HX := Lib.hid (HX.out.keep hb)
      replace HO := Lib.hid (HO.out.keep hb)
      replace HDr := Lib.hid (HDr.out.keep hb (Nat.le_refl _))
      clear hb HOr
      go_wp2_with fail
      refine (HGo.out (-1) aO cO aD cD _ HX.out HO.out HDr.out).mono ?_
      rintro e w22 ⟨rfl, hb⟩
      replace HB := Lib.hid (bel_tr HB.out hb)
      replace HX := Lib.hid (HX.out.keep hb)
      replace HO := Lib.hid (HO.out.keep hb)
      replace HDr := Lib.hid (HDr.out.keep hb (Nat.le_refl _))
      clear hb
      go_wp2_with fail
      refine (HGo.out (t : Int) aO cO aD cD _ HX.out HO.out HDr.out).mono ?_
      rintro e w23 ⟨rfl, hb⟩
      replace HB := Lib.hid (bel_tr HB.out hb)
      clear hb HGo HX HO HDr
      go_wp2_with fail
      refine (HKn.out _).mono ?_
      rintro e w25 ⟨rfl, hb⟩
      replace HB := Lib.hid (bel_tr HB.out hb)
      clear hb HKn
      go_wp2_with fail
      go_ret
      exact ⟨rfl, HB.out⟩
end Go.Proofs.Yteojbekkbgcmnaa.Un
