/-
  The law StoreOrders.
-/
import Derived.Test.YtfpfihmihlmobaaGreatMQLLooks
import Derived.Test.YtfpfihmihlmobaaGreatQPX
namespace Go.Proofs.YtfpfihmihlmobaaGreat.Qs
set_option linter.unusedVariables false
open Go.RowKit V Go.Sort D Nd
attribute [local irreducible] Sch.heldN Sch.stepV Sch.stepE

/-- A row of one node, of the call's own. -/
theorem on_one (w : World) (n : Nt) : ON (w.alloc (.cells (nc n) 35)) w.heap.size E (.slice (some ⟨w.heap.size, 0, none⟩) 1 1) [n] := by
  refine on_of (g := w.heap.size) (cap := 1) (cur := nc n) (l := [n]) (Nat.le_refl _) ?_ (by simp) (by decide) rfl ?_
  · show (w.heap.push _)[w.heap.size]? = _
    simp
  · intro i hi j hj
    obtain rfl : i = 0 := by simpa using hi
    simp
/-- A node of a row. -/
def Kq1 (b o : Nat) (q : Nt) (w : World) : Prop := Na w b o q
theorem Kq1.keep {b o : Nat} {q : Nt} {w w' : World} (h : Kq1 b o q w) (hb : Below w.heap.size w w') : Kq1 b o q w' := Na.keep h hb
theorem Kq1.l {b o : Nat} {q : Nt} : ∀ w, Kq1 b o q w → (Instr.loadAt 35 (.pointer (some ⟨b, o, none⟩))).run Tryz.prog w = .ok (nv q) w := fun w k => Na.load k

set_option maxRecDepth 100000 in
set_option maxHeartbeats 8000000 in
theorem orders_law (l : List Nt) (t : Nat) (a : Option Addr) (c : Nat) (w : World) (ht : t ≤ 255) (hf : ∀ x ∈ l, fitN x) (hx : RowN w a l) (hna : a = none → c = 0) (hlc : l.length ≤ c) (hl : l.length ≤ 9223372036854775807) :
    Calls Tryz.prog 7 #[.slice a l.length c, .int .u8 (t : Int)] w fun e w' => e = .returned (.bool true) ∧ Below w.heap.size w w' := by
  have HX := Lib.hid hx
  have HF := Lib.hid hf
  have HLc := Lib.hid hlc
  clear hx hf hna hlc hl
  rcases Nat.lt_or_ge 40 l.length with h40 | h40
  · have hg : decide ((40 : Int) < (l.length : Int)) = true := by simp; omega
    go_enter Tryz.func7, Tryz.ntmps7
    go_wp2_with fail
    refine (known_any _).mono ?_
    rintro e w901 ⟨rfl, hb⟩
    have HB := Lib.hid hb
    clear hb
    go_wp2_with fail
    go_ret
    exact ⟨rfl, HB.out⟩
  have hg : decide ((40 : Int) < (l.length : Int)) = false := by simp; omega
  have HOf := Lib.hid (of_prog l a c w HF.out HX.out (by omega))
  rcases Nat.eq_zero_or_pos l.length with h0 | h0
  · obtain rfl := List.eq_nil_of_length_eq_zero h0
    rw [show ofN [] = ([], 0) from rfl] at HOf
    clear h0 h40 hg HF HLc
    go_enter Tryz.func7, Tryz.ntmps7
    go_wp2_with fail
    refine HOf.out.mono ?_
    rintro e w2 ⟨v, rfl, ho, hb⟩
    obtain ⟨a1, c1, rfl, -⟩ := ho.row
    have HB := Lib.hid hb
    clear hb ho HOf
    go_wp2_with fail
    refine (known_any _).mono ?_
    rintro e w902 ⟨rfl, hb⟩
    replace HB := bel_tr HB hb
    clear hb
    go_wp2_with fail
    go_ret
    exact ⟨rfl, HB.out⟩
  have hne0 : ¬ (l.length : Int) = 0 := by omega
  have hne1 : decide ((l.length : Int) = 0) = false := decide_eq_false hne0
  have hneb : ((l.length : Int) == 0) = false := beq_false_of_ne hne0
  obtain ⟨k, hk⟩ : ∃ k, k = t % l.length := ⟨_, rfl⟩
  have hkl : k < l.length := by rw [hk]; exact Nat.mod_lt _ h0
  have htm : ((t : Int)).tmod (l.length : Int) = (k : Int) := by rw [hk]; rfl
  have hmd : ((t : Int)) % (l.length : Int) = (k : Int) := by rw [hk]; rfl
  have hcv : IntKind.i64.wrap (t : Int) = t := wrap_nat (by omega)
  have hcv2 : (t : Int) % 256 = t := by omega
  have hr0 : IntKind.i64.wrap (k : Int) = k := wrap_nat (by omega)
  have hsub : IntKind.i64.wrap ((l.length : Int) - 1) = (l.length : Int) - 1 := by
    rw [show (l.length : Int) - 1 = ((l.length - 1 : Nat) : Int) by omega]
    have h2 : l.length ≤ 40 := h40
    exact wrap_nat (by omega)
  obtain ⟨b1, o1, rfl, hnq⟩ := na_of HX.out k hkl
  have hix := ixN b1 o1 l.length c k (k : Int) rfl hkl
  have hcut := cut_loN (some ⟨b1, o1, none⟩) l.length c k (by have := HLc.out; omega)
  have HXk : ∀ {w}, RowN w (some ⟨b1, o1, none⟩) l → RowN w (some ⟨b1, o1, none⟩) (l.take k) := fun h => h.take k
  obtain ⟨B, hB⟩ : ∃ B, B = backS l k hkl := ⟨_, rfl⟩
  have HBe : Hid (B = (l[k] :: l.take k) ++ (l.drop k).reverse) := hB
  have HBof : Hid (ofN B = ofN l) := by show _ = _; rw [hB]; exact back_of hkl
  have HBlen : Hid (B.length = l.length + 1) := by show _ = _; rw [hB]; exact back_len hkl
  have HBfit : Hid (∀ x ∈ B, fitN x) := fun x hx => by rw [hB] at hx; exact HF.out x ((back_mem hkl x).1 hx)
  have HSeq : Hid ((ofN l).2 = 0 → ∀ i (hi : i < B.length), putP (foldN (B.take i) []) B[i] = (foldN (B.take (i + 1)) [], 0) ∧ (∀ x ∈ foldN (B.take i) [], fitN x) ∧ fitN B[i]) := by subst hB; exact fun h i hi => ⟨back_seq h hkl i hi, back_fit h hkl i hi⟩
  have HEnd : Hid ((ofN l).2 = 0 → foldN B [] = (ofN l).1) := by subst hB; exact fun h => back_end h hkl
  have HNo : Hid ((ofN l).2 ≠ 0 → (ofN l).1 = []) := of_no
  have HRl := Lib.hid (of_len l)
  clear hB hk
  generalize ofN l = R at *
  obtain ⟨y, z⟩ := R
  simp only at HBof HSeq HEnd HNo HRl HOf
  obtain ⟨q, hq⟩ : ∃ q, q = l[k] := ⟨_, rfl⟩
  rw [← hq] at hnq HBe
  have HQ : Hid (Kq1 b1 (o1 + k * 6) q w) := hnq
  clear hq hnq
  go_enter Tryz.func7, Tryz.ntmps7
  go_wp2_with fail
  refine HOf.out.mono ?_
  rintro e w2 ⟨v, rfl, ho, hb⟩
  obtain ⟨a1, c1, rfl, hr1, -, -, -⟩ := ho.row
  replace HX := Lib.hid (HX.out.keep hb)
  replace HQ := Lib.hid (HQ.out.keep hb)
  have HB := Lib.hid hb
  have HY := Lib.hid hr1
  clear hb ho hr1 HOf
  go_wp2_with fail
  have hb := (Below.refl w2.heap.size w2).drew
  replace HX := Lib.hid (HX.out.keep hb)
  replace HQ := Lib.hid (HQ.out.keep hb)
  replace HY := Lib.hid (HY.out.keep hb)
  replace HB := bel_tr HB hb
  clear hb
  refine Sch.wp_region_tn (Kq1 b1 (o1 + k * 6) q) (.val 0 (.val 1 (.val 2 (.val 3 (.val 5 (.val 6 (.val 7 (.one 4 (.one 8 (.val 9 .done)))))))))) (by kernel_rfl) (by kernel_rfl) HQ.out ?_
  repeat (first
    | (refine Sch.tn_q rfl rfl rfl (fun K hK => ?_); go_big_quiet_op; (first | refine hK _ ?_ | refine ⟨_, fun _ _ => rfl, hK _ ?_⟩); clear hK K)
    | (refine Sch.tn_chk _ _ _ rfl rfl rfl rfl rfl ?_; simp only [Act.put, List.setIfInBounds_toArray, List.set_cons_zero, List.set_cons_succ])
    | (refine Sch.tn_load _ _ _ _ _ rfl rfl rfl rfl (by first | exact Kq1.l) rfl ?_; simp only [Act.put, List.setIfInBounds_toArray, List.set_cons_zero, List.set_cons_succ]))
  generalize w2.drew = w3 at *
  refine Sch.tn_e rfl rfl (fun K hK => ?_)
  go_wp2_with fail
  have hb4 := bel_box w3 (.cells (nc q) 35)
  have HO4 := Lib.hid (on_one w3 q)
  have HZ4 := Lib.hid hb4
  have HX4 := Lib.hid (HX.out.keep hb4)
  have HXk4 := Lib.hid (HXk HX4.out)
  have HQ4 := Lib.hid (HQ.out.keep hb4)
  clear hb4
  refine hK _ _ HQ4.out ?_
  clear hK K
  generalize (w3.alloc (.cells (nc q) 35)) = w4 at *
  refine Sch.tn_e rfl rfl (fun K hK => ?_)
  refine wp_appN _ _ _ rfl Tryz.underlying22 infoN (.slice (some ⟨w3.heap.size, 0, none⟩) 1 1) [q] rfl HO4.out (some ⟨b1, o1, none⟩) (l.take k) c k (by rw [List.length_take]; omega) rfl HXk4.out (fun h => by cases h) (by simp; omega) HZ4.out.size ?_
  intro v2 w5 ho hg5 _
  have hb5 := HZ4.out.grown hg5 HZ4.out.size (fun k hk => (HO4.out.lt k hk).1)
  have HO5 : Hid (ON w5 w3.heap.size E v2 ((q :: l.take k) ++ (l.drop l.length).reverse)) := by
    show ON _ _ _ _ _
    rw [List.drop_length, List.reverse_nil, List.append_nil]
    exact ho
  have HQ5 := Lib.hid (HQ.out.keep hb5)
  have HZ5 := Lib.hid hb5
  clear ho hg5 hb5 HO4 HX4 HXk4 HQ4 HZ4
  refine hK _ _ HQ5.out ?_
  clear hK K
  simp only [Act.put, List.setIfInBounds_toArray, List.set_cons_zero, List.set_cons_succ]
  repeat (first
    | (refine Sch.tn_q rfl rfl rfl (fun K hK => ?_); go_big_quiet_op; (first | refine hK _ ?_ | refine ⟨_, fun _ _ => rfl, hK _ ?_⟩); clear hK K)
    | (refine Sch.tn_chk _ _ _ rfl rfl rfl rfl rfl ?_; simp only [Act.put, List.setIfInBounds_toArray, List.set_cons_zero, List.set_cons_succ]))
  refine Sch.tn_n ?_
  clear hix hcut htm hmd hcv hcv2 hr0 HQ HQ5
  go_wp2_with fail
  go_loopw [8, 9] (fun v i wr => ∃ m : Nat, m ≤ l.length ∧ k ≤ m ∧ i = .int .i64 ((m : Int) - 1) ∧ Hid (Below w3.heap.size w3 wr) ∧ Hid (ON wr w3.heap.size E v ((q :: l.take k) ++ (l.drop m).reverse))) (fun _ i _ => (intOf i + 1).toNat)
  case atStart => exact ⟨l.length, Nat.le_refl _, by omega, by go_num, HZ5, HO5⟩
  case round =>
    clear HZ5 HO5
    obtain ⟨m, hml, hkm, rfl, HZ, HO⟩ := hrel
    by_cases hlt : k < m
    · obtain ⟨p, rfl⟩ : ∃ p, m = p + 1 := ⟨m - 1, by omega⟩
      have hpi : (((p + 1 : Nat) : Int)) - 1 = (p : Int) := by omega
      rw [hpi]
      have hpl : p < l.length := by omega
      have hkp : (k : Int) ≤ (p : Int) := by omega
      have hi0 : (p : Int) < (l.length : Int) := by omega
      have hpw : IntKind.i64.wrap ((p : Int) - 1) = (p : Int) - 1 := by
        simp only [IntKind.wrap, IntKind.bits, IntKind.signed]
        simp
        omega
      have HSt : Hid ((q :: l.take k) ++ (l.drop p).reverse = ((q :: l.take k) ++ (l.drop (p + 1)).reverse) ++ [l[p]]) := by
        show _ = _
        rw [back_step hpl, List.append_assoc]
      have HLn : Hid (((q :: l.take k) ++ (l.drop (p + 1)).reverse).length ≤ 100) := by
        show _ ≤ _
        simp only [List.length_append, List.length_cons, List.length_take, List.length_reverse, List.length_drop]
        omega
      obtain ⟨b2, o2, e2, hnp⟩ := na_of (HX.out.keep HZ.out) p hpl
      cases e2
      have hix2 := ixN b1 o1 l.length c p (p : Int) rfl hpl
      obtain ⟨s, hs⟩ : ∃ s, s = l[p] := ⟨_, rfl⟩
      rw [← hs] at hnp HSt
      clear hs
      generalize hL : (q :: l.take k) ++ (l.drop (p + 1)).reverse = L at *
      generalize hL2 : (q :: l.take k) ++ (l.drop p).reverse = L2 at *
      clear hL
      obtain ⟨n0, n1, n2, n3, n4, n5⟩ := hnp
      have hb2 := bel_box wr (.cells (nc s) 35)
      have HO2 := Lib.hid (HO.out.below hb2)
      have HZ2 := bel_tr HZ hb2
      have HLt : Hid (RowN (wr.alloc (.cells (nc s) 35)) (some ⟨wr.heap.size, 0, none⟩) [s]) := RowN.lit wr [s] _ _ _ rfl
      clear hb2
      go_wp2_with (at_builtin; refine wpList_appN rfl _ _ _ rfl Tryz.underlying22 infoN _ _ rfl HO2.out (some ⟨wr.heap.size, 0, none⟩) [s] 1 1 rfl rfl HLt.out (fun h => by cases h) (by have := HLn.out; simp only [List.length_cons, List.length_nil]; omega) HZ2.out.size ?_)
      intro v7 w7 ho hg7 _
      have HO7 : Hid (ON w7 w3.heap.size E v7 L2) := by show ON _ _ _ _ _; rw [HSt.out]; exact ho
      have HZ7 := Lib.hid (HZ2.out.grown hg7 HZ2.out.size (fun x hx => (HO2.out.lt x hx).1))
      clear ho hg7 n0 n1 n2 n3 n4 n5
      go_wp2_with fail
      go_roundw
      case rel => exact ⟨p, by omega, by omega, by go_num, HZ7, by rw [hL2]; exact HO7⟩
      case measure => simp [intOf] <;> omega
    · obtain rfl : m = k := by omega
      have hend : ¬ (m : Int) ≤ (m : Int) - 1 := by omega
      rw [← HBe.out] at HO
      clear HBe
      obtain ⟨a2, c2, rfl, hr2, hn2, -, -⟩ := HO.out.row
      have HW := Lib.hid hr2
      have HNa2 : Hid (a2 = none → c2 = 0) := fun h => (hn2 h).1
      have HLb : Hid (B.length ≤ 41) := by have := HBlen.out; show _ ≤ _; omega
      have HOf2 := Lib.hid (of_prog B a2 c2 wr HBfit.out HW.out (by have := HLb.out; omega))
      rw [HBof.out] at HOf2
      replace HB : Hid (Below w.heap.size w wr) := HB.out.trans (HZ.out.mono HB.out.size)
      replace HY := Lib.hid (HY.out.keep HZ.out)
      clear hr2 hn2 HO HZ HBof HBfit HBlen HX
      go_wp2_with fail
      refine HOf2.out.mono ?_
      rintro e w7 ⟨v7, rfl, ho, hb⟩
      obtain ⟨a3, c3, rfl, hr3, -, -, -⟩ := ho.row
      replace HB := bel_tr HB hb
      replace HY := Lib.hid (HY.out.keep hb)
      replace HW := Lib.hid (HW.out.keep hb)
      have HY2 := Lib.hid hr3
      clear ho hb hr3 HOf2
      by_cases hz : z = 0
      · subst hz
        replace HSeq := Lib.hid (HSeq.out rfl)
        replace HEnd := Lib.hid (HEnd.out rfl)
        go_wp2_with fail
        have HZ := Lib.hid (Below.refl w7.heap.size w7)
        go_loopw [12, 14, 15, 16, 97] (fun zv _ _ _ i wr => ∃ j : Nat, j ≤ B.length ∧ i = .int .i64 (j : Int) ∧ ∃ az cz, zv = .slice az (foldN (B.take j) []).length cz ∧ Hid (RowN wr az (foldN (B.take j) [])) ∧ Hid (az = none → cz = 0) ∧ Hid (Below w7.heap.size w7 wr)) (fun _ _ _ _ i _ => B.length - (intOf i).toNat)
        case atStart => exact ⟨0, Nat.zero_le _, rfl, none, 0, rfl, RowN.nil _ _, fun _ => rfl, HZ⟩
        case round =>
          clear HZ
          obtain ⟨j, hj, rfl, az, cz, rfl, HZr, HZn, HZ⟩ := hrel
          have hlb : (B.length : Int) ≤ 41 := by have := HLb.out; omega
          by_cases hlt : j < B.length
          · have hi0 : (j : Int) < (B.length : Int) := by omega
            obtain ⟨b2, o2, rfl, hnp⟩ := na_of (HW.out.keep HZ.out) j hlt
            have HSj := Lib.hid (HSeq.out j hlt)
            have HFl : Hid ((foldN (B.take j) []).length ≤ 1000) := by have h1 := fold_len B j; have h2 := HLb.out; show _ ≤ _; omega
            obtain ⟨s, hs⟩ : ∃ s, s = B[j] := ⟨_, rfl⟩
            rw [← hs] at hnp HSj
            clear hs
            have hb2 := bel_box wr (.cells (nc s) 35)
            have HZ2 := bel_tr HZ hb2
            have HZr2 := Lib.hid (HZr.out.keep hb2)
            clear hb2
            obtain ⟨n0, n1, n2, n3, n4, n5⟩ := hnp
            generalize foldN (B.take j) [] = F at *
            generalize hF2 : foldN (B.take (j + 1)) [] = F2 at *
            have HC := Lib.hid (put_prog F s az cz _ HSj.out.2.1 HSj.out.2.2 HZr2.out HZn.out (by have := HFl.out; omega))
            rw [HSj.out.1] at HC
            go_wp2_with fail
            refine HC.out.mono ?_
            rintro e w9 ⟨v9, rfl, ho, hb⟩
            obtain ⟨a4, c4, rfl, hr4, hn4, -, -⟩ := ho.row
            have HZ9 := bel_tr HZ2 hb
            have HR9 := Lib.hid hr4
            have HN9 : Hid (a4 = none → c4 = 0) := fun h => (hn4 h).1
            clear ho hb hr4 hn4 HC n0 n1 n2 n3 n4 n5
            go_wp2_with fail
            go_roundw
            case rel => exact ⟨j + 1, by omega, by go_num, a4, c4, by rw [hF2], by rw [hF2]; exact HR9, HN9, HZ9⟩
            case measure => simp [intOf]; omega
          · obtain rfl : j = B.length := by omega
            have hend : ¬ (B.length : Int) < (B.length : Int) := by omega
            rw [List.take_length, HEnd.out] at *
            replace HB : Hid (Below w.heap.size w wr) := HB.out.trans (HZ.out.mono HB.out.size)
            replace HY := Lib.hid (HY.out.keep HZ.out)
            replace HY2 := Lib.hid (HY2.out.keep HZ.out)
            have HLy : Hid (y.length ≤ 100) := by have := HRl.out; show _ ≤ _; omega
            have HC := Lib.hid (equal_ref y y a1 a3 c1 c3 wr HY.out HY2.out (by have := HLy.out; omega) (by have := HLy.out; omega))
            rw [decide_eq_true rfl] at HC
            clear HZ HSeq HEnd HW
            go_wp2_with fail
            refine HC.out.mono ?_
            rintro e w11 ⟨rfl, hb⟩
            replace HB := bel_tr HB hb
            replace HY := Lib.hid (HY.out.keep hb)
            replace HZr := Lib.hid (HZr.out.keep hb)
            clear hb HC
            have HC := Lib.hid (equal_ref y y a1 az c1 cz w11 HY.out HZr.out (by have := HLy.out; omega) (by have := HLy.out; omega))
            rw [decide_eq_true rfl] at HC
            go_wp2_with fail
            refine HC.out.mono ?_
            rintro e w12 ⟨rfl, hb⟩
            replace HB := bel_tr HB hb
            clear hb HC
            go_wp2_with fail
            refine (known_any _).mono ?_
            rintro e w903 ⟨rfl, hb⟩
            replace HB := bel_tr HB hb
            clear hb
            go_wp2_with fail
            go_ret
            exact ⟨rfl, HB.out⟩
      · have hzd : decide (z = 0) = false := decide_eq_false hz
        obtain rfl := HNo.out hz
        go_wp2_with fail
        refine (known_any _).mono ?_
        rintro e w904 ⟨rfl, hb⟩
        replace HB := bel_tr HB hb
        clear hb
        go_wp2_with fail
        go_ret
        exact ⟨rfl, HB.out⟩
end Go.Proofs.YtfpfihmihlmobaaGreat.Qs
