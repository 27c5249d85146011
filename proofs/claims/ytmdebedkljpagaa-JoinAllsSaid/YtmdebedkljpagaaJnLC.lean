/-
  The law JoinAlls.
-/
import Derived.Test.YtmdebedkljpagaaJnLH
namespace Go.Proofs.Ytmdebedkljpagaa.Jn
set_option linter.unusedVariables false
open Go.RowKit V Go.Sort D Nd Qs
attribute [local irreducible] Sch.heldN Sch.stepV Sch.stepE

/-- Two slices of states. -/
def L2 (b1 o1 b2 o2 : Nat) (u v : Value) (w : World) : Prop := w.cell? ⟨b1, o1, none⟩ = some u ∧ w.cell? ⟨b2, o2, none⟩ = some v
section
variable {b1 o1 b2 o2 : Nat} {u v : Value}
theorem L2.keep {w w' : World} (h : L2 b1 o1 b2 o2 u v w) (hb : Below w.heap.size w w') : L2 b1 o1 b2 o2 u v w' := ⟨(hb.cell (p := ⟨b1, o1, none⟩) (lt_of_cell h.1)).trans h.1, (hb.cell (p := ⟨b2, o2, none⟩) (lt_of_cell h.2)).trans h.2⟩
theorem L2.l1 : ∀ w, L2 b1 o1 b2 o2 u v w → (Instr.loadAt 23 (.pointer (some ⟨b1, o1, none⟩))).run Try.prog w = .ok u w := fun w h => by
  have h0 := h.1
  go_simp
theorem L2.l2 : ∀ w, L2 b1 o1 b2 o2 u v w → (Instr.loadAt 23 (.pointer (some ⟨b2, o2, none⟩))).run Try.prog w = .ok v w := fun w h => by
  have h0 := h.2
  go_simp
end
/-- The first states. -/
def ls (S : List S3) (k : Nat) : List (List Nt) := (S.take k).map (·.1)
theorem ls_snoc {S : List S3} {k : Nat} (hk : k < S.length) : ls S (k + 1) = ls S k ++ [S[k].1] := by
  unfold ls
  rw [List.take_succ_eq_append_getElem hk, List.map_append]
  rfl
theorem ls_all (S : List S3) : ls S S.length = S.map (·.1) := by unfold ls; rw [List.take_length]
theorem ls_ags {S : List S3} {k : Nat} (hk : k < S.length) (hv : (S.map (·.1)).all validS = true) : agsS (ls S (k + 1)) = (agsS (ls S k) && (ls S k).all fun a => agS S[k].1 a) := by
  rw [ls_snoc hk, ags_snoc]
  rw [← ls_snoc hk, List.all_eq_true]
  intro x hx
  unfold ls at hx
  rw [List.all_eq_true] at hv
  obtain ⟨y, hy, rfl⟩ := List.mem_map.1 hx
  exact hv _ (List.mem_map.2 ⟨y, List.mem_of_mem_take hy, rfl⟩)
theorem ls_join {S : List S3} {k : Nat} (hk : k < S.length) : (ls S (k + 1)).foldl joinR [] = joinR ((ls S k).foldl joinR []) S[k].1 := by
  rw [ls_snoc hk, List.foldl_append]
  rfl
theorem ls_len {S : List S3} (h : ∀ j (hj : j < S.length), S[j].1.length ≤ 30) : ∀ k, k ≤ S.length → ((ls S k).foldl joinR []).length ≤ 30 * k ∧ (catS (S.take k)).length ≤ 30 * k
  | 0, _ => ⟨Nat.le_refl _, by simp [catS]⟩
  | k + 1, hk => by
    obtain ⟨h1, h2⟩ := ls_len h k (by omega)
    have h3 := h k (by omega)
    have h4 := joinR_len S[k].1 ((ls S k).foldl joinR [])
    rw [ls_join (by omega), cat_take (by omega), List.length_append]
    omega
set_option maxRecDepth 100000 in
set_option maxHeartbeats 8000000 in
theorem alls_law (S : List S3) (a : Option Addr) (c : Nat) (w : World) (hS : RowL w a S) (hA : AllL w S) (hf : ∀ x ∈ catS S, fitN x) :
    Calls Try.prog 5 #[.slice a S.length c] w fun e w' => e = .returned (.bool true) ∧ Below w.heap.size w w' := by
  by_cases hbig : 6 < S.length
  · have hg : (6 : Int) < (S.length : Int) := by omega
    have HB := Lib.hid (Below.refl w.heap.size w)
    clear hS hA hf hbig
    go_enter Try.func5, Try.ntmps5
    go_wp2_with fail
    refine (known_any _).mono ?_
    rintro e w99 ⟨rfl, hb⟩
    replace HB := bel_tr HB hb
    clear hb
    go_wp2_with fail
    go_ret
    exact ⟨rfl, HB.out⟩
  have hs6 : S.length ≤ 6 := by omega
  have hg : ¬ (6 : Int) < (S.length : Int) := by omega
  have hg6 : (S.length : Int) ≤ 6 := by omega
  have HS := Lib.hid hS
  have HA := Lib.hid hA
  have HF := Lib.hid hf
  have HL6 := Lib.hid hs6
  clear hS hA hf hbig hs6
  go_enter Try.func5, Try.ntmps5
  go_wp2_with fail
  go_loopw [3, 6] (fun st i wr => ∃ (k : Nat) (t : Bool), k ≤ S.length ∧ i = .int .i64 (k : Int) ∧ st = .bool t ∧ Hid (t = (ls S k).all validS) ∧ Hid (Below w.heap.size w wr) ∧ Hid (∀ j (hj : j < S.length), j < k → S[j].1.length ≤ 30)) (fun _ i _ => S.length - (intOf i).toNat)
  case atStart => exact ⟨0, true, Nat.zero_le _, rfl, rfl, rfl, Below.refl _ _, fun j _ h => by omega⟩
  case round =>
    obtain ⟨k, t, hk, rfl, rfl, HT, HB, HL⟩ := hrel
    by_cases hlt : k < S.length
    · have hi0 : (k : Int) < (S.length : Int) := by omega
      obtain ⟨b1, o1, rfl, hc⟩ := (HS.out.keep HB.out).get k hlt
      have hix := ixL b1 o1 S.length c k (k : Int) rfl hlt
      have HP := Lib.hid ((HA.out S[k] (List.getElem_mem hlt)).keep HB.out)
      have HTn : Hid ((ls S (k + 1)).all validS = ((ls S k).all validS && validS S[k].1)) := by
        show _ = _
        rw [ls_snoc hlt, List.all_append]
        simp
      have HLk : Hid (S[k].1.length ≤ 30 → ∀ j (hj : j < S.length), j < k + 1 → S[j].1.length ≤ 30) := fun h j hj hjk => by
        by_cases e : j = k
        · subst e; exact h
        · exact HL.out j hj (by omega)
      obtain ⟨p, hp⟩ : ∃ p, p = S[k] := ⟨_, rfl⟩
      rw [← hp] at hc HP HTn HLk
      clear hp
      rw [← HT.out] at HTn
      obtain ⟨pl, pa, pc⟩ := p
      simp only at hc HP HTn HLk
      by_cases hb30 : 30 < pl.length
      · have hb3 : (30 : Int) < (pl.length : Int) := by omega
        clear HP HTn HLk HL HT hb30
        go_wp2_with fail
        refine (known_any _).mono ?_
        rintro e w99 ⟨rfl, hb⟩
        replace HB := bel_tr HB hb
        clear hb
        go_wp2_with fail
        go_ret
        exact ⟨rfl, HB.out⟩
      · have hb3 : ¬ (30 : Int) < (pl.length : Int) := by omega
        have HLn := Lib.hid (HLk.out (by omega))
        have HSr := Lib.hid (store_ref pl pa pc wr HP.out.r (by omega))
        obtain ⟨q, hq⟩ : ∃ q, q = validS pl := ⟨_, rfl⟩
        rw [← hq] at HTn HSr
        clear hq HLk HL HT hb30
        rcases t with _ | _
        · go_wp2_with fail
          go_roundw
          case rel => exact ⟨k + 1, false, by omega, by go_num, rfl, by rw [HTn.out]; rfl, HB, HLn⟩
          case measure => simp [intOf]; omega
        · go_wp2_with fail
          refine HSr.out.mono ?_
          rintro e w2 ⟨rfl, hb⟩
          have HB2 := bel_tr HB hb
          clear hb HSr
          go_wp2_with fail
          go_roundw
          case rel => exact ⟨k + 1, q, by omega, by go_num, rfl, by rw [HTn.out]; rfl, HB2, HLn⟩
          case measure => simp [intOf]; omega
    · obtain rfl : S.length = k := by omega
      have hend : ¬ (S.length : Int) < (S.length : Int) := by omega
      have HL30 : Hid (∀ j (hj : j < S.length), S[j].1.length ≤ 30) := fun j hj => HL.out j hj hj
      have HLs : Hid (∀ k, k ≤ S.length → ((ls S k).foldl joinR []).length ≤ 180 ∧ (catS S).length ≤ 180) := fun k hk => by
        have h1 := ls_len HL30.out k hk
        have h2 := (ls_len HL30.out S.length (Nat.le_refl _)).2
        rw [List.take_length] at h2
        have := HL6.out
        omega
      rw [ls_all] at HT
      have HAt := Lib.hid (fun Z q h w z cz h1 h2 h3 h4 => alls_true S Z q h a c w z cz h1 h2 (by have := HL6.out; omega) (by have := (HLs.out 0 (Nat.zero_le _)).2; omega) HF.out h3 h4)
      clear HL hk hlt
      rcases t with _ | _
      · have hv : (S.map (·.1)).all validS = false := HT.out.symm
        have HE : Hid (allS (S.map (·.1)) = ([], 2)) := by show _ = _; unfold allS; rw [if_neg (by rw [hv]; simp)]
        have HSr := Lib.hid (HS.out.keep HB.out)
        have HAr := Lib.hid (HA.out.keep HB.out)
        have hpos : (0 : Int) < (S.length : Int) := by
          rcases S with _ | ⟨p, S⟩
          · simp at hv
          · simp <;> omega
        clear hv HT
        go_wp2_with fail
        go_loopw [4, 5, 7, 8] (fun _ _ i _ wr => i = .int .i64 0 ∧ Hid (Below w.heap.size w wr)) (fun _ _ _ _ _ => 0)
        case atStart => exact ⟨rfl, HB⟩
        case round =>
          clear HB HSr HAr
          obtain ⟨rfl, HB⟩ := hrel
          have HSr := Lib.hid (HS.out.keep HB.out)
          have HAr := Lib.hid (HA.out.keep HB.out)
          go_wp2_with fail
          refine (HAt.out [] 2 HE.out _ none 0 HSr.out HAr.out (RowN.nil _ _) (by simp)).mono ?_
          rintro e w98 ⟨rfl, hb⟩
          replace HB := bel_tr HB hb
          clear hb
          go_wp2_with fail
          refine (known_any _).mono ?_
          rintro e w99 ⟨rfl, hb⟩
          replace HB := bel_tr HB hb
          clear hb
          go_wp2_with fail
          go_ret
          exact ⟨rfl, HB.out⟩
      · have hv : (S.map (·.1)).all validS = true := HT.out.symm
        have HV := Lib.hid hv
        clear hv HT
        go_wp2_with fail
        go_loopw [4, 5, 7, 8] (fun g v i _ wr => ∃ (k : Nat) (t : Bool), k ≤ S.length ∧ i = .int .i64 (k : Int) ∧ g = .bool t ∧ Hid (t = agsS (ls S k)) ∧ Hid (Below w.heap.size w wr) ∧ Hid (ON wr w.heap.size 44 v ((ls S k).foldl joinR []))) (fun _ _ i _ _ => S.length - (intOf i).toNat)
        case atStart => exact ⟨0, true, Nat.zero_le _, rfl, rfl, rfl, HB, ON.nil _ _ _⟩
        case round =>
          clear HB
          obtain ⟨k, t, hk, rfl, rfl, HT, HB, HO⟩ := hrel
          by_cases hlt : k < S.length
          · have hi0 : (k : Int) < (S.length : Int) := by omega
            have HTn := Lib.hid (ls_ags hlt HV.out)
            have HJn := Lib.hid (ls_join hlt)
            obtain ⟨b1, o1, rfl, -⟩ := (HS.out.keep HB.out).get k hlt
            have hix := ixL b1 o1 S.length c k (k : Int) rfl hlt
            have HCk : Hid (∀ wx, Below w.heap.size w wx → wx.cell? ⟨b1, o1 + k, none⟩ = some (.slice S[k].2.1 S[k].1.length S[k].2.2)) := fun wx hb => by
              obtain ⟨b2, o2, e, h⟩ := (HS.out.keep hb).get k hlt
              cases e
              exact h
            have HPk := Lib.hid (HA.out S[k] (List.getElem_mem hlt))
            have HLk := Lib.hid (HL30.out k hlt)
            have HCj : Hid (∀ j (hj : j < S.length) wx, Below w.heap.size w wx → wx.cell? ⟨b1, o1 + j, none⟩ = some (.slice S[j].2.1 S[j].1.length S[j].2.2)) := fun j hj wx hb => by
              obtain ⟨b2, o2, e, h⟩ := (HS.out.keep hb).get j hj
              cases e
              exact h
            have HJl := Lib.hid (HLs.out k hk).1
            obtain ⟨p, hp⟩ : ∃ p, p = S[k] := ⟨_, rfl⟩
            rw [← hp] at HTn HJn HCk HPk HLk
            clear hp
            obtain ⟨pl, pa, pc⟩ := p
            simp only at HTn HJn HCk HPk HLk
            rw [← HT.out] at HTn
            generalize hJ : (ls S k).foldl joinR [] = J at *
            clear hJ
            obtain ⟨wo, hwo⟩ : ∃ x, x = wr := ⟨_, rfl⟩
            subst hwo
            go_wp2_with fail
            go_loopw [4, 8] (fun g kk wr2 => ∃ (j : Nat) (t2 : Bool), j ≤ k ∧ kk = .int .i64 (j : Int) ∧ g = .bool t2 ∧ Hid (t2 = (t && (ls S j).all fun a => agS pl a)) ∧ Hid (Below wo.heap.size wo wr2)) (fun _ kk _ => k - (intOf kk).toNat)
            case atStart => exact ⟨0, t, Nat.zero_le _, rfl, rfl, by show _ = _; rw [show ls S 0 = [] from rfl, List.all_nil, Bool.and_true], Below.refl _ _⟩
            case round =>
              obtain ⟨j, t2, hjk, rfl, rfl, HT2, hh⟩ := hrel
              by_cases hjt : j < k
              · have hj0 : (j : Int) < (k : Int) := by omega
                have hjS : j < S.length := by omega
                have hix2 := ixL b1 o1 S.length c j (j : Int) rfl hjS
                have HB2 := bel_tr HB hh.out
                have HTj : Hid ((t && (ls S (j + 1)).all fun a => agS pl a) = ((t && (ls S j).all fun a => agS pl a) && agS pl S[j].1)) := by
                  show _ = _
                  rw [ls_snoc hjS, List.all_append, Bool.and_assoc]
                  simp
                have HCjj := Lib.hid (HCj.out j hjS)
                have HPj := Lib.hid (HA.out S[j] (List.getElem_mem hjS))
                have HLj := Lib.hid (HL30.out j hjS)
                obtain ⟨r, hr⟩ : ∃ r, r = S[j] := ⟨_, rfl⟩
                rw [← hr] at HTj HCjj HPj HLj
                clear hr
                rw [← HT2.out] at HTj
                obtain ⟨rl, ra, rc⟩ := r
                simp only at HTj HCjj HPj HLj
                have hd := (Below.refl wr.heap.size wr).drew
                have HK : Hid (L2 b1 (o1 + k) b1 (o1 + j) (.slice pa pl.length pc) (.slice ra rl.length rc) wr.drew) := ⟨HCk.out _ (HB2.out.drew), HCjj.out _ HB2.out.drew⟩
                have HB3 := bel_tr HB2 hd
                have hh3 := bel_tr hh hd
                have HAg := Lib.hid (fun w h1 h2 => agree_ref pl rl pa ra pc rc w h1 h2 (by have := HLk.out; omega) (by have := HLj.out; omega))
                obtain ⟨ag, hag⟩ : ∃ ag, ag = agS pl rl := ⟨_, rfl⟩
                rw [← hag] at HTj HAg
                clear hag hd hh HB2
                rcases t2 with _ | _
                · go_wp2_with fail
                  refine Sch.wp_region_tn (L2 b1 (o1 + k) b1 (o1 + j) (.slice pa pl.length pc) (.slice ra rl.length rc)) (.val 0 (.val 1 (.val 2 (.val 3 (.val 4 (.val 5 (.val 6 (.val 7 (.val 8 (.val 9 (.one 10 (.val 11 (.val 12 .done))))))))))))) (by kernel_rfl) (by kernel_rfl) HK.out ?_
                  repeat (first
                    | (refine Sch.tn_q rfl rfl rfl (fun K hK => ?_); go_big_quiet_op; (first | refine hK _ ?_ | refine ⟨_, fun _ _ => rfl, hK _ ?_⟩); clear hK K)
                    | (refine Sch.tn_chk _ _ _ rfl rfl rfl rfl rfl ?_; simp only [Act.put, List.setIfInBounds_toArray, List.set_cons_zero, List.set_cons_succ])
                    | (refine Sch.tn_load _ _ _ _ _ rfl rfl rfl rfl (by first | exact L2.l1 | exact L2.l2) rfl ?_; simp only [Act.put, List.setIfInBounds_toArray, List.set_cons_zero, List.set_cons_succ]))
                  repeat (first
                    | (refine Sch.tn_q rfl rfl rfl (fun K hK => ?_); go_big_quiet_op; (first | refine hK _ ?_ | refine ⟨_, fun _ _ => rfl, hK _ ?_⟩); clear hK K)
                    | (refine Sch.tn_chk _ _ _ rfl rfl rfl rfl rfl ?_; simp only [Act.put, List.setIfInBounds_toArray, List.set_cons_zero, List.set_cons_succ])
                    | (refine Sch.tn_load _ _ _ _ _ rfl rfl rfl rfl (by first | exact L2.l1 | exact L2.l2) rfl ?_; simp only [Act.put, List.setIfInBounds_toArray, List.set_cons_zero, List.set_cons_succ])
                    | (refine Sch.tn_s _ rfl rfl rfl ?_; simp only [Act.put, List.setIfInBounds_toArray, List.set_cons_zero, List.set_cons_succ])
                    | (refine Sch.tn_se _ rfl rfl rfl ?_; simp only [Act.put, List.setIfInBounds_toArray, List.set_cons_zero, List.set_cons_succ]))
                  refine Sch.tn_n ?_
                  go_wp2_with fail
                  go_roundw
                  case rel => exact ⟨j + 1, false, by omega, by go_num, rfl, by rw [HTj.out]; rfl, hh3⟩
                  case measure => simp [intOf]; omega
                · go_wp2_with fail
                  refine Sch.wp_region_tn (L2 b1 (o1 + k) b1 (o1 + j) (.slice pa pl.length pc) (.slice ra rl.length rc)) (.val 0 (.val 1 (.val 2 (.val 3 (.val 4 (.val 5 (.val 6 (.val 7 (.val 8 (.val 9 (.one 10 (.val 11 (.val 12 .done))))))))))))) (by kernel_rfl) (by kernel_rfl) HK.out ?_
                  repeat (first
                    | (refine Sch.tn_q rfl rfl rfl (fun K hK => ?_); go_big_quiet_op; (first | refine hK _ ?_ | refine ⟨_, fun _ _ => rfl, hK _ ?_⟩); clear hK K)
                    | (refine Sch.tn_chk _ _ _ rfl rfl rfl rfl rfl ?_; simp only [Act.put, List.setIfInBounds_toArray, List.set_cons_zero, List.set_cons_succ])
                    | (refine Sch.tn_load _ _ _ _ _ rfl rfl rfl rfl (by first | exact L2.l1 | exact L2.l2) rfl ?_; simp only [Act.put, List.setIfInBounds_toArray, List.set_cons_zero, List.set_cons_succ]))
                  repeat (first
                    | (refine Sch.tn_q rfl rfl rfl (fun K hK => ?_); go_big_quiet_op; (first | refine hK _ ?_ | refine ⟨_, fun _ _ => rfl, hK _ ?_⟩); clear hK K)
                    | (refine Sch.tn_chk _ _ _ rfl rfl rfl rfl rfl ?_; simp only [Act.put, List.setIfInBounds_toArray, List.set_cons_zero, List.set_cons_succ])
                    | (refine Sch.tn_load _ _ _ _ _ rfl rfl rfl rfl (by first | exact L2.l1 | exact L2.l2) rfl ?_; simp only [Act.put, List.setIfInBounds_toArray, List.set_cons_zero, List.set_cons_succ])
                    | (refine Sch.tn_s _ rfl rfl rfl ?_; simp only [Act.put, List.setIfInBounds_toArray, List.set_cons_zero, List.set_cons_succ])
                    | (refine Sch.tn_se _ rfl rfl rfl ?_; simp only [Act.put, List.setIfInBounds_toArray, List.set_cons_zero, List.set_cons_succ]))
                  generalize wr.drew = w3 at *
                  refine Sch.tn_e rfl rfl (fun K hK => ?_)
                  go_wp2_with fail
                  refine (HAg.out _ (HPk.out.keep HB3.out).r (HPj.out.keep HB3.out).r).mono ?_
                  rintro e w4 ⟨rfl, hb⟩
                  have HK4 := Lib.hid (HK.out.keep hb)
                  have hh4 := bel_tr hh3 hb
                  clear hb HAg HK HB3 hh3
                  refine hK _ _ HK4.out ?_
                  clear hK K
                  repeat (first
                    | (refine Sch.tn_q rfl rfl rfl (fun K hK => ?_); go_big_quiet_op; (first | refine hK _ ?_ | refine ⟨_, fun _ _ => rfl, hK _ ?_⟩); clear hK K)
                    | (refine Sch.tn_chk _ _ _ rfl rfl rfl rfl rfl ?_; simp only [Act.put, List.setIfInBounds_toArray, List.set_cons_zero, List.set_cons_succ])
                    | (refine Sch.tn_load _ _ _ _ _ rfl rfl rfl rfl (by first | exact L2.l1 | exact L2.l2) rfl ?_; simp only [Act.put, List.setIfInBounds_toArray, List.set_cons_zero, List.set_cons_succ])
                    | (refine Sch.tn_s _ rfl rfl rfl ?_; simp only [Act.put, List.setIfInBounds_toArray, List.set_cons_zero, List.set_cons_succ])
                    | (refine Sch.tn_se _ rfl rfl rfl ?_; simp only [Act.put, List.setIfInBounds_toArray, List.set_cons_zero, List.set_cons_succ]))
                  refine Sch.tn_n ?_
                  go_wp2_with fail
                  go_roundw
                  case rel => exact ⟨j + 1, ag, by omega, by go_num, rfl, by rw [HTj.out]; rfl, hh4⟩
                  case measure => simp [intOf]; omega
              · obtain rfl : k = j := by omega
                have hjend : ¬ (k : Int) < (k : Int) := by omega
                have HB2 := bel_tr HB hh.out
                have HO2 := Lib.hid (HO.out.below hh.out)
                have hc := HCk.out _ HB2.out
                obtain ⟨aJ, cJ, rfl, hsJ⟩ := on_sl HO2.out
                have HSj := Lib.hid hsJ
                have HPr := Lib.hid (HPk.out.keep HB2.out)
                have HJr := Lib.hid (fun w h1 h2 h3 => join_ref J pl aJ pa cJ pc w h1 h2 h3 (by have := HJl.out; omega) (by have := HLk.out; omega))
                rw [← HT2.out] at HTn
                clear hsJ HCj HCk HAt HT HT2
                go_wp2_with fail
                refine (HJr.out _ HSj.out.r HSj.out.z HPr.out.r).mono ?_
                rintro e w5 ⟨v5, rfl, ho, hb⟩
                rw [← HJn.out] at ho
                have HB5 := bel_tr HB2 hb
                have HO5 := Lib.hid (ho.mono fun x hx => Nat.le_trans HB2.out.size (ho.lt x hx).1)
                clear ho hb
                go_wp2_with fail
                go_roundw
                case rel => exact ⟨k + 1, t2, by omega, by go_num, rfl, HTn.out.symm, HB5, HO5⟩
                case measure => simp [intOf]; omega
          · obtain rfl : S.length = k := by omega
            have hend2 : ¬ (S.length : Int) < (S.length : Int) := by omega
            have HJl := Lib.hid (HLs.out S.length hk).1
            rw [ls_all] at HT HO HJl
            rcases t with _ | _
            · have HE := Lib.hid (alls_no HV.out HT.out.symm)
              have HSr := Lib.hid (HS.out.keep HB.out)
              have HAr := Lib.hid (HA.out.keep HB.out)
              clear HO HT
              go_wp2_with fail
              refine (HAt.out [] 15 HE.out _ none 0 HSr.out HAr.out (RowN.nil _ _) (by simp)).mono ?_
              rintro e w98 ⟨rfl, hb⟩
              replace HB := bel_tr HB hb
              clear hb
              go_wp2_with fail
              refine (known_any _).mono ?_
              rintro e w99 ⟨rfl, hb⟩
              replace HB := bel_tr HB hb
              clear hb
              go_wp2_with fail
              go_ret
              exact ⟨rfl, HB.out⟩
            · have HE := Lib.hid (alls_yes HV.out HT.out.symm)
              have HPt : Hid (∀ j (hj : j < S.length), inP S[j].1 (joinsL (S.map (·.1))) = (true, 0)) := fun j hj => by
                have hm : S[j].1 ∈ S.map (·.1) := List.mem_map.2 ⟨S[j], List.getElem_mem hj, rfl⟩
                have h1 := alls_part HV.out HT.out.symm hm
                have h2 := joinP_yes (List.all_eq_true.1 HV.out _ hm) HE.out.2 h1.1
                rw [h2.2.2, h1.2, decide_eq_true rfl]
              have HR := Lib.hid (joinsR_eq HV.out HT.out.symm)
              rw [HR.out] at HO HJl
              have HEa := Lib.hid HE.out.1
              clear HT HE HR
              generalize joinsL (S.map (·.1)) = J at *
              obtain ⟨aJ, cJ, rfl, hsJ⟩ := on_sl HO.out
              have HSj := Lib.hid hsJ
              clear hsJ HO
              obtain ⟨wo, hwo⟩ : ∃ x, x = wr := ⟨_, rfl⟩
              subst hwo
              have HZ := Lib.hid (Below.refl wo.heap.size wo)
              go_wp2_with fail
              go_loopw [9] (fun i wr3 => ∃ k : Nat, k ≤ S.length ∧ i = .int .i64 (k : Int) ∧ Hid (Below wo.heap.size wo wr3)) (fun i _ => S.length - (intOf i).toNat)
              case atStart => exact ⟨0, Nat.zero_le _, rfl, HZ⟩
              case round =>
                clear HZ
                obtain ⟨k, hk3, rfl, hh⟩ := hrel
                have HB2 := bel_tr HB hh.out
                have HSj2 := Lib.hid (HSj.out.keep hh.out)
                by_cases hlt3 : k < S.length
                · have hi3 : (k : Int) < (S.length : Int) := by omega
                  obtain ⟨b1, o1, rfl, hc⟩ := (HS.out.keep HB2.out).get k hlt3
                  have hix := ixL b1 o1 S.length c k (k : Int) rfl hlt3
                  have HPk := Lib.hid ((HA.out S[k] (List.getElem_mem hlt3)).keep HB2.out)
                  have HLk := Lib.hid (HL30.out k hlt3)
                  have HIn := Lib.hid (HPt.out k hlt3)
                  obtain ⟨p, hp⟩ : ∃ p, p = S[k] := ⟨_, rfl⟩
                  rw [← hp] at hc HPk HLk HIn
                  clear hp
                  obtain ⟨pl, pa, pc⟩ := p
                  simp only at hc HPk HLk HIn
                  have HWt := Lib.hid (within_true pl J true 0 HIn.out pa aJ pc cJ wr HPk.out HSj2.out (by have := HLk.out; omega) (by have := HJl.out; omega))
                  go_wp2_with fail
                  refine HWt.out.mono ?_
                  rintro e w5 ⟨rfl, hb⟩
                  have hh5 := bel_tr hh hb
                  clear hb HWt
                  go_wp2_with fail
                  go_roundw
                  case rel => exact ⟨k + 1, by omega, by go_num, hh5⟩
                  case measure => simp [intOf]; omega
                · have hend3 : ¬ (k : Int) < (S.length : Int) := by omega
                  have HSr := Lib.hid (HS.out.keep HB2.out)
                  have HAr := Lib.hid (HA.out.keep HB2.out)
                  replace HB := HB2
                  clear HB2 hh
                  go_wp2_with fail
                  refine (HAt.out J 0 HEa.out _ aJ cJ HSr.out HAr.out HSj2.out.r (by have := HJl.out; omega)).mono ?_
                  rintro e w98 ⟨rfl, hb⟩
                  replace HB := bel_tr HB hb
                  clear hb
                  go_wp2_with fail
                  refine (known_any _).mono ?_
                  rintro e w99 ⟨rfl, hb⟩
                  replace HB := bel_tr HB hb
                  clear hb
                  go_wp2_with fail
                  go_ret
                  exact ⟨rfl, HB.out⟩
end Go.Proofs.Ytmdebedkljpagaa.Jn
