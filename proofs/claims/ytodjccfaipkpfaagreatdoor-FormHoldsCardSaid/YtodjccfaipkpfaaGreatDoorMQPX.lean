/-
  What the laws StorePuts, StoreOrders and StoreHolds ask for, plainly.
-/
import Derived.Test.YtodjccfaipkpfaaGreatDoorQLck
import Derived.Test.YtodjccfaipkpfaaGreatDoorMQAdd
import Derived.Test.YtodjccfaipkpfaaGreatDoorFoKn
import Derived.Test.YtodjccfaipkpfaaGreatDoorQRfF
import Derived.Test.YtodjccfaipkpfaaGreatDoorMWCol

section
namespace Go.Proofs.YtodjccfaipkpfaaGreatDoor.Qs
set_option linter.unusedVariables false
open Go.RowKit V Go.Sort D Nd

theorem fold_self {l : List Nt} (hv : validS l = true) : foldN l [] = l := by
  have h := of_valid (l := l) (by rw [of_self hv])
  have h2 := of_ok h.1 h.2.1
  have h3 := h2.1.symm.trans (of_self hv)
  exact congrArg Prod.fst h3
theorem fold_app (l : List Nt) (n : Nt) : foldN (l ++ [n]) [] = (putN (foldN l []) n).1 := by
  unfold foldN
  rw [List.foldl_append]
  rfl
theorem of_put {l : List Nt} {n : Nt} (hv : validS l = true) (hn : validN n = true) : ofN (l ++ [n]) = putN l n := by
  have h := of_valid (l := l) (by rw [of_self hv])
  have hs := (validS_iff.1 hv).2
  have h1 : ∀ x ∈ l ++ [n], validN x = true := by
    intro x hx
    rcases List.mem_append.1 hx with hx | hx
    · exact h.1 x hx
    · rw [List.mem_singleton.1 hx]; exact hn
  have hat : ∀ d, atS l d = mg l d := by
    intro d
    have h2 := (of_ok h.1 h.2.1).2.2 d
    rwa [fold_self hv] at h2
  by_cases hg : agAll (l ++ [n])
  · have h3 := of_ok h1 hg
    have h4 := step_ok hv hat hn hg
    rw [h3.1, fold_app, fold_self hv, ← h4.1]
  · have hc : ofN (l ++ [n]) = ([], 15) := by
      unfold ofN
      rw [if_pos (List.all_eq_true.2 h1), if_neg (fun e => hg (agB_iff.1 e))]
    rw [hc]
    have hex : ∃ r ∈ l, r.1 = n.1 ∧ agreeN r n = false := by
      refine Classical.byContradiction fun hno => hg ?_
      have hno' : ∀ r ∈ l, r.1 = n.1 → agreeN r n = true := by
        intro r hr e
        cases ha : agreeN r n
        · exact absurd ⟨r, hr, e, ha⟩ hno
        · rfl
      intro a ha b hb e
      rcases List.mem_append.1 ha with ha | ha <;> rcases List.mem_append.1 hb with hb | hb
      · exact h.2.1 a ha b hb e
      · rw [List.mem_singleton.1 hb] at e ⊢; exact hno' a ha e
      · rw [List.mem_singleton.1 ha] at e ⊢; rw [agree_comm]; exact hno' b hb e.symm
      · rw [List.mem_singleton.1 ha, List.mem_singleton.1 hb]; exact agree_self n
    obtain ⟨r, hr, e, ha⟩ := hex
    have hat2 : atS l n.1 = some r := by rw [← e]; exact at_mem hs hr
    have hm : mergeN r n = (zeroN, 15) := by
      unfold mergeN
      rw [h.1 r hr, hn, ha]; rfl
    unfold putN
    rw [hat2]
    simp only [hm]
    rfl
theorem putP_yes {l : List Nt} {n : Nt} (hv : validS l = true) (hn : validN n = true) : putP l n = putN l n := by
  unfold putP
  rw [if_pos hv, of_put hv hn]
end Go.Proofs.YtodjccfaipkpfaaGreatDoor.Qs
end

/-
  The law FormHolds.
-/
section
namespace Go.Proofs.YtodjccfaipkpfaaGreatDoor.Fo
set_option linter.unusedVariables false
open Go.RowKit V Go.Sort D Nd Qs Wk
attribute [local irreducible] Sch.heldN Sch.stepV Sch.stepE

theorem setS_len (l : List Nt) (n : Nt) : (setS l n).length ≤ l.length + 1 := by
  unfold setS
  rw [List.length_append, List.length_cons, List.length_take]
  have h := List.length_filter_le (fun x : Nt => !decide (x.1 = n.1)) (l.drop (posS l n.1))
  rw [List.length_drop] at h
  omega
theorem setS_fit {l : List Nt} {n : Nt} (hf : ∀ x ∈ l, fitN x) (hn : fitN n) : ∀ x ∈ setS l n, fitN x := fun x hx => by
  unfold setS at hx
  rcases List.mem_append.1 hx with h | h
  · exact hf x (List.mem_of_mem_take h)
  · rcases List.mem_cons.1 h with rfl | h
    · exact hn
    · exact hf x (List.mem_of_mem_drop (List.mem_filter.1 h).1)
theorem whole_fit {l : List Nt} (hf : ∀ x ∈ l, fitN x) : ∀ x ∈ wholeS l, fitN x := fun x hx => hf x (List.mem_filter.1 hx).1
set_option maxRecDepth 100000 in
set_option maxHeartbeats 8000000 in
theorem holds_law (l : List Nt) (a : Option Addr) (c : Nat) (w : World) (hW : Ws w) (hf : ∀ x ∈ l, fitN x) (hx : RowN w a l) (hna : a = none → c = 0) :
    Calls Tryz.prog 3 #[.slice a l.length c] w fun e w' => e = .returned (.bool true) ∧ Below w.heap.size w w' := by
  have HKn := Lib.hid (fun w h => known_any w h)
  have HW := Lib.hid hW
  have HB := Lib.hid (Below.refl w.heap.size w)
  by_cases hbig : 30 < l.length
  · have hg : (30 : Int) < (l.length : Int) := by omega
    clear hbig hf hx hna
    go_enter Tryz.func3, Tryz.ntmps3
    go_wp2_with fail
    refine (HKn.out _ HW.out).mono ?_
    rintro e w2 ⟨rfl, hb⟩
    replace HB := bel_tr HB hb
    clear hb HKn
    go_wp2_with fail
    go_ret
    exact ⟨rfl, HB.out⟩
  have hle : l.length ≤ 30 := by omega
  have hng : ¬ (30 : Int) < (l.length : Int) := by omega
  have HX := Lib.hid hx
  have HLe := Lib.hid hle
  have HF := Lib.hid hf
  have HWe := Lib.hid (fun w h => well_any l a c w hf h (by omega))
  have HLa := Lib.hid (fun w h => lack_prog l a c w hf h (by omega))
  have HLo := Lib.hid (fun w h => Un.lost_prog l a c w h (by omega))
  have HVa := Lib.hid (fun w h => validS_any l a c w h (by omega))
  have HWh := Lib.hid (fun w h => whole_any l a c w hf h (by omega))
  have HWt := Lib.hid (fun q w (h : wholeP l = (l, q)) h1 => whole_true l l q a a c c w h hf h1 h1 (by omega))
  clear hbig hf hx hna hle hW
  go_enter Tryz.func3, Tryz.ntmps3
  go_wp2_with fail
  refine (HWe.out _ HX.out).mono ?_
  rintro e w2 ⟨rfl, hb⟩
  replace HB := bel_tr HB hb
  replace HX := Lib.hid (HX.out.keep hb)
  have HWl : Hid (wellS l = true → validS l = true ∧ Un.lostP l = ([], 0) ∧ lackP l = ([], 0) ∧ wholeP l = (l, 0)) := fun hw => by
    have hv := well_valid hw
    exact ⟨hv, by unfold Un.lostP; rw [if_pos hv, well_lost hw], by unfold lackP; rw [if_pos hv, well_lack hw], by unfold wholeP; rw [if_pos hv, well_whole hw]⟩
  clear hb HWe
  generalize wellS l = wl at *
  go_upto_if 18 with fail
  go_cut [2] from 3 (fun s wx => s = .bool false ∧ Hid (Below w.heap.size w wx) ∧ Hid (RowN wx a l))
  case first =>
    rcases wl with _ | _
    · go_wp2_with fail
      go_meet
      case rel => exact ⟨rfl, HB, HX⟩
    · obtain ⟨hv, h1, h2, h3⟩ := HWl.out (by first | rfl | trivial)
      have HWt2 := Lib.hid (fun w h => HWt.out 0 w h3 h)
      rw [h1] at HLo
      rw [h2] at HLa
      rw [hv] at HVa
      clear hv h1 h2 h3
      go_wp2_with fail
      refine (HLa.out _ HX.out).mono ?_
      rintro e w3 ⟨v3, rfl, hs, hb⟩
      obtain ⟨a3, c3, rfl, -⟩ := hs.row
      replace HB := bel_tr HB hb
      replace HX := Lib.hid (HX.out.keep hb)
      clear hb hs HLa
      go_wp2_with fail
      refine (HLo.out _ HX.out).mono ?_
      rintro e w4 ⟨v4, rfl, ⟨a4, c4, rfl, -⟩, hb⟩
      replace HB := bel_tr HB hb
      replace HX := Lib.hid (HX.out.keep hb)
      clear hb HLo
      go_wp2_with fail
      refine (HVa.out _ HX.out).mono ?_
      rintro e w5 ⟨rfl, hb⟩
      replace HB := bel_tr HB hb
      replace HX := Lib.hid (HX.out.keep hb)
      clear hb
      go_wp2_with fail
      refine (HWt2.out _ HX.out).mono ?_
      rintro e w6 ⟨rfl, hb⟩
      replace HB := bel_tr HB hb
      replace HX := Lib.hid (HX.out.keep hb)
      clear hb HWt2
      go_wp2_with fail
      go_meet
      case rel => exact ⟨rfl, HB, HX⟩
  case rest =>
    clear HB HX
    obtain ⟨rfl, HB, HX⟩ := hcut
    clear HLa HLo HWt HWl
    rcases hv : validS l with _ | _
    · rw [show wholeP l = ([], 2) by unfold wholeP; rw [hv]; rfl] at HWh
      rw [hv] at HVa
      clear hv
      go_wp2_with fail
      refine (HWh.out _ HX.out).mono ?_
      rintro e w3 ⟨v3, rfl, ho, hb⟩
      obtain ⟨a3, c3, rfl, -⟩ := ON.row ho
      replace HB := bel_tr HB hb
      replace HX := Lib.hid (HX.out.keep hb)
      clear hb ho HWh
      go_wp2_with fail
      refine (HVa.out _ HX.out).mono ?_
      rintro e w5 ⟨rfl, hb⟩
      replace HB := bel_tr HB hb
      clear hb HVa HX
      go_wp2_with fail
      refine (HKn.out _ (HW.out.keep HB.out)).mono ?_
      rintro e w2 ⟨rfl, hb⟩
      replace HB := bel_tr HB hb
      clear hb HKn
      go_wp2_with fail
      go_ret
      exact ⟨rfl, HB.out⟩
    · rw [show wholeP l = (wholeS l, 0) by unfold wholeP; rw [hv]; rfl] at HWh
      rw [hv] at HVa
      have HCl : Hid ((wholeS l).length ≤ 30) := by have := whole_len l; have := HLe.out; show _ ≤ _; omega
      have HCf : Hid (∀ x ∈ wholeS l, fitN x) := whole_fit HF.out
      have HWc := Lib.hid (fun aC cC w h => well_any (wholeS l) aC cC w HCf.out h (by have := HCl.out; omega))
      rw [whole_well hv] at HWc
      have HTc := Lib.hid (fun aC cC w h => whole_true (wholeS l) (wholeS l) 0 aC aC cC cC w (by unfold wholeP; rw [if_pos (whole_valid hv), whole_whole hv]) HCf.out h h (by have := HCl.out; omega))
      have HFd := Lib.hid (fun d aC cC w h => find_ref (wholeS l) d aC cC w h (by have := HCl.out; omega))
      have HPt := Lib.hid (fun n (hn : n ∈ l) aC cC w h hna => put_prog (wholeS l) n aC cC w HCf.out (HF.out n hn) h hna (by have := HCl.out; omega))
      have HPu : Hid (∀ n ∈ l, ¬ 0 ≤ idxS (wholeS l) n.1 → putP (wholeS l) n = (setS (wholeS l) n, 0) ∧ wellS (setS (wholeS l) n) = false) := fun n hn h => by
        have hat : atS (wholeS l) n.1 = none := idx_neg.1 (by omega)
        obtain ⟨h1, h2⟩ := whole_put hv hn hat
        exact ⟨by rw [putP_yes (whole_valid hv) ((validS_iff.1 hv).1 n hn), h1], h2⟩
      have HWy := Lib.hid (fun n (hn : n ∈ l) aC cC w h => well_any (setS (wholeS l) n) aC cC w (setS_fit HCf.out (HF.out n hn)) h (by have := setS_len (wholeS l) n; have := HCl.out; omega))
      clear hv HF
      generalize wholeS l = C at *
      go_wp2_with fail
      refine (HWh.out _ HX.out).mono ?_
      rintro e w3 ⟨v3, rfl, ho, hb⟩
      obtain ⟨a3, c3, rfl, hr3, hn3, -⟩ := ON.row ho
      replace HB := bel_tr HB hb
      replace HX := Lib.hid (HX.out.keep hb)
      have HR := Lib.hid hr3
      have HN3 : Hid (a3 = none → c3 = 0) := fun h => (hn3 h).1
      clear hb ho HWh hr3 hn3
      go_wp2_with fail
      refine (HVa.out _ HX.out).mono ?_
      rintro e w5 ⟨rfl, hb⟩
      replace HB := bel_tr HB hb
      replace HX := Lib.hid (HX.out.keep hb)
      replace HR := Lib.hid (HR.out.keep hb)
      clear hb HVa
      go_wp2_with fail
      refine (HWc.out _ _ _ HR.out).mono ?_
      rintro e w6 ⟨rfl, hb⟩
      replace HB := bel_tr HB hb
      replace HX := Lib.hid (HX.out.keep hb)
      replace HR := Lib.hid (HR.out.keep hb)
      clear hb HWc
      go_wp2_with fail
      refine (HTc.out _ _ _ HR.out).mono ?_
      rintro e w7 ⟨rfl, hb⟩
      replace HB := bel_tr HB hb
      replace HX := Lib.hid (HX.out.keep hb)
      replace HR := Lib.hid (HR.out.keep hb)
      clear hb HTc
      have HZ := Lib.hid (Below.refl w7.heap.size w7)
      go_wp2_with fail
      go_loopw [10, 11, 12, 89, 98] (fun _ _ _ i _ wr => ∃ k : Nat, k ≤ l.length ∧ i = .int .i64 (k : Int) ∧ Hid (Below w7.heap.size w7 wr)) (fun _ _ _ i _ _ => l.length - (intOf i).toNat)
      case atStart => exact ⟨0, Nat.zero_le _, rfl, HZ⟩
      case round =>
        clear HZ
        obtain ⟨k, hk, rfl, HZ⟩ := hrel
        by_cases hlt : k < l.length
        · have hi0 : (k : Int) < (l.length : Int) := by omega
          obtain ⟨b1, o1, e1, hna⟩ := na_of (HX.out.keep HZ.out) k hlt
          have hmem : l[k] ∈ l := List.getElem_mem hlt
          have HFd2 := Lib.hid (fun w h => HFd.out l[k].1 a3 c3 w h)
          have HPt2 := Lib.hid (fun w h => HPt.out l[k] hmem a3 c3 w h HN3.out)
          have HPu2 := Lib.hid (HPu.out l[k] hmem)
          have HWy2 := Lib.hid (HWy.out l[k] hmem)
          obtain ⟨q, hq⟩ : ∃ q, q = l[k] := ⟨_, rfl⟩
          rw [← hq] at hna HFd2 HPt2 HPu2 HWy2
          subst e1
          have hb1 := bel_box wr (.cells (nc q) 35)
          have HNq := Lib.hid (Nb.new wr q)
          have HZ2 := bel_tr HZ hb1
          clear hq hmem hb1
          obtain ⟨n0, n1, n2, n3, n4, n5⟩ := hna
          obtain ⟨z, hz⟩ : ∃ z, z = idxS C q.1 := ⟨_, rfl⟩
          rw [← hz] at HFd2 HPu2
          clear hz
          obtain ⟨⟨q1, q2⟩, ⟨q3, q4⟩, q5, q6⟩ := q
          go_upto_region 16 with fail
          generalize hw8 : wr.alloc (.cells #[.int .i64 q1, .int .i64 q2, .int .i64 q3, .int .i64 q4, .int .i64 q5, .int .i32 q6] 35) = w8 at *
          generalize hg8 : wr.heap.size = g8 at *
          clear n0 n1 n2 n3 n4 n5 hw8 hg8
          obtain ⟨m0, m1, m2, m3, m4, m5⟩ := HNq.out
          go_wp2_with fail
          refine (HFd2.out _ (HR.out.keep HZ2.out)).mono ?_
          rintro e w9 ⟨rfl, hb⟩
          replace HZ2 := bel_tr HZ2 hb
          replace HNq := Lib.hid (HNq.out.keep hb)
          clear hb m0 m1 m2 m3 m4 m5
          by_cases hz : 0 ≤ z
          · clear HPu2 HPt2 HWy2 HNq
            go_wp2_with fail
            go_roundw
            case rel => exact ⟨k + 1, by omega, by go_num, HZ2⟩
            case measure => simp [intOf]; omega
          · obtain ⟨e1, e2⟩ := HPu2.out (by omega)
            rw [e1] at HPt2
            rw [e2] at HWy2
            clear e1 e2 HPu2
            generalize setS C ((q1, q2), (q3, q4), q5, q6) = Y at *
            obtain ⟨m0, m1, m2, m3, m4, m5⟩ := HNq.out
            go_wp2_with fail
            refine (HPt2.out _ (HR.out.keep HZ2.out)).mono ?_
            rintro e w10 ⟨v10, rfl, ho, hb⟩
            obtain ⟨a10, c10, rfl, hr10, -⟩ := ON.row ho
            replace HZ2 := bel_tr HZ2 hb
            have HY := Lib.hid (HWy2.out a10 c10 _ hr10)
            clear hb m0 m1 m2 m3 m4 m5 ho hr10 HPt2 HWy2 HNq
            go_wp2_with fail
            refine HY.out.mono ?_
            rintro e w11 ⟨rfl, hb⟩
            replace HZ2 := bel_tr HZ2 hb
            clear hb HY
            go_wp2_with fail
            go_roundw
            case rel => exact ⟨k + 1, by omega, by go_num, HZ2⟩
            case measure => simp [intOf]; omega
        · obtain rfl : k = l.length := by omega
          have hend : ¬ (l.length : Int) < (l.length : Int) := by omega
          replace HB := bel_tr HB HZ.out
          clear HZ hlt hk HX HR
          go_wp2_with fail
          refine (HKn.out _ (HW.out.keep HB.out)).mono ?_
          rintro e w2 ⟨rfl, hb⟩
          replace HB := bel_tr HB hb
          clear hb HKn
          go_wp2_with fail
          go_ret
          exact ⟨rfl, HB.out⟩
end Go.Proofs.YtodjccfaipkpfaaGreatDoor.Fo
end
