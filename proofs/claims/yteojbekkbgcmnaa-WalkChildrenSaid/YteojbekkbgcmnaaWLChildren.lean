/-
  The law WalkChildren.
-/
import Derived.Test.YteojbekkbgcmnaaMWKnG
import Derived.Test.YteojbekkbgcmnaaWPX
import Derived.Test.YteojbekkbgcmnaaQOwn
namespace Go.Proofs.Yteojbekkbgcmnaa.Un
set_option linter.unusedVariables false
open Go.RowKit V Go.Shelf D Nd Qs Wk
attribute [local irreducible] Sch.heldN Sch.stepV Sch.stepE

set_option maxRecDepth 100000 in
set_option maxHeartbeats 8000000 in
theorem children_law (l : List Nt) (d : Dt) (a : Option Addr) (c : Nat) (w : World) (hi : ∀ x ∈ l, i32 x.2.2.2) (hx : RowN w a l) (hna : a = none → c = 0) :
    Calls Try.prog 3 #[.slice a l.length c, dv d] w fun e w' => e = .returned (.bool true) ∧ Below w.heap.size w w' := by
  have HKn := Lib.hid (fun w => known_any w)
  have HB := Lib.hid (bel_box w (.cells #[.int .i64 d.1, .int .i64 d.2] 24))
  by_cases hbig : 40 < l.length
  · have hg : (40 : Int) < (l.length : Int) := by omega
    go_enter Try.func3, Try.ntmps3
    go_wp2_with fail
    refine (HKn.out _).mono ?_
    rintro e w2 ⟨rfl, hb⟩
    replace HB := Lib.hid (bel_tr HB.out hb)
    clear hb HKn
    go_wp2_with fail
    go_ret
    exact ⟨rfl, HB.out⟩
  have hle : l.length ≤ 40 := by omega
  have hng : ¬ (40 : Int) < (l.length : Int) := by omega
  have HD := Lib.hid (bd_new w d)
  have HX := Lib.hid (hx.keep HB.out)
  have HLe := Lib.hid hle
  have HNa := Lib.hid hna
  have HVl := Lib.hid (fun w h => validS_ref l a c w hi h (by omega))
  have HNm := Lib.hid (fun w => named_ref d w)
  clear hbig hi hx hle hna
  rcases hv : (validS l && (rootR d || validR d)) with _ | _
  · have HCh := Lib.hid (fun w h => children_true l d a c [] 2 none 0 w h (by have := HLe.out; omega) (by unfold childP; rw [hv]; rfl) (RowN.nil _ _) (by decide))
    have HVv := Lib.hid hv
    clear hv
    go_enter Try.func3, Try.ntmps3
    go_wp2_with fail
    generalize w.alloc (.cells #[.int .i64 d.1, .int .i64 d.2] 24) = w1 at *
    refine (HVl.out _ HX.out).mono ?_
    rintro e w2 ⟨rfl, hb⟩
    replace HB := Lib.hid (bel_tr HB.out hb)
    replace HX := Lib.hid (HX.out.keep hb)
    replace HD := Lib.hid (HD.out.keep hb)
    clear hb HVl
    have c0 := HD.out.c0
    have c1 := HD.out.c1
    rcases hv2 : validS l with _ | _
    · clear HVv
      go_wp2_with fail
      refine (HCh.out _ HX.out).mono ?_
      rintro e w3 ⟨rfl, hb⟩
      replace HB := Lib.hid (bel_tr HB.out hb)
      clear hb HCh HX
      go_wp2_with fail
      refine (HKn.out _).mono ?_
      rintro e w5 ⟨rfl, hb⟩
      replace HB := Lib.hid (bel_tr HB.out hb)
      clear hb HKn
      go_wp2_with fail
      go_ret
      exact ⟨rfl, HB.out⟩
    · have hno : (validR d || rootR d) = false := by have := HVv.out; rw [hv2, Bool.true_and, Bool.or_comm] at this; exact this
      rw [hno] at HNm
      clear HVv hno
      go_wp2_with fail
      refine (HNm.out _).mono ?_
      rintro e w3 ⟨rfl, hb⟩
      replace HB := Lib.hid (bel_tr HB.out hb)
      replace HX := Lib.hid (HX.out.keep hb)
      replace HD := Lib.hid (HD.out.keep hb)
      clear hb HNm c0 c1
      have c0 := HD.out.c0
      have c1 := HD.out.c1
      go_wp2_with fail
      refine (HCh.out _ HX.out).mono ?_
      rintro e w4 ⟨rfl, hb⟩
      replace HB := Lib.hid (bel_tr HB.out hb)
      clear hb HCh HX c0 c1
      go_wp2_with fail
      refine (HKn.out _).mono ?_
      rintro e w5 ⟨rfl, hb⟩
      replace HB := Lib.hid (bel_tr HB.out hb)
      clear hb HKn
      go_wp2_with fail
      go_ret
      exact ⟨rfl, HB.out⟩
  · obtain ⟨hv1, hv2⟩ := Bool.and_eq_true_iff.1 hv
    have hv3 : (validR d || rootR d) = true := by rw [Bool.or_comm]; exact hv2
    rw [hv1] at HVl
    rw [hv3] at HNm
    have HCp := Lib.hid (fun aW cW w h => child_prog l d aW cW w h (by have := HLe.out; omega))
    rw [show childP l d = (childS l d, 0) by unfold childP; rw [hv]; rfl] at HCp
    have HCr := Lib.hid (fun w h => child_ref l d a c w h (by have := HLe.out; omega))
    have HCl : Hid ((childS l d).length ≤ 40) := by have h1 := child_len l d; have := HLe.out; show _ ≤ _; omega
    have HEq := Lib.hid (fun aX aY cX cY w h1 h2 => eqN_true (childS l d) aX aY cX cY w h1 h2 (by have := HCl.out; omega))
    have HEl := Lib.hid (fun aX aY cX cY w h1 h2 => eqN_true l aX aY cX cY w h1 h2 (by have := HLe.out; omega))
    clear hv hv1 hv2 hv3
    generalize childS l d = C at *
    have hcl : (C.length : Int) ≤ 40 := by have := HCl.out; omega
    go_enter Try.func3, Try.ntmps3
    go_wp2_with fail
    generalize w.alloc (.cells #[.int .i64 d.1, .int .i64 d.2] 24) = w1 at *
    refine (HVl.out _ HX.out).mono ?_
    rintro e w2 ⟨rfl, hb⟩
    replace HB := Lib.hid (bel_tr HB.out hb)
    replace HX := Lib.hid (HX.out.keep hb)
    replace HD := Lib.hid (HD.out.keep hb)
    clear hb HVl
    have c0 := HD.out.c0
    have c1 := HD.out.c1
    go_wp2_with fail
    refine (HNm.out _).mono ?_
    rintro e w3 ⟨rfl, hb⟩
    replace HB := Lib.hid (bel_tr HB.out hb)
    replace HX := Lib.hid (HX.out.keep hb)
    replace HD := Lib.hid (HD.out.keep hb)
    clear hb HNm c0 c1
    go_wp2_with (at_builtin; refine wpList_appN rfl _ _ _ rfl Try.underlying22 infoN (.slice none 0 0) [] rfl (ON.nil _ w3.heap.size _) a l c l.length rfl rfl HX.out HNa.out (by have := HLe.out; simp only [List.length_nil]; omega) (Nat.le_refl _) ?_)
    intro v5 w5 ho hg _
    have hb := bel_none hg
    replace HB := Lib.hid (bel_tr HB.out hb)
    replace HX := Lib.hid (HX.out.keep hb)
    replace HD := Lib.hid (HD.out.keep hb)
    obtain ⟨a5, c5, rfl, hr5, -⟩ := ON.row ho
    have HW := Lib.hid hr5
    clear ho hg hb hr5
    have c0 := HD.out.c0
    have c1 := HD.out.c1
    go_wp2_with fail
    have HZ := Lib.hid (Below.refl w5.heap.size w5)
    refine (HCp.out a5 c5 _ HW.out).mono ?_
    rintro e w6 ⟨v6, rfl, ho, hb⟩
    replace HZ := Lib.hid (bel_tr HZ.out hb)
    have HO := Lib.hid ho
    have HX6 := Lib.hid (HX.out.keep hb)
    have HD6 := Lib.hid (HD.out.keep hb)
    clear ho hb HCp c0 c1
    have c0 := HD6.out.c0
    have c1 := HD6.out.c1
    go_wp2_with fail
    refine (HCr.out _ HX6.out).mono ?_
    rintro e w7 ⟨v7, rfl, ho, hb⟩
    replace HZ := Lib.hid (bel_tr HZ.out hb)
    replace HO := Lib.hid (HO.out.below hb)
    obtain ⟨a7, c7, rfl, hr7, -⟩ := ON.row ho
    obtain ⟨a6, c6, rfl, hr6, -, -, hx6⟩ := ON.row HO.out
    have HEc := Lib.hid (HEq.out a6 a7 c6 c7 _ hr6 hr7)
    have HX6 : Hid (∀ x, a6 = some x → x = ⟨x.block, 0, none⟩ ∧ w5.heap.size ≤ x.block) := fun x h => ⟨(hx6 x h).1, (hx6 x h).2.2.1⟩
    clear ho hb hr6 hr7 hx6 HCr c0 c1 HEq
    go_wp2_with fail
    refine HEc.out.mono ?_
    rintro e w8 ⟨rfl, hb⟩
    replace HZ := Lib.hid (bel_tr HZ.out hb)
    replace HO := Lib.hid (HO.out.below hb)
    clear hb HEc
    go_wp2_with fail
    go_loopw [8, 47] (fun _ i wr => ∃ (k : Nat) (M : List Nt), k ≤ C.length ∧ i = .int .i64 (k : Int) ∧ M.length = C.length ∧ Hid (Below w5.heap.size w5 wr) ∧ Hid (ON wr w5.heap.size EN (.slice a6 C.length c6) M)) (fun _ i _ => C.length - (intOf i).toNat)
    case atStart => exact ⟨0, C, Nat.zero_le _, rfl, rfl, HZ, HO⟩
    case round =>
      clear HZ HO
      obtain ⟨k, M, hk, rfl, hM, HZ, HO⟩ := hrel
      by_cases hlt : k < C.length
      · have hi0 : (k : Int) < (C.length : Int) := by omega
        have hkM : k < M.length := by omega
        obtain ⟨g, rfl⟩ : ∃ g, a6 = some ⟨g, 0, none⟩ := by
          rcases a6 with _ | x
          · rcases (ON.r HO.out).1 with h | ⟨b, o, h, -⟩
            · rw [h] at hkM; exact absurd hkM (Nat.not_lt_zero _)
            · cases h
          · obtain ⟨e, -⟩ := HX6.out x rfl
            exact ⟨x.block, by rw [← e]⟩
        have hgb : w5.heap.size ≤ g := (HX6.out _ rfl).2
        have HGb := Lib.hid hgb
        have hix := ixN g 0 C.length c6 k (k : Int) rfl hlt
        have hfr := HO.out.free (k * 6 + 4)
        have hcl2 := (HO.out.na k hkM).2.2.2.2.1
        have HM := Lib.hid hM
        clear hgb
        go_wp2_with fail
        refine ⟨⟨k + 1, M.set k (M[k].1, M[k].2.1, wrap64 (M[k].2.2.1 + 1), M[k].2.2.2), by omega, by go_num, by rw [List.length_set]; exact HM.out, HZ.out.setCell (p := ⟨g, _, none⟩) HGb.out _, HO.out.putTime hkM _⟩, ?_⟩
        simp [intOf]; omega
      · obtain rfl : k = C.length := by omega
        have hend : ¬ (C.length : Int) < (C.length : Int) := by omega
        have HX9 := Lib.hid (HX.out.keep HZ.out)
        have HW9 := Lib.hid (HW.out.keep HZ.out)
        replace HB := Lib.hid (bel_tr HB.out HZ.out)
        clear HO HZ HX HW hlt hk
        go_wp2_with fail
        refine (HEl.out _ _ _ _ _ HW9.out HX9.out).mono ?_
        rintro e w9 ⟨rfl, hb⟩
        replace HB := Lib.hid (bel_tr HB.out hb)
        clear hb HEl HW9 HX9
        go_wp2_with fail
        refine (HKn.out _).mono ?_
        rintro e w5 ⟨rfl, hb⟩
        replace HB := Lib.hid (bel_tr HB.out hb)
        clear hb HKn
        go_wp2_with fail
        go_ret
        exact ⟨rfl, HB.out⟩
end Go.Proofs.Yteojbekkbgcmnaa.Un
