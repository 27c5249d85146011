/-
  The third law: merging and order.
-/
import Derived.Test.YtfemfmppjabdjaaDoorELMakes
namespace Go.Proofs.YtfemfmppjabdjaaDoor.E
set_option linter.unusedVariables false
open Go.RowKit V Go.Sort D

theorem ordR_yes {a b : List Dt} (ha : validV a = true) (hb : validV b = true) : ordR a b = (orderR a b, 0) := by unfold ordR; rw [if_pos ⟨ha, hb⟩]
theorem ordR_no {a b : List Dt} (h : ¬ (validV a = true ∧ validV b = true)) : ordR a b = (0, 2) := by unfold ordR; rw [if_neg h]
theorem mergeB_ok {a b : List Dt} (ha : validV a = true) (hb : validV b = true) : mergeB a b = (mergeR a b, 0) := by unfold mergeB; rw [if_pos ⟨ha, hb⟩]
theorem mergeB_no {a b : List Dt} (h : ¬ (validV a = true ∧ validV b = true)) : mergeB a b = ([], 2) := by unfold mergeB; rw [if_neg h]
/-- The counters of a row of the call's own: those from k on are as they were. -/
def Mw (w : World) (g n k : Nat) : Prop := ∀ i, i < n → ∃ z, w.cell? ⟨g, i * 2 + 1, none⟩ = some (.int .i64 z) ∧ w.frozen? ⟨g, i * 2 + 1, none⟩ = false ∧ (k ≤ i → 0 ≤ z ∧ z ≤ 4294967295)
theorem Mw.of {w : World} {base g n c : Nat} {l : List Dt} (h : OD w base E (.slice (some ⟨g, 0, none⟩) n c) l) (hl : ∀ x ∈ l, validR x = true) : n = l.length ∧ base ≤ g ∧ Mw w g l.length 0 := by
  obtain ⟨a, c', e, hr, -, hc, hx⟩ := h.row
  simp only [Value.slice.injEq] at e
  obtain ⟨rfl, rfl, rfl⟩ := e
  obtain ⟨-, -, hb, -⟩ := hx _ rfl
  refine ⟨rfl, hb, fun i hi => ⟨l[i].2, ?_, World.ownsRow.frozenAt h _, fun _ => ?_⟩⟩
  · rw [World.ownsRow.cellAt h (i * 2 + 1) (by omega)]
    exact (cellsD_at l i hi).2
  · have := valid_iff.1 (hl l[i] (List.getElem_mem hi))
    omega
theorem Mw.step {w : World} {g n k : Nat} (h : Mw w g n k) (hk : k < n) (z : Int) : Mw (w.setCell ⟨g, k * 2 + 1, none⟩ (.int .i64 z)) g n (k + 1) := fun i hi => by
  obtain ⟨y, h1, h2, h3⟩ := h i hi
  by_cases e : i = k
  · subst e
    exact ⟨z, World.cell?_setCell_same' _ _ _ (by rw [h1]; rfl), by rw [World.frozen?_setCell]; exact h2, fun h => by omega⟩
  · refine ⟨y, ?_, by rw [World.frozen?_setCell]; exact h2, fun h => h3 (by omega)⟩
    rw [World.cell?_setCell_other _ _ _ _ (by first | (simp; done) | (simp; omega))]
    exact h1
theorem ix_own (g n c k : Nat) (hk : k < n) : ∀ w, (Instr.indexAt 23 (.slice (some ⟨g, 0, none⟩) n c) (.int .i64 (k : Int))).run Tryd.prog w = .ok (.pointer (some ⟨g, k * 2, none⟩)) w := fun w => by
  have := ix_vec g 0 n c k (k : Int) rfl hk w
  rwa [Nat.zero_add] at this

set_option maxRecDepth 100000 in
set_option maxHeartbeats 8000000 in
theorem merges_law (xs ys : List Dt) (a b : Option Addr) (c d : Nat) (w : World) (hL : Ld w) (hx : RowD w a xs) (hy : RowD w b ys) (hna : a = none → c = 0) (hnb : b = none → d = 0) (hlc : xs.length ≤ c) (hlx : xs.length ≤ 9223372036854775807) (hly : ys.length ≤ 9223372036854775807) :
    Calls Tryd.prog 5 #[.slice a xs.length c, .slice b ys.length d] w fun e w' => e = .returned (.bool true) ∧ Below w.heap.size w w' := by
  have HLd := Lib.hid hL
  have HRa := Lib.hid hx
  have HRb := Lib.hid hy
  have HNa := Lib.hid hna
  have HNb := Lib.hid hnb
  have HLc := Lib.hid hlc
  have HKn := Lib.hid (fun w hL => known_any w hL)
  have HB : Hid (Below w.heap.size w w) := Below.refl _ _
  clear hL hx hy hna hnb hlc
  by_cases h1 : 40 < xs.length
  · have hg : (40 : Int) < (xs.length : Int) := by omega
    clear h1 hlx hly
    go_enter Tryd.func5, Tryd.ntmps5
    go_wp2_with fail
    refine (HKn.out _ (HLd.out.below HB.out)).mono ?_
    rintro e w2 ⟨rfl, hb⟩
    replace HB := bel_tr HB hb
    clear hb
    go_wp2_with fail
    go_ret
    exact ⟨rfl, HB.out⟩
  have hg : ¬ (40 : Int) < (xs.length : Int) := by omega
  by_cases h2 : 40 < ys.length
  · have hg2 : (40 : Int) < (ys.length : Int) := by omega
    clear h1 hlx hly h2
    go_enter Tryd.func5, Tryd.ntmps5
    go_wp2_with fail
    refine (HKn.out _ (HLd.out.below HB.out)).mono ?_
    rintro e w2 ⟨rfl, hb⟩
    replace HB := bel_tr HB hb
    clear hb
    go_wp2_with fail
    go_ret
    exact ⟨rfl, HB.out⟩
  have hg2 : ¬ (40 : Int) < (ys.length : Int) := by omega
  have HVx := Lib.hid (fun w hx => validV_ref xs a c w hx (by omega))
  have HVy := Lib.hid (fun w hx => validV_ref ys b d w hx (by omega))
  have HLl : Hid (xs.length ≤ 40) := by show _ ≤ _; omega
  have HLv : Hid (ys.length ≤ 40) := by show _ ≤ _; omega
  have HSl := Lib.hid (fun a b c d w hx hy => same_true5 xs a b c d w hx hy (by omega))
  have HSv := Lib.hid (fun a b c d w hx hy => same_true5 ys a b c d w hx hy (by omega))
  have HMt := Lib.hid (fun u m q w hx hy hu hm h => merged_true xs ys a b c d u m q w hx hy HNa.out HNb.out (by omega) (by omega) hu hm h)
  have HOt := Lib.hid (fun a b c d z q w hx hy h => orders_true xs ys a b c d z q w hx hy (by omega) (by omega) h)
  have HMg := Lib.hid (fun a b c d w hx hy hna hnb => merge_any xs ys a b c d w hx hy hna hnb (by omega) (by omega))
  have HMr := Lib.hid (fun w hx hy => merge_ref xs ys a b c d w hx HNa.out HLc.out hy (by omega) (by omega))
  have HOr := Lib.hid (fun w hx hy => order_ref xs ys a b c d w hx hy (by omega) (by omega))
  clear h1 h2 hlx hly
  by_cases hv : validV xs = true ∧ validV ys = true
  · have HEm := Lib.hid (mergeB_ok hv.1 hv.2)
    have HEo := Lib.hid (ordR_yes hv.1 hv.2)
    have HVd : Hid (∀ x ∈ mergeR xs ys, validR x = true) := (merge_vd ((valid_vd _).1 hv.1) ((valid_vd _).1 hv.2)).1
    have HLm := Lib.hid (mergeB_len xs ys)
    rw [HEm.out] at HMg HLm
    rw [hv.1] at HVx
    rw [hv.2] at HVy
    clear hv HMt HEm
    generalize mergeR xs ys = M at *
    generalize orderR xs ys = O at *
    go_enter Tryd.func5, Tryd.ntmps5
    have hw0 : Hid (w = w) := rfl
    clear hw0
    go_wp2_with fail
    refine (HVx.out _ HRa.out).mono ?_
    rintro e w1 ⟨rfl, hl⟩
    have hb := hl.bel
    clear hl
    replace HRa := Lib.hid (HRa.out.keep hb)
    replace HRb := Lib.hid (HRb.out.keep hb)
    replace HB := bel_tr HB hb
    clear hb
    go_wp2_with fail
    refine (HVy.out _ HRb.out).mono ?_
    rintro e w2 ⟨rfl, hl⟩
    have hb := hl.bel
    clear hl
    replace HRa := Lib.hid (HRa.out.keep hb)
    replace HRb := Lib.hid (HRb.out.keep hb)
    replace HB := bel_tr HB hb
    clear hb
    go_wp2_with (at_builtin; refine wpList_appD rfl _ _ _ rfl Tryd.underlying23 infoD _ _ rfl (OD.nil w2 w2.heap.size E) a xs c rfl HRa.out HNa.out (by have := HLl.out; simp; omega) (Nat.le_refl _) ?_)
    intro v1 w3 ho hg3 _
    have HOx : Hid (OD w3 w2.heap.size E v1 xs) := ho
    have hb : Below w2.heap.size w2 w3 := (Below.refl _ _).grown hg3 (Nat.le_refl _) (fun k hk => by cases hk)
    replace HRa := Lib.hid (HRa.out.keep hb)
    replace HRb := Lib.hid (HRb.out.keep hb)
    replace HB := bel_tr HB hb
    clear ho hg3 hb
    obtain ⟨a1, c1, rfl, hrx, hnx, -⟩ := HOx.out.row
    have HR1 := Lib.hid hrx
    have HN1 := Lib.hid (fun h => (hnx h).1)
    clear hrx hnx HOx
    go_wp2_with (at_builtin; refine wpList_appD rfl _ _ _ rfl Tryd.underlying23 infoD _ _ rfl (OD.nil w3 w3.heap.size E) b ys d rfl HRb.out HNb.out (by have := HLv.out; simp; omega) (Nat.le_refl _) ?_)
    intro v2 w4 ho hg3 _
    have HOx : Hid (OD w4 w3.heap.size E v2 ys) := ho
    have hb : Below w3.heap.size w3 w4 := (Below.refl _ _).grown hg3 (Nat.le_refl _) (fun k hk => by cases hk)
    replace HRa := Lib.hid (HRa.out.keep hb)
    replace HRb := Lib.hid (HRb.out.keep hb)
    replace HR1 := Lib.hid (HR1.out.keep hb)
    replace HB := bel_tr HB hb
    clear ho hg3 hb
    obtain ⟨a2, c2, rfl, hrx, hnx, -⟩ := HOx.out.row
    have HR2 := Lib.hid hrx
    have HN2 := Lib.hid (fun h => (hnx h).1)
    clear hrx hnx HOx
    have HRxM := HR1
    have HRyM := HR2
    have HRaM := HRa
    have HRbM := HRb
    have HBw := HB
    have HBM : Hid (Below w4.heap.size w4 w4) := Below.refl _ _
    go_wp2_with fail
    refine (HMg.out a1 a2 c1 c2 _ HR1.out HR2.out HN1.out HN2.out).mono ?_
    rintro e w5 ⟨vm, rfl, ho, hb⟩
    have HOm : Hid (OD w5 w4.heap.size E vm M) := ho
    clear ho
    replace HRa := Lib.hid (HRa.out.keep hb)
    replace HRb := Lib.hid (HRb.out.keep hb)
    replace HR1 := Lib.hid (HR1.out.keep hb)
    replace HR2 := Lib.hid (HR2.out.keep hb)
    replace HB := bel_tr HB hb
    replace HBM := bel_tr HBM hb
    clear hb
    go_wp2_with fail
    refine (HMr.out _ HRa.out HRb.out).mono ?_
    rintro e w6 ⟨vr, rfl, hsv, hb⟩
    have HSV := Lib.hid hsv
    clear hsv
    replace HRa := Lib.hid (HRa.out.keep hb)
    replace HRb := Lib.hid (HRb.out.keep hb)
    replace HR1 := Lib.hid (HR1.out.keep hb)
    replace HR2 := Lib.hid (HR2.out.keep hb)
    replace HB := bel_tr HB hb
    replace HBM := bel_tr HBM hb
    replace HOm := Lib.hid (HOm.out.below hb)
    clear hb
    obtain ⟨am, cm, rfl, -⟩ := HOm.out.row
    obtain ⟨ar, cr, rfl⟩ := HSV.out.len
    go_wp2_with fail
    refine (gives_true M _ _ 0 _ (SV.of_od HOm.out) HSV.out (Nat.le_trans HLm.out (by omega))).mono ?_
    rintro e w7 ⟨rfl, hb⟩
    replace HRa := Lib.hid (HRa.out.keep hb)
    replace HRb := Lib.hid (HRb.out.keep hb)
    replace HR1 := Lib.hid (HR1.out.keep hb)
    replace HR2 := Lib.hid (HR2.out.keep hb)
    replace HSV := Lib.hid (HSV.out.keep hb)
    replace HB := bel_tr HB hb
    replace HBM := bel_tr HBM hb
    replace HOm := Lib.hid (HOm.out.below hb)
    clear hb
    go_wp2_with fail
    refine (HOr.out _ HRa.out HRb.out).mono ?_
    rintro e w8 ⟨rfl, hl⟩
    have hb := hl.bel
    clear hl
    replace HRa := Lib.hid (HRa.out.keep hb)
    replace HRb := Lib.hid (HRb.out.keep hb)
    replace HR1 := Lib.hid (HR1.out.keep hb)
    replace HR2 := Lib.hid (HR2.out.keep hb)
    replace HSV := Lib.hid (HSV.out.keep hb)
    replace HB := bel_tr HB hb
    replace HBM := bel_tr HBM hb
    replace HOm := Lib.hid (HOm.out.below hb)
    clear hb
    go_wp2_with fail
    refine (HOt.out a1 a2 c1 c2 O 0 _ HR1.out HR2.out HEo.out).mono ?_
    rintro e w9 ⟨rfl, hb⟩
    replace HRa := Lib.hid (HRa.out.keep hb)
    replace HRb := Lib.hid (HRb.out.keep hb)
    replace HR1 := Lib.hid (HR1.out.keep hb)
    replace HR2 := Lib.hid (HR2.out.keep hb)
    replace HSV := Lib.hid (HSV.out.keep hb)
    replace HB := bel_tr HB hb
    replace HBM := bel_tr HBM hb
    replace HOm := Lib.hid (HOm.out.below hb)
    clear hb
    clear HRa HRb HR1 HR2 HSV HB
    go_wp2_with fail
    by_cases hM : M.length = 0
    · have hend : ¬ (0 : Int) < (M.length : Int) := by omega
      go_loopw [66, 9] (fun i _ wr => i = .int .i64 0 ∧ Hid (Below w4.heap.size w4 wr)) (fun i _ _ => 1)
      case atStart => exact ⟨rfl, HBM⟩
      case round =>
        obtain ⟨rfl, hBM⟩ := hrel
        have hrx := HRxM.out.keep hBM.out
        have hry := HRyM.out.keep hBM.out
        have hra := HRaM.out.keep hBM.out
        have hrb := HRbM.out.keep hBM.out
        have HB := bel_tr HBw hBM.out
        have HRx := Lib.hid hrx
        have HRy := Lib.hid hry
        have HRa := Lib.hid hra
        have HRb := Lib.hid hrb
        clear hrx hry hra hrb
        go_wp2_with fail
        refine (HSl.out a1 a c1 c _ HRx.out HRa.out).mono ?_
        rintro e w51 ⟨rfl, hb⟩
        replace HRx := Lib.hid (HRx.out.keep hb)
        replace HRy := Lib.hid (HRy.out.keep hb)
        replace HRa := Lib.hid (HRa.out.keep hb)
        replace HRb := Lib.hid (HRb.out.keep hb)
        replace HB := bel_tr HB hb
        clear hb
        go_wp2_with fail
        refine (HSv.out a2 b c2 d _ HRy.out HRb.out).mono ?_
        rintro e w52 ⟨rfl, hb⟩
        replace HRx := Lib.hid (HRx.out.keep hb)
        replace HRy := Lib.hid (HRy.out.keep hb)
        replace HRa := Lib.hid (HRa.out.keep hb)
        replace HRb := Lib.hid (HRb.out.keep hb)
        replace HB := bel_tr HB hb
        clear hb
        go_wp2_with fail
        refine (HKn.out _ (HLd.out.below HB.out)).mono ?_
        rintro e w53 ⟨rfl, hb⟩
        replace HRx := Lib.hid (HRx.out.keep hb)
        replace HRy := Lib.hid (HRy.out.keep hb)
        replace HRa := Lib.hid (HRa.out.keep hb)
        replace HRb := Lib.hid (HRb.out.keep hb)
        replace HB := bel_tr HB hb
        clear hb
        go_wp2_with fail
        go_ret
        exact ⟨rfl, HB.out⟩
    · obtain ⟨gm, rfl⟩ : ∃ gm, am = some ⟨gm, 0, none⟩ := by
        obtain ⟨a', c', e, -, hn, -, hx⟩ := HOm.out.row
        simp only [Value.slice.injEq] at e
        obtain ⟨rfl, -, -⟩ := e
        rcases am with _ | x
        · exact absurd (by rw [(hn rfl).2]; rfl) hM
        · exact ⟨x.block, congrArg some (hx x rfl).1⟩
      obtain ⟨-, hge, hMw⟩ := Mw.of HOm.out HVd.out
      have HGe := Lib.hid hge
      have HMw := Lib.hid hMw
      have hl64 : (M.length : Int) ≤ 64 := by have h := HLm.out; exact_mod_cast h
      clear hge hMw HOm HVd
      go_loopw [66, 9] (fun i _ wr => ∃ k : Nat, k ≤ M.length ∧ i = .int .i64 (k : Int) ∧ Hid (Below w4.heap.size w4 wr) ∧ Hid (Mw wr gm M.length k)) (fun i _ _ => M.length - (intOf i).toNat)
      case atStart => exact ⟨0, Nat.zero_le _, rfl, HBM, HMw⟩
      case round =>
        obtain ⟨k, hk, rfl, hBM, HMk⟩ := hrel
        by_cases hlt : k < M.length
        · have hi1 : (k : Int) < (M.length : Int) := by omega
          obtain ⟨z, z1, z2, z3⟩ := HMk.out k hlt
          obtain ⟨z4, z5⟩ := z3 (Nat.le_refl _)
          have hix := ix_own gm M.length cm k hlt
          have HM2 := Lib.hid (HMk.out.step hlt (z + 1))
          clear z3
          go_wp2_with fail
          go_roundw
          case rel => exact ⟨k + 1, by omega, by go_num, hBM.out.setCell (p := ⟨gm, k * 2 + 1, none⟩) HGe.out _, HM2⟩
          case measure => simp [intOf]; omega
        · obtain rfl : k = M.length := by omega
          have hend : ¬ (M.length : Int) < (M.length : Int) := by omega
          have hrx := HRxM.out.keep hBM.out
          have hry := HRyM.out.keep hBM.out
          have hra := HRaM.out.keep hBM.out
          have hrb := HRbM.out.keep hBM.out
          have HB := bel_tr HBw hBM.out
          have HRx := Lib.hid hrx
          have HRy := Lib.hid hry
          have HRa := Lib.hid hra
          have HRb := Lib.hid hrb
          clear hrx hry hra hrb
          go_wp2_with fail
          refine (HSl.out a1 a c1 c _ HRx.out HRa.out).mono ?_
          rintro e w51 ⟨rfl, hb⟩
          replace HRx := Lib.hid (HRx.out.keep hb)
          replace HRy := Lib.hid (HRy.out.keep hb)
          replace HRa := Lib.hid (HRa.out.keep hb)
          replace HRb := Lib.hid (HRb.out.keep hb)
          replace HB := bel_tr HB hb
          clear hb
          go_wp2_with fail
          refine (HSv.out a2 b c2 d _ HRy.out HRb.out).mono ?_
          rintro e w52 ⟨rfl, hb⟩
          replace HRx := Lib.hid (HRx.out.keep hb)
          replace HRy := Lib.hid (HRy.out.keep hb)
          replace HRa := Lib.hid (HRa.out.keep hb)
          replace HRb := Lib.hid (HRb.out.keep hb)
          replace HB := bel_tr HB hb
          clear hb
          go_wp2_with fail
          refine (HKn.out _ (HLd.out.below HB.out)).mono ?_
          rintro e w53 ⟨rfl, hb⟩
          replace HRx := Lib.hid (HRx.out.keep hb)
          replace HRy := Lib.hid (HRy.out.keep hb)
          replace HRa := Lib.hid (HRa.out.keep hb)
          replace HRb := Lib.hid (HRb.out.keep hb)
          replace HB := bel_tr HB hb
          clear hb
          go_wp2_with fail
          go_ret
          exact ⟨rfl, HB.out⟩
  · have HEm := Lib.hid (mergeB_no hv)
    have HEo := Lib.hid (ordR_no hv)
    obtain ⟨p1, hp1⟩ : ∃ p, validV xs = p := ⟨_, rfl⟩
    obtain ⟨p2, hp2⟩ : ∃ p, validV ys = p := ⟨_, rfl⟩
    rw [hp1] at HVx hv
    rw [hp2] at HVy hv
    clear hp1 hp2 HMg HMr HOr
    go_enter Tryd.func5, Tryd.ntmps5
    go_wp2_with fail
    refine (HVx.out _ HRa.out).mono ?_
    rintro e w1 ⟨rfl, hl⟩
    have hb := hl.bel
    clear hl
    replace HRa := Lib.hid (HRa.out.keep hb)
    replace HRb := Lib.hid (HRb.out.keep hb)
    replace HB := bel_tr HB hb
    clear hb
    rcases p1 with _ | _
    · go_wp2_with fail
      refine (HMt.out (.slice none 0 0) [] 2 _ HRa.out HRb.out (SV.nil _) (by simp) HEm.out).mono ?_
      rintro e w2 ⟨rfl, hb⟩
      replace HRa := Lib.hid (HRa.out.keep hb)
      replace HRb := Lib.hid (HRb.out.keep hb)
      replace HB := bel_tr HB hb
      clear hb
      go_wp2_with fail
      refine (HOt.out a b c d 0 2 _ HRa.out HRb.out HEo.out).mono ?_
      rintro e w3 ⟨rfl, hb⟩
      replace HRa := Lib.hid (HRa.out.keep hb)
      replace HRb := Lib.hid (HRb.out.keep hb)
      replace HB := bel_tr HB hb
      clear hb
      go_wp2_with fail
      refine (HKn.out _ (HLd.out.below HB.out)).mono ?_
      rintro e w4 ⟨rfl, hb⟩
      replace HRa := Lib.hid (HRa.out.keep hb)
      replace HRb := Lib.hid (HRb.out.keep hb)
      replace HB := bel_tr HB hb
      clear hb
      go_wp2_with fail
      go_ret
      exact ⟨rfl, HB.out⟩
    · go_wp2_with fail
      refine (HVy.out _ HRb.out).mono ?_
      rintro e w2 ⟨rfl, hl⟩
      have hb := hl.bel
      clear hl
      replace HRa := Lib.hid (HRa.out.keep hb)
      replace HRb := Lib.hid (HRb.out.keep hb)
      replace HB := bel_tr HB hb
      clear hb
      rcases p2 with _ | _
      · go_wp2_with fail
        refine (HMt.out (.slice none 0 0) [] 2 _ HRa.out HRb.out (SV.nil _) (by simp) HEm.out).mono ?_
        rintro e w3 ⟨rfl, hb⟩
        replace HRa := Lib.hid (HRa.out.keep hb)
        replace HRb := Lib.hid (HRb.out.keep hb)
        replace HB := bel_tr HB hb
        clear hb
        go_wp2_with fail
        refine (HOt.out a b c d 0 2 _ HRa.out HRb.out HEo.out).mono ?_
        rintro e w4 ⟨rfl, hb⟩
        replace HRa := Lib.hid (HRa.out.keep hb)
        replace HRb := Lib.hid (HRb.out.keep hb)
        replace HB := bel_tr HB hb
        clear hb
        go_wp2_with fail
        refine (HKn.out _ (HLd.out.below HB.out)).mono ?_
        rintro e w5 ⟨rfl, hb⟩
        replace HRa := Lib.hid (HRa.out.keep hb)
        replace HRb := Lib.hid (HRb.out.keep hb)
        replace HB := bel_tr HB hb
        clear hb
        go_wp2_with fail
        go_ret
        exact ⟨rfl, HB.out⟩
      · exact absurd ⟨by first | trivial | rfl, by first | trivial | rfl⟩ hv
end Go.Proofs.YtfemfmppjabdjaaDoor.E
