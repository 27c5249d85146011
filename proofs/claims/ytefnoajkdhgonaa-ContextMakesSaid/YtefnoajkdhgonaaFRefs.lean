/-
  The reference: its functions one after the other.
-/
import Derived.Test.YtefnoajkdhgonaaFRefA
import Derived.Test.YtefnoajkdhgonaaFProg
import Derived.Test.YtefnoajkdhgonaaFRaise
import Derived.Test.YtefnoajkdhgonaaDRefD

/-
  The reference's Compact.
-/
section
namespace Go.Proofs.Ytefnoajkdhgonaa.F
set_option linter.unusedVariables false
open Go.RowKit V Go.Sort D
open E (SV SV.nil SV.keep SV.of_od Vd getV get_ge hasV raiseR raiseR_len getG_ref lays_alloc lays_tr lays_refl)

theorem SV.sh {w : World} {x : Value} {l : List Dt} (h : SV w x l) : ∃ a n, x = .slice a l.length n ∧ RowD w a l ∧ (a = none → n = 0) ∧ l.length ≤ n := h
theorem put_bel {w : World} {g : Nat} {x y : Value} {B : Nat} (hB : B ≤ g) : Below B w ((w.setCell ⟨g, 0, none⟩ x).setCell ⟨g, 1, none⟩ y) := below_put (Below.refl _ _) hB

theorem wc_box (w : World) (x y : Value) : Wc (w.alloc (cbox x y)) w.heap.size := by
  have hh : (w.alloc (cbox x y)).heap[w.heap.size]? = some (.cells #[x, y] 25 (0, 0)) := by show (w.heap.push _)[w.heap.size]? = _; simp
  intro i hi
  have hf : (w.alloc (cbox x y)).frozen? ⟨w.heap.size, i, none⟩ = false := by
    unfold World.frozen?
    rw [show (⟨w.heap.size, i, none⟩ : Addr).block = w.heap.size from rfl, hh]
    simp
  have k := two_new w x y
  rcases i with _ | _ | i
  · exact ⟨⟨_, k.1⟩, hf⟩
  · exact ⟨⟨_, k.2⟩, hf⟩
  · omega
/-- A slice that lies in neither of two blocks. -/
def Far (h : Nat) (v : Value) : Prop := ∀ g, v.ownBlock = some g → g ≠ h ∧ g ≠ h + 1
theorem SV.put {w : World} {v z : Value} {l : List Dt} (k : SV w v l) {g i : Nat} (hf : l ≠ [] → ∀ b, v.ownBlock = some b → b ≠ g) : SV (w.setCell ⟨g, i, none⟩ z) v l := by
  obtain ⟨a, n, rfl, hr, h1, h2⟩ := k
  refine ⟨a, n, rfl, ?_, h1, h2⟩
  by_cases he : l = []
  · exact .inl he
  · refine hr.of_heap fun b hb _ => ?_
    obtain ⟨o, rfl⟩ := hb
    exact Below.heap_setCell w ⟨g, i, none⟩ z b (hf he b rfl)

set_option maxRecDepth 100000 in
set_option maxHeartbeats 2000000 in
theorem compact_ref (xs ys : List Dt) (a b : Option Addr) (n m : Nat) (w : World) (hv : Vc (xs, ys)) (hx : RowD w a xs) (hy : RowD w b ys) (hna : a = none → n = 0) (hla : xs.length ≤ n) (hnb : b = none → m = 0) (hlb : ys.length ≤ m) (hlx : xs.length ≤ 100) (hly : ys.length ≤ 900000) :
    Calls Try.prog 22 #[cv (.slice a xs.length n) (.slice b ys.length m)] w fun e w' => ∃ x y, e = .returned (cv x y) ∧ SV w' x (compC (xs, ys)).1 ∧ SV w' y (compC (xs, ys)).2 ∧ Below w.heap.size w w' := by
  have HI := Lib.hid (fun w h1 h2 => isCompact_ref xs ys a b n m w h1 h2 (by omega) (by omega))
  have HI2 := Lib.hid (fun a b n m w h1 h2 (hl1 : (compC (xs, ys)).1.length ≤ 1000000) (hl2 : (compC (xs, ys)).2.length ≤ 1000000) => isCompact_ref (compC (xs, ys)).1 (compC (xs, ys)).2 a b n m w h1 h2 hl1 hl2)
  have hok : isCompR ((compC (xs, ys)).1, (compC (xs, ys)).2) = true := (comp_ok hv).1
  rw [hok] at HI2
  have HSf : Hid (isCompR (xs, ys) = true → compC (xs, ys) = (xs, ys)) := fun h => comp_self h
  have HT := Lib.hid (two_new w (.slice a xs.length n) (.slice b ys.length m))
  have HB := Lib.hid (bel_box w (cbox (.slice a xs.length n) (.slice b ys.length m)))
  have hb := bel_box (w.alloc (cbox (.slice a xs.length n) (.slice b ys.length m))) (cbox (.slice none 0 0) (.slice none 0 0))
  have HW := Lib.hid (wc_new (w.alloc (cbox (.slice a xs.length n) (.slice b ys.length m))))
  have hsz : (w.alloc (cbox (.slice a xs.length n) (.slice b ys.length m))).heap.size = w.heap.size + 1 := by simp
  rw [hsz] at HW
  have HWb := Lib.hid ((wc_box w (.slice a xs.length n) (.slice b ys.length m)).keep hb)
  replace HT := Lib.hid (HT.out.keep hb)
  replace HB := bel_tr HB hb
  have HX := Lib.hid (hx.keep HB.out)
  have HYr := Lib.hid (hy.keep HB.out)
  have hx0 := Lib.hid hx
  have hy0 := Lib.hid hy
  have HNa := Lib.hid hna
  have HNb := Lib.hid hnb
  have HLa := Lib.hid hla
  have HLb := Lib.hid hlb
  have HV := Lib.hid hv
  have HLx := Lib.hid hlx
  have HLy := Lib.hid hly
  clear hx hy hsz hb hna hnb hla hlb hv hok hlx hly
  have HEnd0 : Hid ((stK xs ys ys.length).1 = compC (xs, ys)) := stK_end xs ys
  have hlj : (ys.length : Int) ≤ 900000 := by have := HLy.out; omega
  generalize compC (xs, ys) = C at *
  have k0 := HT.out.1
  have k1 := HT.out.2
  go_enter Try.func22, Try.ntmps22
  go_wp2_with fail
  generalize (w.alloc (cbox (.slice a xs.length n) (.slice b ys.length m))).alloc (cbox (.slice none 0 0) (.slice none 0 0)) = w1 at *
  refine wp_loop_rounds 3 ?_
  rw [rounds_succ]
  go_wp2_with fail
  refine (HI.out _ HX.out HYr.out).mono ?_
  rintro e w2 ⟨rfl, hb⟩
  replace HT := Lib.hid (HT.out.keep hb)
  replace HW := Lib.hid (HW.out.keep hb)
  replace HWb := Lib.hid (HWb.out.keep hb)
  replace HX := Lib.hid (HX.out.keep hb)
  replace HYr := Lib.hid (HYr.out.keep hb)
  replace HB := bel_tr HB hb
  have HWl := Lib.hid HW.out.lt
  clear hb k0 k1 HI
  have k0 := HT.out.1
  have k1 := HT.out.2
  rcases hc : isCompR (xs, ys) with _ | _
  · have HEnd : Hid ((stK xs ys ys.length).1 = C) := HEnd0.out
    have hne : False ∨ True := .inr trivial
    clear HSf hne
    go_wp2_with fail
    clear k0 k1
    go_loopw [3, 4, 5, 6, 28, 32] (fun u v i _ _ _ wr => ∃ k : Nat, k ≤ ys.length ∧ i = .int .i64 (k : Int) ∧ Hid (Below w2.heap.size w2 wr) ∧ Hid (OD wr w2.heap.size E u (stK xs ys k).1.2) ∧ Hid (SV wr v (stK xs ys k).1.1) ∧ Hid ((stK xs ys k).1.1 ≠ [] → Apt v u ∧ Far w.heap.size v)) (fun _ _ i _ _ _ _ => ys.length - (intOf i).toNat)
    case atStart => exact ⟨0, Nat.zero_le _, rfl, Below.refl _ _, OD.nil _ _ _, ⟨a, n, rfl, HX.out, HNa.out, HLa.out⟩, fun he => ⟨Apt.none _, fun g hg => by
      rcases a with _ | x
      · cases hg
      · cases hg
        obtain ⟨b', o', e', hcell⟩ := hx0.out.resolve_left he
        cases e'
        have hl := lt_of_cell (hcell 0 (List.length_pos_iff.2 he)).1
        simp only at hl
        exact ⟨by show b' ≠ _; omega, by show b' ≠ _; omega⟩⟩⟩
    case round =>
      obtain ⟨k, hk, rfl, hh, HO, HS, HA⟩ := hrel
      have mixed := mixed
      by_cases hlt : k < ys.length
      · have hi1 : (k : Int) < (ys.length : Int) := by omega
        obtain ⟨b1, o1, rfl, p0, p1⟩ := HYr.out.get hh.out k hlt
        have hIk := inv_all HV.out.1 HV.out.2.2 k hk
        have HVd := Lib.hid hIk.vd
        have HRl := Lib.hid hIk.rl
        have HSt : Hid ((stK xs ys (k + 1)).1 = stp (stK xs ys k).1 ys[k]) := by show _ = _; rw [stK_succ hlt]; rfl
        have hvd := HV.out.2.2 ys[k] (List.getElem_mem hlt)
        obtain ⟨q, hq⟩ : ∃ q, q = ys[k] := ⟨_, rfl⟩
        rw [← hq] at p0 p1 HSt hvd
        have HQv := Lib.hid hvd
        clear hq hIk hvd
        obtain ⟨⟨s1, s2⟩, hs⟩ : ∃ s, s = (stK xs ys k).1 := ⟨_, rfl⟩
        rw [← hs] at HO HS HVd HRl HSt HA
        simp only at HO HS HVd HRl HA
        obtain ⟨av, nv, rfl, hrv, hnv, hlv⟩ := HS.out
        have hlen : s1.length ≤ 64 := E.vd_len HVd.out
        have HLen := Lib.hid hlen
        have hBa := bel_box wr (Obj.cells #[.int .i64 q.1, .int .i64 q.2] 38)
        have HB1 := bel_tr hh hBa
        have HT1 := Lib.hid (HT.out.keep HB1.out)
        have HO1 := Lib.hid (HO.out.below hBa)
        have HR1 := Lib.hid (hrv.keep hBa)
        have HNv := Lib.hid hnv
        have HLv := Lib.hid hlv
        have HK : Hid (Bd wr.heap.size q.1 q.2 (wr.alloc (Obj.cells #[.int .i64 q.1, .int .i64 q.2] 38))) := by refine ⟨?_, ?_⟩ <;> go_simp
        have HH := Lib.hid (E.has_ref s1 q av nv _ HR1.out (by omega))
        have k1 := (hh.out.cell (p := ⟨_, _, none⟩) (lt_of_cell HT.out.2)).trans HT.out.2
        clear hBa hrv hnv hlv hlen hs
        obtain ⟨q1, q2⟩ := q
        simp only at p0 p1 HB1 HO1 HR1 HK HH
        go_wp2_with fail
        generalize wr.alloc (Obj.cells #[.int .i64 q1, .int .i64 q2] 38) = w5 at *
        refine HH.out.mono ?_
        rintro e w6 ⟨rfl, hl⟩
        have hb := hl.bel
        replace HB1 := bel_tr HB1 hb
        replace HO1 := Lib.hid (HO1.out.below hb)
        replace HR1 := Lib.hid (HR1.out.keep hb)
        replace HK := Lib.hid (HK.out.keep hb)
        clear hl hb HH k1 p0 p1
        rcases hhv : hasV s1 (q1, q2) with _ | _
        · have hg0 := get_ge HVd.out q1
          have hg1 := get_le HVd.out q1
          have HGt := Lib.hid (fun nn os => getG_ref s1 q1 av nv w6 HR1.out (by have := HLen.out; omega) nn os)
          have HRs := Lib.hid (fun w h => raise_new s1 (q1, q2) av nv w h HNv.out HLv.out (by have := HLen.out; omega))
          obtain ⟨gv, hgv⟩ : ∃ gv, gv = getV s1 q1 := ⟨_, rfl⟩
          have HGv : Hid (gv = getV s1 q1) := hgv
          rw [← hgv] at hg0 hg1 HGt
          have hwr : IntKind.i64.wrap (gv + 1) = gv + 1 := by simp [IntKind.wrap, IntKind.bits, IntKind.signed]; omega
          have HHv : Hid (hasV s1 (q1, q2) = false) := hhv
          have k3 := cellG HK.out.1
          have k4 := cellG HK.out.2
          clear hg0 hg1 hgv hhv
          by_cases hd : q2 = gv + 1
          · have hdt : (q2 == gv + 1) = true := by simpa using hd
            have HSe : Hid ((stK xs ys (k + 1)).1 = (raiseR s1 (q1, q2), s2)) := by
              show _ = _
              rw [HSt.out]
              unfold stp
              rw [HHv.out, if_neg (by simp), if_pos (by show q2 = getV s1 q1 + 1; rw [← HGv.out]; exact hd)]
            clear hd
            go_wp2_with fail
            refine wp_region_quiet_grown mixed (by kernel_rfl) ?_
            repeat (first | go_big_quiet_skip | (go_big_quiet_want; go_big_quiet_op; go_big_quiet_on))
            go_big_quiet_want
            go_big_quiet_op
            go_big_quiet_call ((go_at_call 51; exact HGt.out _ _))
            repeat (first | go_big_quiet_skip | (go_big_quiet_want; go_big_quiet_op; go_big_quiet_on))
            refine wpQuiet_nil ?_
            intro _ hw'
            obtain ⟨⟨nq, osq⟩, hw''⟩ := hw'
            subst hw''
            have hb : Below w6.heap.size w6 (grow (w6.drewN nq) osq) := bel_grown (Below.refl _ _) (Nat.le_refl _) nq osq
            replace HB1 := bel_tr HB1 hb
            replace HO1 := Lib.hid (HO1.out.below hb)
            replace HR1 := Lib.hid (HR1.out.keep hb)
            replace HK := Lib.hid (HK.out.keep hb)
            clear hb k3 k4
            have k3 := HK.out.1
            have k4 := HK.out.2
            generalize grow (w6.drewN nq) osq = w7 at *
            go_wp2_with fail
            refine (HRs.out _ HR1.out).mono ?_
            rintro e w8 ⟨a8, c8, rfl, h1, h2, h3, h4, hb⟩
            have HS8 : Hid (SV w8 (.slice a8 (raiseR s1 (q1, q2)).length c8) (raiseR s1 (q1, q2))) := ⟨a8, c8, rfl, h1, h2, h3⟩
            have HA8 : Hid (Apt (.slice a8 (raiseR s1 (q1, q2)).length c8) u3) := fun g hg1 hg2 => by
              rcases a8 with _ | x
              · cases hg1
              · cases hg1
                have h5 := h4 HHv.out x rfl
                have h6 := (HO1.out.lt _ hg2).2
                omega
            have HFa : Hid (Far w.heap.size (.slice a8 (raiseR s1 (q1, q2)).length c8)) := fun g hg => by
              rcases a8 with _ | x
              · cases hg
              · cases hg
                have h5 := h4 HHv.out x rfl
                have h6 := HB1.out.size
                have h7 := HWl.out
                exact ⟨by omega, by omega⟩
            replace HB1 := bel_tr HB1 hb
            replace HO1 := Lib.hid (HO1.out.below hb)
            clear h1 h2 h3 h4 hb k3 k4 HRs
            go_wp2_with fail
            go_roundw
            case rel => exact ⟨k + 1, by omega, by go_num, HB1, by show OD _ _ _ _ _; rw [HSe.out]; exact HO1.out, by show SV _ _ _; rw [HSe.out]; exact HS8.out, fun _ => ⟨HA8.out, HFa.out⟩⟩
            case measure => simp [intOf]; omega
          · have hdf : (q2 == gv + 1) = false := by simpa using hd
            have HSe : Hid ((stK xs ys (k + 1)).1 = (s1, s2 ++ [(q1, q2)])) := by
              show _ = _
              rw [HSt.out]
              unfold stp
              rw [HHv.out, if_neg (by simp), if_neg (by show ¬ q2 = getV s1 q1 + 1; rw [← HGv.out]; exact hd)]
            clear hd
            go_wp2_with fail
            refine wp_region_quiet_grown mixed (by kernel_rfl) ?_
            repeat (first | go_big_quiet_skip | (go_big_quiet_want; go_big_quiet_op; go_big_quiet_on))
            go_big_quiet_want
            go_big_quiet_op
            go_big_quiet_call ((go_at_call 51; exact HGt.out _ _))
            repeat (first | go_big_quiet_skip | (go_big_quiet_want; go_big_quiet_op; go_big_quiet_on))
            refine wpQuiet_nil ?_
            intro _ hw'
            obtain ⟨⟨nq, osq⟩, hw''⟩ := hw'
            subst hw''
            have hb : Below w6.heap.size w6 (grow (w6.drewN nq) osq) := bel_grown (Below.refl _ _) (Nat.le_refl _) nq osq
            replace HB1 := bel_tr HB1 hb
            replace HO1 := Lib.hid (HO1.out.below hb)
            replace HR1 := Lib.hid (HR1.out.keep hb)
            replace HK := Lib.hid (HK.out.keep hb)
            clear hb k3 k4
            have k3 := HK.out.1
            have k4 := HK.out.2
            generalize grow (w6.drewN nq) osq = w7 at *
            have hBa := bel_box w7 (Obj.cells #[.int .i64 q1, .int .i64 q2] 38)
            have HB2 := bel_tr HB1 hBa
            have HR2 := Lib.hid (HR1.out.keep hBa)
            go_wp2_with (at_builtin; refine wpList_appD rfl _ _ _ rfl Try.underlying22 infoD _ _ rfl (HO1.out.below hBa) (some ⟨w7.heap.size, 0, none⟩) [(q1, q2)] 1 rfl (lit_one w7 (q1, q2) _) (fun h => by cases h) (by have := HRl.out; have := HLy.out; simp; omega) HB2.out.size ?_)
            intro v8 w8 ho hg hgr
            have HO8 : Hid (OD w8 w2.heap.size E v8 (s2 ++ [(q1, q2)])) := ho
            have HB8 := Lib.hid (HB2.out.grown hg HB2.out.size (fun k hk => (HO1.out.lt k hk).1))
            have HR8 : Hid (RowD w8 av s1) := by
              by_cases he : s1 = []
              · subst he; exact .inl rfl
              · exact HR2.out.gb hg fun b o e h => by
                  subst e
                  exact (HA.out he).1 b rfl h.symm
            have HA8 : Hid (s1 ≠ [] → Apt (.slice av s1.length nv) v8 ∧ Far w.heap.size (.slice av s1.length nv)) := fun he => by
              refine ⟨?_, (HA.out he).2⟩
              refine (HA.out he).1.grew hgr fun g hg => ?_
              rcases av with _ | x
              · cases hg
              · cases hg
                obtain ⟨b', o', e', hcell⟩ := HR2.out.resolve_left he
                cases e'
                exact lt_of_cell (hcell 0 (List.length_pos_iff.2 he)).1
            clear ho hg hgr hBa k3 k4
            go_wp2_with fail
            go_roundw
            case rel => exact ⟨k + 1, by omega, by go_num, HB8, by show OD _ _ _ _ _; rw [HSe.out]; exact HO8.out, by show SV _ _ _; rw [HSe.out]; exact ⟨av, nv, rfl, HR8.out, HNv.out, HLv.out⟩, by show _ ≠ _ → _; rw [HSe.out]; exact HA8.out⟩
            case measure => simp [intOf]; omega
        · have HSe : Hid ((stK xs ys (k + 1)).1 = (s1, s2)) := by
            show _ = _
            rw [HSt.out]
            unfold stp
            rw [hhv, if_pos rfl]
          clear hhv
          go_wp2_with fail
          go_roundw
          case rel => exact ⟨k + 1, by omega, by go_num, HB1, by show OD _ _ _ _ _; rw [HSe.out]; exact HO1.out, by show SV _ _ _; rw [HSe.out]; exact ⟨av, nv, rfl, HR1.out, HNv.out, HLv.out⟩, by show _ ≠ _ → _; rw [HSe.out]; exact HA.out⟩
          case measure => simp [intOf]; omega
      · obtain rfl : k = ys.length := by omega
        have hi1 : ¬ (ys.length : Int) < (ys.length : Int) := by omega
        rw [HEnd.out] at HO HS
        obtain ⟨au, nu, rfl, hru, hnu, hlu, -⟩ := HO.out.row
        obtain ⟨av, nv, rfl, hrv, hnv, hlv⟩ := HS.out
        have HRu := Lib.hid hru
        have HNu := Lib.hid (fun h => (hnu h).1)
        have HLu := Lib.hid hlu
        have HRv := Lib.hid hrv
        have HNv := Lib.hid hnv
        have HLv := Lib.hid hlv
        have HT1 := Lib.hid (HT.out.keep hh.out)
        have HW1 := Lib.hid (HW.out.keep hh.out)
        have HB1 := bel_tr HB hh.out
        clear hru hnu hlu hrv hnv hlv
        have hk0 := HT1.out.1
        have hk1 := HT1.out.2
        have HWb1 := Lib.hid (HWb.out.keep hh.out)
        have HP1 := Lib.hid (put_two (x := .slice av C.1.length nv) (y := .slice au C.2.length nu) HWb1.out)
        have hlt := HWl.out
        have HS2 := Lib.hid (SV.put (g := w.heap.size) (i := 1) (z := .slice au C.2.length nu) (SV.put (g := w.heap.size) (i := 0) (z := .slice av C.1.length nv) HS.out fun he b hb => ((HA.out (by rw [HEnd.out]; exact he)).2 b hb).1) fun he b hb => ((HA.out (by rw [HEnd.out]; exact he)).2 b hb).1)
        have HO2 := Lib.hid (OD.set (OD.set HO.out w.heap.size 0 (.slice av C.1.length nv) (by omega)) w.heap.size 1 (.slice au C.2.length nu) (by omega))
        have HB2 := Lib.hid (below_put (g := w.heap.size) (x := .slice av C.1.length nv) (y := .slice au C.2.length nu) HB1.out (Nat.le_refl _))
        have HW2 : Hid (Wc ((wr.setCell ⟨w.heap.size, 0, none⟩ (.slice av C.1.length nv)).setCell ⟨w.heap.size, 1, none⟩ (.slice au C.2.length nu)) (w.heap.size + 1)) := fun i hi => by
          obtain ⟨⟨v, hv⟩, hf⟩ := HW1.out i hi
          exact ⟨⟨v, (World.cell?_setCell_other _ _ _ _ (by first | (simp; done) | (simp; omega))).trans ((World.cell?_setCell_other _ _ _ _ (by first | (simp; done) | (simp; omega))).trans hv)⟩, by rw [World.frozen?_setCell, World.frozen?_setCell]; exact hf⟩
        obtain ⟨-, j1⟩ := HWb1.out 0 (by omega)
        obtain ⟨-, j3⟩ := HWb1.out 1 (by omega)
        have HFr : Hid (C.1 ≠ [] → Far w.heap.size (.slice av C.1.length nv)) := fun he => (HA.out (by rw [HEnd.out]; exact he)).2
        have HBs := Lib.hid hh.out.size
        have HLc : Hid (C.1.length ≤ 1000000 ∧ C.2.length ≤ 1000000) := by
          have h1 := inv_all HV.out.1 HV.out.2.2 ys.length (Nat.le_refl _)
          have h2 := E.vd_len h1.vd
          have h3 := h1.rl
          rw [HEnd.out] at h2 h3
          exact ⟨by omega, by omega⟩
        clear hlt HT1 HW1 HS HO HB1 HRu HRv hh HA
        go_wp2_with fail
        generalize (wr.setCell ⟨w.heap.size, 0, none⟩ (.slice av C.1.length nv)).setCell ⟨w.heap.size, 1, none⟩ (.slice au C.2.length nu) = w9 at *
        clear hk0 hk1 j1 j3
        have k0 := HP1.out.1
        have k1 := HP1.out.2
        rw [rounds_succ]
        go_wp2_with fail
        obtain ⟨a', n', e1, hr1, -⟩ := HS2.out
        cases e1
        have hr2 := (OD.r HO2.out).1
        refine (HI2.out _ _ _ _ _ hr1 hr2 HLc.out.1 HLc.out.2).mono ?_
        rintro e w10 ⟨rfl, hb⟩
        replace HP1 := Lib.hid (HP1.out.keep hb)
        replace HS2 := Lib.hid (HS2.out.keep hb)
        replace HO2 := Lib.hid (HO2.out.below hb)
        replace HW2 := Lib.hid (HW2.out.keep hb)
        replace HB2 := bel_tr HB2 hb
        clear hb hr1 hr2 k0 k1 HI2
        have k0 := HP1.out.1
        have k1 := HP1.out.2
        obtain ⟨⟨u0, r0⟩, r1⟩ := HW2.out 0 (by omega)
        obtain ⟨⟨u1, r2⟩, r3⟩ := HW2.out 1 (by omega)
        have HP := Lib.hid (put_two (x := .slice av C.1.length nv) (y := .slice au C.2.length nu) HW2.out)
        have HB3 := Lib.hid (below_put (g := w.heap.size + 1) (x := .slice av C.1.length nv) (y := .slice au C.2.length nu) HB2.out (by omega))
        have hlt := HWl.out
        have HS3 := Lib.hid (SV.put (g := w.heap.size + 1) (i := 1) (z := .slice au C.2.length nu) (SV.put (g := w.heap.size + 1) (i := 0) (z := .slice av C.1.length nv) HS2.out fun he b hb => (HFr.out he b hb).2) fun he b hb => (HFr.out he b hb).2)
        have HO3 := Lib.hid (OD.set (OD.set HO2.out (w.heap.size + 1) 0 (.slice av C.1.length nv) (by omega)) (w.heap.size + 1) 1 (.slice au C.2.length nu) (by omega))
        clear hlt
        go_wp2_with fail
        generalize (w10.setCell ⟨w.heap.size + 1, 0, none⟩ (.slice av C.1.length nv)).setCell ⟨w.heap.size + 1, 1, none⟩ (.slice au C.2.length nu) = W at *
        have q0 := HP.out.1
        have q1 := HP.out.2
        (try simp only [Exit.inBlock, Exit.then])
        refine bodyPost_ret (v := cv (.slice av C.1.length nv) (.slice au C.2.length nu)) (by rw [results_cell1 (fn := Try.f22) (p := 2) (ty := 25) rfl]; go_simp) rfl ?_
        exact ⟨_, _, rfl, HS3.out, SV.of_od HO3.out, HB3.out⟩
  · have hC := HSf.out hc
    subst hC
    obtain ⟨⟨u0, r0⟩, r1⟩ := HW.out 0 (by omega)
    obtain ⟨⟨u1, r2⟩, r3⟩ := HW.out 1 (by omega)
    have HP := Lib.hid (put_two (x := .slice a xs.length n) (y := .slice b ys.length m) HW.out)
    have HB2 := Lib.hid (below_put (g := w.heap.size + 1) (x := .slice a xs.length n) (y := .slice b ys.length m) HB.out (by omega))
    clear HI2
    go_wp2_with fail
    generalize (w2.setCell ⟨w.heap.size + 1, 0, none⟩ (.slice a xs.length n)).setCell ⟨w.heap.size + 1, 1, none⟩ (.slice b ys.length m) = W at *
    have q0 := HP.out.1
    have q1 := HP.out.2
    (try simp only [Exit.inBlock, Exit.then])
    refine bodyPost_ret (v := cv (.slice a xs.length n) (.slice b ys.length m)) (by rw [results_cell1 (fn := Try.f22) (p := 2) (ty := 25) rfl]; go_simp) rfl ?_
    exact ⟨_, _, rfl, ⟨a, n, rfl, hx0.out.keep HB2.out, HNa.out, HLa.out⟩, ⟨b, m, rfl, hy0.out.keep HB2.out, HNb.out, HLb.out⟩, HB2.out⟩
end Go.Proofs.Ytefnoajkdhgonaa.F
end

/-
  The reference's Add and Union.
-/
section
namespace Go.Proofs.Ytefnoajkdhgonaa.F
set_option linter.unusedVariables false
open Go.RowKit V Go.Sort D
open E (SV SV.nil SV.keep SV.of_od Vd getV get_ge hasV)

/-- A block of two slices, all of it. -/
def Rc (w : World) (g : Nat) : Prop := ∃ a n c b m d, w.heap[g]? = some (.cells #[.slice a n c, .slice b m d] 25 (0, 0))
theorem Rc.lt {w : World} {g : Nat} (h : Rc w g) : g < w.heap.size := by
  obtain ⟨a, n, c, b, m, d, h⟩ := h
  exact (Array.getElem?_eq_some_iff.1 h).1
theorem Rc.keep {w w' : World} {g : Nat} (h : Rc w g) (hb : Below w.heap.size w w') : Rc w' g := by
  have hl := h.lt
  obtain ⟨a, n, c, b, m, d, h⟩ := h
  exact ⟨a, n, c, b, m, d, by rw [hb.block g hl]; exact h⟩
theorem rc_new (w : World) (a b : Option Addr) (n c m d : Nat) : Rc (w.alloc (cbox (.slice a n c) (.slice b m d))) w.heap.size :=
  ⟨a, n, c, b, m, d, by show (w.heap.push _)[w.heap.size]? = _; simp⟩
theorem Rc.wc {w : World} {g : Nat} (h : Rc w g) : Wc w g := by
  obtain ⟨a, n, c, b, m, d, h⟩ := h
  intro i hi
  have hf : w.frozen? ⟨g, i, none⟩ = false := by
    unfold World.frozen?
    rw [show (⟨g, i, none⟩ : Addr).block = g from rfl, h]
    simp
  rcases i with _ | _ | i
  · exact ⟨⟨_, by simp [World.cell?, h]; rfl⟩, hf⟩
  · exact ⟨⟨_, by simp [World.cell?, h]; rfl⟩, hf⟩
  · omega
/-- A row of dots does not lie there. -/
theorem Rc.far {w : World} {g : Nat} (r : Rc w g) {v : Value} {l : List Dt} (k : SV w v l) : l ≠ [] → ∀ b, v.ownBlock = some b → b ≠ g := by
  intro he b hb hbg
  subst hbg
  obtain ⟨a, n, rfl, hr, -, -⟩ := k
  obtain ⟨b', o, rfl, hc⟩ := hr.resolve_left he
  cases hb
  obtain ⟨a1, n1, c1, b1, m1, d1, h⟩ := r
  have h0 := (hc 0 (List.length_pos_iff.2 he)).1
  simp only [World.cell?, h] at h0
  rcases o with _ | _ | o
  all_goals simp at h0
theorem SV.put2 {w : World} {v y z : Value} {l : List Dt} (k : SV w v l) {g : Nat} (r : Rc w g) : SV ((w.setCell ⟨g, 0, none⟩ y).setCell ⟨g, 1, none⟩ z) v l :=
  SV.put (SV.put k (r.far k)) (r.far k)
theorem below_put2 {w0 w : World} {g : Nat} {y z : Value} (h : Hid (Below w0.heap.size w0 w)) (hg : w0.heap.size ≤ g) : Below w0.heap.size w0 ((w.setCell ⟨g, 0, none⟩ y).setCell ⟨g, 1, none⟩ z) := below_put h.out hg
theorem comp_len {xs ys : List Dt} (hv : Vc (xs, ys)) : (compC (xs, ys)).1.length ≤ 64 ∧ (compC (xs, ys)).2.length ≤ ys.length := by
  refine ⟨E.vd_len (comp_vc hv).1, ?_⟩
  have := (inv_all (v := xs) (cl := ys) hv.1 hv.2.2 ys.length (Nat.le_refl _)).rl
  rw [end_rest xs ys] at this
  exact this
theorem add_len {c : Ct} {l : List Dt} (hc : Vc c) (hl : ∀ x ∈ l, validR x = true) : (addC c l).1.length ≤ 64 ∧ (addC c l).2.length ≤ c.2.length + l.length := by
  have h1 := comp_len (add_pre hc hl)
  have h2 := union_len c.2 l
  exact ⟨h1.1, Nat.le_trans h1.2 h2⟩
theorem union_len6 {a b : Ct} (ha : Vc a) (hb : Vc b) : (unionC a b).1.length ≤ 64 ∧ (unionC a b).2.length ≤ a.2.length + b.2.length := by
  have h1 := comp_len (union_pre ha hb)
  have h2 := union_len a.2 b.2
  exact ⟨h1.1, Nat.le_trans h1.2 h2⟩

set_option maxRecDepth 100000 in
set_option maxHeartbeats 1000000 in
theorem add_ref (xs ys l : List Dt) (a b p : Option Addr) (n m j : Nat) (w : World) (hv : Vc (xs, ys)) (hd : ∀ x ∈ l, validR x = true) (hx : RowD w a xs) (hy : RowD w b ys) (hl : RowD w p l) (hna : a = none → n = 0) (hla : xs.length ≤ n) (hlx : xs.length ≤ 100) (hly : ys.length ≤ 400000) (hll : l.length ≤ 400000) :
    Calls Try.prog 32 #[cv (.slice a xs.length n) (.slice b ys.length m), .slice p l.length j] w fun e w' => ∃ x y, e = .returned (cv x y) ∧ SV w' x (addC (xs, ys) l).1 ∧ SV w' y (addC (xs, ys) l).2 ∧ Below w.heap.size w w' := by
  have HU := Lib.hid (fun w h1 h2 => union_ref ys l b p m j w h1 h2 (by omega) (by omega))
  have HC := Lib.hid (fun q k w h1 h2 h3 h4 => compact_ref xs (unionR ys l) a q n k w (add_pre (c := (xs, ys)) hv hd) h1 h2 hna hla h3 h4 hlx (by have := union_len ys l; omega))
  have HE : Hid (compC (xs, unionR ys l) = addC (xs, ys) l) := rfl
  rw [HE.out] at HC
  have HT := Lib.hid (two_new w (.slice a xs.length n) (.slice b ys.length m))
  have HB := Lib.hid (bel_box w (cbox (.slice a xs.length n) (.slice b ys.length m)))
  have hb := bel_box (w.alloc (cbox (.slice a xs.length n) (.slice b ys.length m))) (cbox (.slice none 0 0) (.slice none 0 0))
  have HR := Lib.hid (rc_new (w.alloc (cbox (.slice a xs.length n) (.slice b ys.length m))) none none 0 0 0 0)
  have hsz : (w.alloc (cbox (.slice a xs.length n) (.slice b ys.length m))).heap.size = w.heap.size + 1 := by simp
  rw [hsz] at HR
  replace HT := Lib.hid (HT.out.keep hb)
  replace HB := bel_tr HB hb
  have HX := Lib.hid (hx.keep HB.out)
  have HYr := Lib.hid (hy.keep HB.out)
  have HL := Lib.hid (hl.keep HB.out)
  clear hx hy hl hna hla hlx hly hll hsz hb HE hv hd
  generalize addC (xs, ys) l = C at *
  generalize unionR ys l = s at *
  go_enter Try.func32, Try.ntmps32
  go_wp2_with fail
  generalize (w.alloc (cbox (.slice a xs.length n) (.slice b ys.length m))).alloc (cbox (.slice none 0 0) (.slice none 0 0)) = w1 at *
  have HSb := Lib.hid (show Sb w.heap.size (.slice a xs.length n) (.slice b ys.length m) w1 from HT.out)
  clear HT
  refine Sch.wp_region_tree (Sb w.heap.size (.slice a xs.length n) (.slice b ys.length m)) (.take 0 (.take 1 (.take 2 (.take 3 (.take 4 (.one 5 (.one 6 (.one 7 (.one 8 .done))))))))) (by kernel_rfl) (by kernel_rfl) (HSb.out.keep ((Below.refl _ _).drew)) ?_
  have hb : Below w1.heap.size w1 w1.drew := (Below.refl _ _).drew
  replace HSb := Lib.hid (HSb.out.keep hb)
  replace HR := Lib.hid (HR.out.keep hb)
  replace HX := Lib.hid (HX.out.keep hb)
  replace HYr := Lib.hid (HYr.out.keep hb)
  replace HL := Lib.hid (HL.out.keep hb)
  replace HB := bel_tr HB hb
  clear hb
  generalize w1.drew = w2 at *
  refine Sch.tree_q rfl rfl (fun K hK => ?_)
  go_big_quiet_op
  first | refine hK _ ?_ | refine ⟨_, fun _ _ => rfl, hK _ ?_⟩
  clear hK K
  refine tree_load _ _ _ _ _ rfl rfl rfl rfl (by first | exact Sb.l | exact Sb.l0 | exact Sb.l1) rfl ?_
  simp only [Act.put, List.setIfInBounds_toArray, List.set_cons_zero, List.set_cons_succ]
  refine Sch.tree_q rfl rfl (fun K hK => ?_)
  go_big_quiet_op
  first | refine hK _ ?_ | refine ⟨_, fun _ _ => rfl, hK _ ?_⟩
  clear hK K
  refine tree_load _ _ _ _ _ rfl rfl rfl rfl (by first | exact Sb.l | exact Sb.l0 | exact Sb.l1) rfl ?_
  simp only [Act.put, List.setIfInBounds_toArray, List.set_cons_zero, List.set_cons_succ]
  refine Sch.tree_q rfl rfl (fun K hK => ?_)
  go_big_quiet_op
  first | refine hK _ ?_ | refine ⟨_, fun _ _ => rfl, hK _ ?_⟩
  clear hK K
  refine Sch.tree_e rfl rfl (fun K hK => ?_)
  go_wp2_with fail
  refine (HU.out _ HYr.out HL.out).mono ?_
  rintro e w3 ⟨v2, rfl, ho, hb⟩
  obtain ⟨a2, c2, rfl, hr, hn2, hl2, -⟩ := ho.row
  replace HSb := Lib.hid (HSb.out.keep hb)
  replace HR := Lib.hid (HR.out.keep hb)
  replace HX := Lib.hid (HX.out.keep hb)
  replace HB := bel_tr HB hb
  have HC2 := Lib.hid (HC.out a2 c2 w3 HX.out hr (fun h => (hn2 h).1) hl2)
  clear ho hb hr hn2 hl2 HU HC
  refine hK _ _ HSb.out ?_
  clear hK K
  refine Sch.tree_e rfl rfl (fun K hK => ?_)
  go_wp2_with fail
  refine hK _ _ HSb.out ?_
  clear hK K
  refine Sch.tree_e rfl rfl (fun K hK => ?_)
  go_wp2_with fail
  refine (HC2.out).mono ?_
  rintro e w4 ⟨x, y, rfl, hs1, hs2, hb⟩
  have HSx := Lib.hid hs1
  have HSy := Lib.hid hs2
  replace HSb := Lib.hid (HSb.out.keep hb)
  replace HR := Lib.hid (HR.out.keep hb)
  replace HB := bel_tr HB hb
  clear hs1 hs2 hb HC2
  obtain ⟨⟨u0, r0⟩, r1⟩ := HR.out.wc 0 (by omega)
  obtain ⟨⟨u1, r2⟩, r3⟩ := HR.out.wc 1 (by omega)
  obtain ⟨a6, n6, rfl, -⟩ := SV.sh HSx.out
  obtain ⟨b6, m6, rfl, -⟩ := SV.sh HSy.out
  have HP := Lib.hid (put_two (x := .slice a6 C.1.length n6) (y := .slice b6 C.2.length m6) HR.out.wc)
  have HX2 := Lib.hid (SV.put2 (y := .slice a6 C.1.length n6) (z := .slice b6 C.2.length m6) HSx.out HR.out)
  have HY2 := Lib.hid (SV.put2 (y := .slice a6 C.1.length n6) (z := .slice b6 C.2.length m6) HSy.out HR.out)
  have HB4 := Lib.hid (below_put2 (g := w.heap.size + 1) (y := .slice a6 C.1.length n6) (z := .slice b6 C.2.length m6) HB (by omega))
  have HSb2 : Hid (Sb w.heap.size (.slice a xs.length n) (.slice b ys.length m) ((w4.setCell ⟨w.heap.size + 1, 0, none⟩ (.slice a6 C.1.length n6)).setCell ⟨w.heap.size + 1, 1, none⟩ (.slice b6 C.2.length m6))) := Bc.set (Bc.set HSb.out (by omega)) (by omega)
  refine hK _ _ HSb.out ?_
  clear hK K
  refine Sch.tree_e rfl rfl (fun K hK => ?_)
  go_wp2_with fail
  refine hK _ _ HSb2.out ?_
  clear hK K
  generalize (w4.setCell ⟨w.heap.size + 1, 0, none⟩ (.slice a6 C.1.length n6)).setCell ⟨w.heap.size + 1, 1, none⟩ (.slice b6 C.2.length m6) = W at *
  refine Sch.tree_n ?_
  have q0 := HP.out.1
  have q1 := HP.out.2
  go_wp2_with fail
  (try simp only [Exit.inBlock, Exit.then])
  refine bodyPost_ret (v := cv (.slice a6 C.1.length n6) (.slice b6 C.2.length m6)) (by rw [results_cell1 (fn := Try.f32) (p := 4) (ty := 25) rfl]; go_simp) rfl ?_
  exact ⟨_, _, rfl, HX2.out, HY2.out, HB4.out⟩

set_option maxRecDepth 100000 in
set_option maxHeartbeats 1000000 in
theorem union_ref6 (xs ys us vs : List Dt) (a b p q : Option Addr) (n m j k : Nat) (w : World) (hv : Vc (xs, ys)) (hv2 : Vc (us, vs)) (hx : RowD w a xs) (hy : RowD w b ys) (hu : RowD w p us) (hvr : RowD w q vs) (hna : a = none → n = 0) (hla : xs.length ≤ n) (hlx : xs.length ≤ 400000) (hly : ys.length ≤ 400000) (hlu : us.length ≤ 400000) (hlv : vs.length ≤ 400000) :
    Calls Try.prog 35 #[cv (.slice a xs.length n) (.slice b ys.length m), cv (.slice p us.length j) (.slice q vs.length k)] w fun e w' => ∃ x y, e = .returned (cv x y) ∧ SV w' x (unionC (xs, ys) (us, vs)).1 ∧ SV w' y (unionC (xs, ys) (us, vs)).2 ∧ Below w.heap.size w w' := by
  have HM := Lib.hid (fun w h1 h2 => E.merge_ref xs us a p n j w h1 hna hla h2 (by omega) (by omega))
  have HU := Lib.hid (fun w h1 h2 => union_ref ys vs b q m k w h1 h2 (by omega) (by omega))
  have hlm := E.vd_len (E.merge_vd hv.1 hv2.1)
  have HC := Lib.hid (fun e f g h w h1 h2 h3 h4 h5 h6 => compact_ref (E.mergeR xs us) (unionR ys vs) e f g h w (union_pre hv hv2) h1 h2 h3 h4 h5 h6 (Nat.le_trans hlm (by omega)) (by have := union_len ys vs; omega))
  have HE : Hid (compC (E.mergeR xs us, unionR ys vs) = unionC (xs, ys) (us, vs)) := rfl
  rw [HE.out] at HC
  have HT := Lib.hid (two_new w (.slice a xs.length n) (.slice b ys.length m))
  have HB := Lib.hid (bel_box w (cbox (.slice a xs.length n) (.slice b ys.length m)))
  have hsz : (w.alloc (cbox (.slice a xs.length n) (.slice b ys.length m))).heap.size = w.heap.size + 1 := by simp
  have hb := bel_box (w.alloc (cbox (.slice a xs.length n) (.slice b ys.length m))) (cbox (.slice p us.length j) (.slice q vs.length k))
  have HS := Lib.hid (two_new (w.alloc (cbox (.slice a xs.length n) (.slice b ys.length m))) (.slice p us.length j) (.slice q vs.length k))
  rw [hsz] at HS
  replace HT := Lib.hid (HT.out.keep hb)
  replace HB := bel_tr HB hb
  have hsz2 : ((w.alloc (cbox (.slice a xs.length n) (.slice b ys.length m))).alloc (cbox (.slice p us.length j) (.slice q vs.length k))).heap.size = w.heap.size + 1 + 1 := by simp
  have hb2 := bel_box ((w.alloc (cbox (.slice a xs.length n) (.slice b ys.length m))).alloc (cbox (.slice p us.length j) (.slice q vs.length k))) (cbox (.slice none 0 0) (.slice none 0 0))
  have HR := Lib.hid (rc_new ((w.alloc (cbox (.slice a xs.length n) (.slice b ys.length m))).alloc (cbox (.slice p us.length j) (.slice q vs.length k))) none none 0 0 0 0)
  rw [hsz2] at HR
  replace HT := Lib.hid (HT.out.keep hb2)
  replace HS := Lib.hid (HS.out.keep hb2)
  replace HB := bel_tr HB hb2
  have HX := Lib.hid (hx.keep HB.out)
  have HYr := Lib.hid (hy.keep HB.out)
  have HUr := Lib.hid (hu.keep HB.out)
  have HVr := Lib.hid (hvr.keep HB.out)
  clear hx hy hu hvr hna hla hlx hly hlu hlv hsz hb hsz2 hb2 HE hv hv2 hlm
  generalize unionC (xs, ys) (us, vs) = C at *
  generalize unionR ys vs = s at *
  generalize E.mergeR xs us = mg at *
  go_enter Try.func35, Try.ntmps35
  go_wp2_with fail
  generalize ((w.alloc (cbox (.slice a xs.length n) (.slice b ys.length m))).alloc (cbox (.slice p us.length j) (.slice q vs.length k))).alloc (cbox (.slice none 0 0) (.slice none 0 0)) = w1 at *
  have HSb : Hid (Sb2 w.heap.size (w.heap.size + 1) (.slice a xs.length n) (.slice b ys.length m) (.slice p us.length j) (.slice q vs.length k) w1) := ⟨HT.out, HS.out⟩
  clear HT HS
  refine Sch.wp_region_tree (Sb2 w.heap.size (w.heap.size + 1) (.slice a xs.length n) (.slice b ys.length m) (.slice p us.length j) (.slice q vs.length k)) (.take 0 (.take 1 (.take 2 (.take 3 (.take 5 (.take 6 (.take 7 (.take 8 (.one 4 (.one 9 (.one 10 (.one 11 (.one 12 .done))))))))))))) (by kernel_rfl) (by kernel_rfl) (HSb.out.keep ((Below.refl _ _).drew)) ?_
  have hb : Below w1.heap.size w1 w1.drew := (Below.refl _ _).drew
  replace HSb := Lib.hid (HSb.out.keep hb)
  replace HR := Lib.hid (HR.out.keep hb)
  replace HX := Lib.hid (HX.out.keep hb)
  replace HYr := Lib.hid (HYr.out.keep hb)
  replace HUr := Lib.hid (HUr.out.keep hb)
  replace HVr := Lib.hid (HVr.out.keep hb)
  replace HB := bel_tr HB hb
  clear hb
  generalize w1.drew = w2 at *
  refine Sch.tree_q rfl rfl (fun K hK => ?_)
  go_big_quiet_op
  first | refine hK _ ?_ | refine ⟨_, fun _ _ => rfl, hK _ ?_⟩
  clear hK K
  refine tree_load _ _ _ _ _ rfl rfl rfl rfl (by first | exact Sb2.l | exact Sb2.la | exact Sb2.l0 | exact Sb2.l1 | exact Sb2.r0 | exact Sb2.r1) rfl ?_
  simp only [Act.put, List.setIfInBounds_toArray, List.set_cons_zero, List.set_cons_succ]
  refine Sch.tree_q rfl rfl (fun K hK => ?_)
  go_big_quiet_op
  first | refine hK _ ?_ | refine ⟨_, fun _ _ => rfl, hK _ ?_⟩
  clear hK K
  refine tree_load _ _ _ _ _ rfl rfl rfl rfl (by first | exact Sb2.l | exact Sb2.la | exact Sb2.l0 | exact Sb2.l1 | exact Sb2.r0 | exact Sb2.r1) rfl ?_
  simp only [Act.put, List.setIfInBounds_toArray, List.set_cons_zero, List.set_cons_succ]
  refine Sch.tree_q rfl rfl (fun K hK => ?_)
  go_big_quiet_op
  first | refine hK _ ?_ | refine ⟨_, fun _ _ => rfl, hK _ ?_⟩
  clear hK K
  refine tree_load _ _ _ _ _ rfl rfl rfl rfl (by first | exact Sb2.l | exact Sb2.la | exact Sb2.l0 | exact Sb2.l1 | exact Sb2.r0 | exact Sb2.r1) rfl ?_
  simp only [Act.put, List.setIfInBounds_toArray, List.set_cons_zero, List.set_cons_succ]
  refine Sch.tree_q rfl rfl (fun K hK => ?_)
  go_big_quiet_op
  first | refine hK _ ?_ | refine ⟨_, fun _ _ => rfl, hK _ ?_⟩
  clear hK K
  refine tree_load _ _ _ _ _ rfl rfl rfl rfl (by first | exact Sb2.l | exact Sb2.la | exact Sb2.l0 | exact Sb2.l1 | exact Sb2.r0 | exact Sb2.r1) rfl ?_
  simp only [Act.put, List.setIfInBounds_toArray, List.set_cons_zero, List.set_cons_succ]
  refine Sch.tree_e rfl rfl (fun K hK => ?_)
  go_wp2_with fail
  refine (HM.out _ HX.out HUr.out).mono ?_
  rintro e w3 ⟨v2, rfl, hsv, hb⟩
  have HSm := Lib.hid hsv
  replace HSb := Lib.hid (HSb.out.keep hb)
  replace HR := Lib.hid (HR.out.keep hb)
  replace HYr := Lib.hid (HYr.out.keep hb)
  replace HVr := Lib.hid (HVr.out.keep hb)
  replace HB := bel_tr HB hb
  clear hsv hb HM
  refine hK _ _ HSb.out ?_
  clear hK K
  refine Sch.tree_e rfl rfl (fun K hK => ?_)
  go_wp2_with fail
  refine (HU.out _ HYr.out HVr.out).mono ?_
  rintro e w4 ⟨v3, rfl, ho, hb⟩
  obtain ⟨a2, c2, rfl, hr, hn2, hl2, -⟩ := ho.row
  replace HSm := Lib.hid (HSm.out.keep hb)
  replace HSb := Lib.hid (HSb.out.keep hb)
  replace HR := Lib.hid (HR.out.keep hb)
  replace HB := bel_tr HB hb
  obtain ⟨a3, c3, rfl, hr3, hn3, hl3⟩ := SV.sh HSm.out
  have HC2 := Lib.hid (HC.out a3 a2 c3 c2 w4 hr3 hr hn3 hl3 (fun h => (hn2 h).1) hl2)
  clear ho hb hr hn2 hl2 HU HC hr3 hn3 hl3
  refine hK _ _ HSb.out ?_
  clear hK K
  refine Sch.tree_e rfl rfl (fun K hK => ?_)
  go_wp2_with fail
  refine hK _ _ HSb.out ?_
  clear hK K
  refine Sch.tree_e rfl rfl (fun K hK => ?_)
  go_wp2_with fail
  refine (HC2.out).mono ?_
  rintro e w5 ⟨x, y, rfl, hs1, hs2, hb⟩
  have HSx := Lib.hid hs1
  have HSy := Lib.hid hs2
  replace HSb := Lib.hid (HSb.out.keep hb)
  replace HR := Lib.hid (HR.out.keep hb)
  replace HB := bel_tr HB hb
  clear hs1 hs2 hb HC2
  obtain ⟨⟨u0, r0⟩, r1⟩ := HR.out.wc 0 (by omega)
  obtain ⟨⟨u1, r2⟩, r3⟩ := HR.out.wc 1 (by omega)
  obtain ⟨a6, n6, rfl, -⟩ := SV.sh HSx.out
  obtain ⟨b6, m6, rfl, -⟩ := SV.sh HSy.out
  have HP := Lib.hid (put_two (x := .slice a6 C.1.length n6) (y := .slice b6 C.2.length m6) HR.out.wc)
  have HX2 := Lib.hid (SV.put2 (y := .slice a6 C.1.length n6) (z := .slice b6 C.2.length m6) HSx.out HR.out)
  have HY2 := Lib.hid (SV.put2 (y := .slice a6 C.1.length n6) (z := .slice b6 C.2.length m6) HSy.out HR.out)
  have HB4 := Lib.hid (below_put2 (g := w.heap.size + 1 + 1) (y := .slice a6 C.1.length n6) (z := .slice b6 C.2.length m6) HB (by omega))
  have HSb2 : Hid (Sb2 w.heap.size (w.heap.size + 1) (.slice a xs.length n) (.slice b ys.length m) (.slice p us.length j) (.slice q vs.length k) ((w5.setCell ⟨w.heap.size + 1 + 1, 0, none⟩ (.slice a6 C.1.length n6)).setCell ⟨w.heap.size + 1 + 1, 1, none⟩ (.slice b6 C.2.length m6))) := ⟨Bc.set (Bc.set HSb.out.1 (by omega)) (by omega), Bc.set (Bc.set HSb.out.2 (by omega)) (by omega)⟩
  refine hK _ _ HSb.out ?_
  clear hK K
  refine Sch.tree_e rfl rfl (fun K hK => ?_)
  go_wp2_with fail
  refine hK _ _ HSb2.out ?_
  clear hK K
  generalize (w5.setCell ⟨w.heap.size + 1 + 1, 0, none⟩ (.slice a6 C.1.length n6)).setCell ⟨w.heap.size + 1 + 1, 1, none⟩ (.slice b6 C.2.length m6) = W at *
  refine Sch.tree_n ?_
  have q0 := HP.out.1
  have q1 := HP.out.2
  go_wp2_with fail
  (try simp only [Exit.inBlock, Exit.then])
  refine bodyPost_ret (v := cv (.slice a6 C.1.length n6) (.slice b6 C.2.length m6)) (by rw [results_cell1 (fn := Try.f35) (p := 4) (ty := 25) rfl]; go_simp) rfl ?_
  exact ⟨_, _, rfl, HX2.out, HY2.out, HB4.out⟩
end Go.Proofs.Ytefnoajkdhgonaa.F
end

/-
  The reference's Within, Missing and Size.
-/
section
namespace Go.Proofs.Ytefnoajkdhgonaa.F
set_option linter.unusedVariables false
open Go.RowKit V Go.Sort D
open E (SV SV.nil SV.keep SV.of_od Vd getV get_ge hasV withinV)

/-- A box, and a dot in memory, as a class of worlds. -/
def Sd (g : Nat) (x y : Value) (b o : Nat) (d : Dt) (w : World) : Prop := Bc w g x y ∧ w.cell? ⟨b, o, none⟩ = some (.int .i64 d.1) ∧ w.cell? ⟨b, o + 1, none⟩ = some (.int .i64 d.2)
theorem Sd.keep {g : Nat} {x y : Value} {b o : Nat} {d : Dt} {w w' : World} (h : Sd g x y b o d w) (hb : Below w.heap.size w w') : Sd g x y b o d w' :=
  ⟨h.1.keep hb, (hb.cell (p := ⟨b, o, none⟩) (lt_of_cell h.2.1)).trans h.2.1, (hb.cell (p := ⟨b, o + 1, none⟩) (lt_of_cell h.2.2)).trans h.2.2⟩
theorem Sd.l {g : Nat} {x y : Value} {b o : Nat} {d : Dt} : ∀ w, Sd g x y b o d w → (Instr.loadAt 25 (.pointer (some ⟨g, 0, none⟩))).run Try.prog w = .ok (cv x y) w := fun w k => load_ctx k.1
theorem Sd.d {g : Nat} {x y : Value} {b o : Nat} {d : Dt} : ∀ w, Sd g x y b o d w → (Instr.loadAt 38 (.pointer (some ⟨b, o, none⟩))).run Try.prog w = .ok (.agg #[.int .i64 d.1, .int .i64 d.2]) w := fun w k => load_dot k.2.1 k.2.2
/-- Two boxes, and a dot. -/
def Se (g h : Nat) (x y u v : Value) (b o : Nat) (d : Dt) (w : World) : Prop := Sb2 g h x y u v w ∧ w.cell? ⟨b, o, none⟩ = some (.int .i64 d.1) ∧ w.cell? ⟨b, o + 1, none⟩ = some (.int .i64 d.2)
theorem Se.keep {g h : Nat} {x y u v : Value} {b o : Nat} {d : Dt} {w w' : World} (k : Se g h x y u v b o d w) (hb : Below w.heap.size w w') : Se g h x y u v b o d w' :=
  ⟨k.1.keep hb, (hb.cell (p := ⟨b, o, none⟩) (lt_of_cell k.2.1)).trans k.2.1, (hb.cell (p := ⟨b, o + 1, none⟩) (lt_of_cell k.2.2)).trans k.2.2⟩
theorem Se.l {g h : Nat} {x y u v : Value} {b o : Nat} {d : Dt} : ∀ w, Se g h x y u v b o d w → (Instr.loadAt 25 (.pointer (some ⟨h, 0, none⟩))).run Try.prog w = .ok (cv u v) w := fun w k => load_ctx k.1.2
theorem Se.l1 {g h : Nat} {x y u v : Value} {b o : Nat} {d : Dt} : ∀ w, Se g h x y u v b o d w → (Instr.loadAt 22 (.pointer (some ⟨g, 1, none⟩))).run Try.prog w = .ok y w := fun w k => load_d k.1.1.2
theorem Se.d {g h : Nat} {x y u v : Value} {b o : Nat} {d : Dt} : ∀ w, Se g h x y u v b o d w → (Instr.loadAt 38 (.pointer (some ⟨b, o, none⟩))).run Try.prog w = .ok (.agg #[.int .i64 d.1, .int .i64 d.2]) w := fun w k => load_dot k.2.1 k.2.2

theorem fold_ins {c : Ct} {l : List Dt} {k : Nat} (h : k < l.length) : missR c (l.take (k + 1)) = if hasC c l[k] = true then missR c (l.take k) else ins (missR c (l.take k)) l[k] := by
  unfold missR
  rw [filter_take h]
  rcases hasC c l[k] with _ | _
  · simp [List.foldl_append]
  · simp
theorem miss_len (c : Ct) (l : List Dt) : (missR c l).length ≤ l.length := by
  unfold missR
  have h1 := fold_len (l.filter fun d => !hasC c d) []
  have h2 := List.length_filter_le (fun d => !hasC c d) l
  simp at h1
  omega

set_option maxRecDepth 100000 in
set_option maxHeartbeats 1000000 in
theorem missing_ref (xs ys l : List Dt) (a b p : Option Addr) (n m j : Nat) (w : World) (hx : RowD w a xs) (hy : RowD w b ys) (hl : RowD w p l) (hlx : xs.length ≤ 1000000) (hly : ys.length ≤ 1000000) (hll : l.length ≤ 1000000) :
    Calls Try.prog 28 #[cv (.slice a xs.length n) (.slice b ys.length m), .slice p l.length j] w fun e w' => ∃ v, e = .returned v ∧ OD w' w.heap.size E v (missR (xs, ys) l) ∧ Below w.heap.size w w' := by
  have HH := Lib.hid (fun d w h1 h2 => has_ref xs ys d a b n m w h1 h2 hlx hly)
  have HW := Lib.hid (fun s d a c base w h1 h2 h3 => with_ref s d a c base w h1 h2 h3)
  have HLn := Lib.hid hll
  have HT := Lib.hid (two_new w (.slice a xs.length n) (.slice b ys.length m))
  have HB0 := Lib.hid (bel_box w (cbox (.slice a xs.length n) (.slice b ys.length m)))
  have HX := Lib.hid (hx.keep HB0.out)
  have HYr := Lib.hid (hy.keep HB0.out)
  have HL := Lib.hid (hl.keep HB0.out)
  have hlj : (l.length : Int) ≤ 1000000 := by omega
  clear hx hy hl hlx hly hll
  go_enter Try.func28, Try.ntmps28
  go_wp2_with fail
  generalize w.alloc (cbox (.slice a xs.length n) (.slice b ys.length m)) = w1 at *
  go_loopw [5, 6] (fun v i wr => ∃ k : Nat, k ≤ l.length ∧ i = .int .i64 (k : Int) ∧ Hid (Below w1.heap.size w1 wr) ∧ Hid (OD wr w1.heap.size E v (missR (xs, ys) (l.take k)))) (fun _ i _ => l.length - (intOf i).toNat)
  case atStart => exact ⟨0, Nat.zero_le _, rfl, Below.refl _ _, by show OD _ _ _ _ _; rw [List.take_zero]; exact OD.nil _ _ _⟩
  case round =>
    obtain ⟨k, hk, rfl, hh, HO⟩ := hrel
    by_cases hlt : k < l.length
    · have hi1 : (k : Int) < (l.length : Int) := by omega
      obtain ⟨b1, o1, rfl, p0, p1⟩ := HL.out.get hh.out k hlt
      have HF := Lib.hid (fold_ins (c := (xs, ys)) hlt)
      have HMl := Lib.hid (miss_len (xs, ys) (l.take k))
      obtain ⟨q, hq⟩ : ∃ q, q = l[k] := ⟨_, rfl⟩
      rw [← hq] at p0 p1 HF
      clear hq
      have HK : Hid (Sd w.heap.size (.slice a xs.length n) (.slice b ys.length m) b1 (o1 + k * 2) q wr) := ⟨HT.out.keep hh.out, p0, p1⟩
      have HX1 := Lib.hid (HX.out.keep hh.out)
      have HY1 := Lib.hid (HYr.out.keep hh.out)
      have hix := ix_dot b1 o1 l.length j k (k : Int) rfl hlt
      clear p0 p1
      obtain ⟨q1, q2⟩ := q
      go_wp2_with fail
      refine Sch.wp_region_tree (Sd w.heap.size (.slice a xs.length n) (.slice b ys.length m) b1 (o1 + k * 2) (q1, q2)) (.take 0 (.take 1 (.take 2 (.take 3 (.take 4 (.one 5 (.take 6 .done))))))) (by kernel_rfl) (by kernel_rfl) (HK.out.keep ((Below.refl _ _).drew)) ?_
      have hb : Below wr.heap.size wr wr.drew := (Below.refl _ _).drew
      replace HK := Lib.hid (HK.out.keep hb)
      replace HX1 := Lib.hid (HX1.out.keep hb)
      replace HY1 := Lib.hid (HY1.out.keep hb)
      replace HO := Lib.hid (HO.out.below hb)
      have HB1 := bel_tr hh hb
      clear hb
      generalize wr.drew = w2 at *
      refine tree_load _ _ _ _ _ rfl rfl rfl rfl (by first | exact Sd.l | exact Sd.d) rfl ?_
      simp only [Act.put, List.setIfInBounds_toArray, List.set_cons_zero, List.set_cons_succ]
      refine Sch.tree_q rfl rfl (fun K hK => ?_)
      go_big_quiet_op
      first | refine hK _ ?_ | refine ⟨_, fun _ _ => rfl, hK _ ?_⟩
      clear hK K
      refine Sch.tree_q rfl rfl (fun K hK => ?_)
      go_big_quiet_op
      first | refine hK _ ?_ | refine ⟨_, fun _ _ => rfl, hK _ ?_⟩
      clear hK K
      refine Sch.tree_q rfl rfl (fun K hK => ?_)
      go_big_quiet_op
      first | refine hK _ ?_ | refine ⟨_, fun _ _ => rfl, hK _ ?_⟩
      clear hK K
      refine tree_load _ _ _ _ _ rfl rfl rfl rfl (by first | exact Sd.l | exact Sd.d) rfl ?_
      simp only [Act.put, List.setIfInBounds_toArray, List.set_cons_zero, List.set_cons_succ]
      refine Sch.tree_e rfl rfl (fun K hK => ?_)
      go_wp2_with fail
      refine (HH.out (q1, q2) _ HX1.out HY1.out).mono ?_
      rintro e w3 ⟨rfl, hb⟩
      replace HK := Lib.hid (HK.out.keep hb)
      replace HO := Lib.hid (HO.out.below hb)
      replace HB1 := bel_tr HB1 hb
      clear hb
      refine hK _ _ HK.out ?_
      clear hK K
      refine Sch.tree_q rfl rfl (fun K hK => ?_)
      go_big_quiet_op
      first | refine hK _ ?_ | refine ⟨_, fun _ _ => rfl, hK _ ?_⟩
      clear hK K
      refine Sch.tree_n ?_
      rcases hq : hasC (xs, ys) (q1, q2) with _ | _
      · have hf := HF.out
        rw [hq, if_neg (by simp)] at hf
        have HF2 := Lib.hid hf
        clear hf hq HF
        have k0 := HK.out.2.1
        have k1 := HK.out.2.2
        generalize missR (xs, ys) (l.take k) = s at *
        obtain ⟨a9, c9, rfl, -⟩ := HO.out.row
        have HW2 := Lib.hid (HW.out s (q1, q2) a9 c9 w1.heap.size w3 HO.out HB1.out.size (by have := HMl.out; rw [List.length_take] at this; omega))
        go_wp2_with fail
        refine HW2.out.mono ?_
        rintro e w4 ⟨v, rfl, ho, hb⟩
        have HO2 := Lib.hid ho
        have HB2 := bel_tr HB1 hb
        clear ho hb HW2
        go_wp2_with fail
        go_roundw
        case rel => exact ⟨k + 1, by omega, by go_num, HB2, by show OD _ _ _ _ _; rw [HF2.out]; exact HO2.out⟩
        case measure => simp [intOf]; omega
      · have hf := HF.out
        rw [hq, if_pos rfl] at hf
        have HF2 := Lib.hid hf
        clear hf hq HF
        go_wp2_with fail
        go_roundw
        case rel => exact ⟨k + 1, by omega, by go_num, HB1, by show OD _ _ _ _ _; rw [HF2.out]; exact HO.out⟩
        case measure => simp [intOf]; omega
    · obtain rfl : k = l.length := by omega
      have hi1 : ¬ (l.length : Int) < (l.length : Int) := by omega
      rw [List.take_length] at HO
      have HO2 : Hid (OD wr w.heap.size E u5 (missR (xs, ys) l)) := HO.out.mono fun k hk => Nat.le_trans HB0.out.size (HO.out.lt k hk).1
      have HB2 := bel_tr HB0 hh.out
      go_wp2_with fail
      go_ret
      exact ⟨_, rfl, HO2.out, HB2.out⟩

set_option maxRecDepth 100000 in
set_option maxHeartbeats 1000000 in
theorem within_ref6 (xs ys us vs : List Dt) (a b p q : Option Addr) (n m j k : Nat) (w : World) (hv2 : Vc (us, vs)) (hx : RowD w a xs) (hy : RowD w b ys) (hu : RowD w p us) (hvr : RowD w q vs) (hnp : p = none → j = 0) (hlp : us.length ≤ j) (hnq : q = none → k = 0) (hlq : vs.length ≤ k) (hlx : xs.length ≤ 1000000) (hly : ys.length ≤ 1000000) (hlu : us.length ≤ 100) (hlv : vs.length ≤ 900000) :
    Calls Try.prog 36 #[cv (.slice a xs.length n) (.slice b ys.length m), cv (.slice p us.length j) (.slice q vs.length k)] w fun e w' => e = .returned (.bool (withinC (xs, ys) (us, vs))) ∧ Below w.heap.size w w' := by
  have HC := Lib.hid (fun w h1 h2 => compact_ref us vs p q j k w hv2 h1 h2 hnp hlp hnq hlq hlu hlv)
  have hcl := comp_len hv2
  have HH := Lib.hid (fun d e f g h w h1 h2 => has_ref (compC (us, vs)).1 (compC (us, vs)).2 d e f g h w h1 h2 (by omega) (by omega))
  have HW := Lib.hid (fun f h w h1 h2 => E.within_ref xs (compC (us, vs)).1 a f n h w h1 h2 (by omega) (by omega))
  have HE : Hid (withinC (xs, ys) (us, vs) = ((ys.all fun d => hasC ((compC (us, vs)).1, (compC (us, vs)).2) d) && withinV xs (compC (us, vs)).1)) := rfl
  have HT := Lib.hid (two_new w (.slice a xs.length n) (.slice b ys.length m))
  have HB := Lib.hid (bel_box w (cbox (.slice a xs.length n) (.slice b ys.length m)))
  have hsz : (w.alloc (cbox (.slice a xs.length n) (.slice b ys.length m))).heap.size = w.heap.size + 1 := by simp
  have hb := bel_box (w.alloc (cbox (.slice a xs.length n) (.slice b ys.length m))) (cbox (.slice p us.length j) (.slice q vs.length k))
  have HS := Lib.hid (two_new (w.alloc (cbox (.slice a xs.length n) (.slice b ys.length m))) (.slice p us.length j) (.slice q vs.length k))
  have HR := Lib.hid (rc_new (w.alloc (cbox (.slice a xs.length n) (.slice b ys.length m))) p q us.length j vs.length k)
  rw [hsz] at HS HR
  replace HT := Lib.hid (HT.out.keep hb)
  replace HB := bel_tr HB hb
  have HX0 := Lib.hid hx
  have HY0 := Lib.hid hy
  have HUr := Lib.hid (hu.keep HB.out)
  have HVr := Lib.hid (hvr.keep HB.out)
  have hlj : (ys.length : Int) ≤ 1000000 := by omega
  clear hx hy hu hvr hnp hlp hnq hlq hlx hly hlu hlv hsz hb hv2 hcl
  generalize withinC (xs, ys) (us, vs) = R at *
  generalize compC (us, vs) = C at *
  generalize withinV xs C.1 = vw at *
  have k2 := HS.out.1
  have k3 := HS.out.2
  go_enter Try.func36, Try.ntmps36
  go_wp2_with fail
  generalize (w.alloc (cbox (.slice a xs.length n) (.slice b ys.length m))).alloc (cbox (.slice p us.length j) (.slice q vs.length k)) = w1 at *
  refine (HC.out _ HUr.out HVr.out).mono ?_
  rintro e w2 ⟨x, y, rfl, hs1, hs2, hb⟩
  have HSx := Lib.hid hs1
  have HSy := Lib.hid hs2
  replace HT := Lib.hid (HT.out.keep hb)
  replace HR := Lib.hid (HR.out.keep hb)
  replace HB := bel_tr HB hb
  clear hs1 hs2 hb HC HUr HVr HS k2 k3
  obtain ⟨⟨u0, r0⟩, r1⟩ := HR.out.wc 0 (by omega)
  obtain ⟨⟨u1, r2⟩, r3⟩ := HR.out.wc 1 (by omega)
  obtain ⟨a6, n6, rfl, -⟩ := SV.sh HSx.out
  obtain ⟨b6, m6, rfl, -⟩ := SV.sh HSy.out
  have HP := Lib.hid (put_two (x := .slice a6 C.1.length n6) (y := .slice b6 C.2.length m6) HR.out.wc)
  have HX2 := Lib.hid (SV.put2 (y := .slice a6 C.1.length n6) (z := .slice b6 C.2.length m6) HSx.out HR.out)
  have HY2 := Lib.hid (SV.put2 (y := .slice a6 C.1.length n6) (z := .slice b6 C.2.length m6) HSy.out HR.out)
  have HB2 := Lib.hid (below_put2 (g := w.heap.size + 1) (y := .slice a6 C.1.length n6) (z := .slice b6 C.2.length m6) HB (by omega))
  have HT2 : Hid (Bc ((w2.setCell ⟨w.heap.size + 1, 0, none⟩ (.slice a6 C.1.length n6)).setCell ⟨w.heap.size + 1, 1, none⟩ (.slice b6 C.2.length m6)) w.heap.size (.slice a xs.length n) (.slice b ys.length m)) := Bc.set (Bc.set HT.out (by omega)) (by omega)
  clear HT HR HB HSx HSy
  go_wp2_with fail
  generalize (w2.setCell ⟨w.heap.size + 1, 0, none⟩ (.slice a6 C.1.length n6)).setCell ⟨w.heap.size + 1, 1, none⟩ (.slice b6 C.2.length m6) = w3 at *
  clear r0 r1 r2 r3
  obtain ⟨a7, n7, e7, hr7, -⟩ := HX2.out
  obtain ⟨b7, m7, e8, hr8, -⟩ := HY2.out
  cases e7
  cases e8
  have HR7 := Lib.hid hr7
  have HR8 := Lib.hid hr8
  have HYr := Lib.hid (HY0.out.keep HB2.out)
  have HXr := Lib.hid (HX0.out.keep HB2.out)
  clear hr7 hr8 HX2 HY2
  go_loopw [5] (fun i wr => ∃ t : Nat, t ≤ ys.length ∧ i = .int .i64 (t : Int) ∧ Hid (Below w3.heap.size w3 wr) ∧ Hid (∀ j (hj : j < ys.length), j < t → hasC (C.1, C.2) ys[j] = true)) (fun i _ => ys.length - (intOf i).toNat)
  case atStart => exact ⟨0, Nat.zero_le _, rfl, Below.refl _ _, fun j _ h => by omega⟩
  case round =>
    obtain ⟨t, ht, rfl, hh, HV⟩ := hrel
    have HT3 := Lib.hid (HT2.out.keep hh.out)
    have HP3 := Lib.hid (HP.out.keep hh.out)
    have k1 := HT3.out.2
    by_cases hlt : t < ys.length
    · have hi1 : (t : Int) < (ys.length : Int) := by omega
      obtain ⟨b1, o1, rfl, p0, p1⟩ := HYr.out.get hh.out t hlt
      have HNo := Lib.hid (all_here (p := fun d => hasC (C.1, C.2) d) hlt)
      obtain ⟨d, hd⟩ : ∃ d, d = ys[t] := ⟨_, rfl⟩
      rw [← hd] at p0 p1 HNo
      have HDe := Lib.hid hd
      clear hd
      have HK : Hid (Se w.heap.size (w.heap.size + 1) (.slice a xs.length n) (.slice (some ⟨b1, o1, none⟩) ys.length m) (.slice a6 C.1.length n6) (.slice b6 C.2.length m6) b1 (o1 + t * 2) d wr) := ⟨⟨HT3.out, HP3.out⟩, p0, p1⟩
      have HR9 := Lib.hid (HR7.out.keep hh.out)
      have HR10 := Lib.hid (HR8.out.keep hh.out)
      have hix := ix_dot b1 o1 ys.length m t (t : Int) rfl hlt
      clear p0 p1 HT3 HP3
      obtain ⟨d1, d2⟩ := d
      go_wp2_with fail
      refine Sch.wp_region_tree (Se w.heap.size (w.heap.size + 1) (.slice a xs.length n) (.slice (some ⟨b1, o1, none⟩) ys.length m) (.slice a6 C.1.length n6) (.slice b6 C.2.length m6) b1 (o1 + t * 2) (d1, d2)) (.take 0 (.take 1 (.take 2 (.take 3 (.take 4 (.take 5 (.one 6 (.take 7 .done)))))))) (by kernel_rfl) (by kernel_rfl) (HK.out.keep ((Below.refl _ _).drew)) ?_
      have hb : Below wr.heap.size wr wr.drew := (Below.refl _ _).drew
      replace HK := Lib.hid (HK.out.keep hb)
      replace HR9 := Lib.hid (HR9.out.keep hb)
      replace HR10 := Lib.hid (HR10.out.keep hb)
      have HB1 := bel_tr hh hb
      clear hb k1
      generalize wr.drew = w4 at *
      refine tree_load _ _ _ _ _ rfl rfl rfl rfl (by first | exact Se.l | exact Se.l1 | exact Se.d) rfl ?_
      simp only [Act.put, List.setIfInBounds_toArray, List.set_cons_zero, List.set_cons_succ]
      refine Sch.tree_q rfl rfl (fun K hK => ?_)
      go_big_quiet_op
      first | refine hK _ ?_ | refine ⟨_, fun _ _ => rfl, hK _ ?_⟩
      clear hK K
      refine tree_load _ _ _ _ _ rfl rfl rfl rfl (by first | exact Se.l | exact Se.l1 | exact Se.d) rfl ?_
      simp only [Act.put, List.setIfInBounds_toArray, List.set_cons_zero, List.set_cons_succ]
      refine Sch.tree_q rfl rfl (fun K hK => ?_)
      go_big_quiet_op
      first | refine hK _ ?_ | refine ⟨_, fun _ _ => rfl, hK _ ?_⟩
      clear hK K
      refine Sch.tree_q rfl rfl (fun K hK => ?_)
      go_big_quiet_op
      first | refine hK _ ?_ | refine ⟨_, fun _ _ => rfl, hK _ ?_⟩
      clear hK K
      refine tree_load _ _ _ _ _ rfl rfl rfl rfl (by first | exact Se.l | exact Se.l1 | exact Se.d) rfl ?_
      simp only [Act.put, List.setIfInBounds_toArray, List.set_cons_zero, List.set_cons_succ]
      refine Sch.tree_e rfl rfl (fun K hK => ?_)
      go_wp2_with fail
      refine (HH.out (d1, d2) _ _ _ _ _ HR9.out HR10.out).mono ?_
      rintro e w5 ⟨rfl, hb⟩
      replace HK := Lib.hid (HK.out.keep hb)
      replace HB1 := bel_tr HB1 hb
      clear hb
      refine hK _ _ HK.out ?_
      clear hK K
      refine Sch.tree_q rfl rfl (fun K hK => ?_)
      go_big_quiet_op
      first | refine hK _ ?_ | refine ⟨_, fun _ _ => rfl, hK _ ?_⟩
      clear hK K
      refine Sch.tree_n ?_
      rcases hq : hasC (C.1, C.2) (d1, d2) with _ | _
      · have hT := HNo.out hq
        have hR : R = false := by rw [HE.out, hT, Bool.false_and]
        have HBe : Hid (Below w.heap.size w w5) := bel_tr HB2 HB1.out
        clear hT hq HNo
        subst hR
        go_wp2_with fail
        go_ret
        exact ⟨rfl, HBe.out⟩
      · have HVq : Hid (∀ j (hj : j < ys.length), j < t + 1 → hasC (C.1, C.2) ys[j] = true) := fun j hj hjk => by
          by_cases e : j = t
          · subst e; rw [← HDe.out]; exact hq
          · exact HV.out j hj (by omega)
        clear hq HNo
        go_wp2_with fail
        go_roundw
        case rel => exact ⟨t + 1, by omega, by go_num, HB1, HVq⟩
        case measure => simp [intOf]; omega
    · obtain rfl : t = ys.length := by omega
      have hi1 : ¬ (ys.length : Int) < (ys.length : Int) := by omega
      have hA : (ys.all fun d => hasC (C.1, C.2) d) = true := all_away fun j hj => HV.out j hj hj
      have hR : R = vw := by rw [HE.out, hA, Bool.true_and]
      have HW2 := Lib.hid (HW.out a6 n6 wr (HXr.out.keep hh.out) (HR7.out.keep hh.out))
      have k0 := HT3.out.1
      have k2 := HP3.out.1
      clear hA
      subst hR
      go_wp2_with fail
      refine HW2.out.mono ?_
      rintro e w6 ⟨rfl, hl⟩
      have HBe : Hid (Below w.heap.size w w6) := bel_tr (bel_tr HB2 hh.out) hl.bel
      clear hl HW2 k0 k1 k2
      go_wp2_with fail
      go_ret
      exact ⟨rfl, HBe.out⟩
end Go.Proofs.Ytefnoajkdhgonaa.F
end

/-
  The reference's Size.
-/
section
namespace Go.Proofs.Ytefnoajkdhgonaa.F
set_option linter.unusedVariables false
open Go.RowKit V Go.Sort D
open E (SV SV.of_od Cm Vd getV get_ge hasV ix_vec)

set_option maxRecDepth 100000 in
set_option maxHeartbeats 1000000 in
theorem size_ref (xs ys : List Dt) (a b : Option Addr) (n m : Nat) (w : World) (hv : Vc (xs, ys)) (hx : RowD w a xs) (hy : RowD w b ys) (hlx : xs.length ≤ 1000000) (hly : ys.length ≤ 1000000) :
    Calls Try.prog 23 #[cv (.slice a xs.length n) (.slice b ys.length m)] w fun e w' => e = .returned (.int .u64 (sizeC (xs, ys))) ∧ Below w.heap.size w w' := by
  have H2 := Lib.hid (fun d W hx nn os => hasG_ref xs d a n W hx hlx nn os)
  have HE : Hid (sizeC (xs, ys) = sumV xs + cntN xs ys ys.length) := size_eq xs ys
  have HV := Lib.hid hv
  have HT := Lib.hid (two_new w (.slice a xs.length n) (.slice b ys.length m))
  have HB := Lib.hid (bel_box w (cbox (.slice a xs.length n) (.slice b ys.length m)))
  have HX := Lib.hid (hx.keep HB.out)
  have HYr := Lib.hid (hy.keep HB.out)
  have hli : (xs.length : Int) ≤ 1000000 := by omega
  have hlj : (ys.length : Int) ≤ 1000000 := by omega
  clear hx hy hlx hly hv
  generalize sizeC (xs, ys) = R at *
  go_enter Try.func23, Try.ntmps23
  go_wp2_with fail
  generalize w.alloc (cbox (.slice a xs.length n) (.slice b ys.length m)) = w2 at *
  go_loopw [3, 4] (fun c i wr => ∃ k : Nat, k ≤ xs.length ∧ i = .int .i64 (k : Int) ∧ c = .int .u64 (sumV (xs.take k)) ∧ Hid (Below w2.heap.size w2 wr)) (fun _ i _ => xs.length - (intOf i).toNat)
  case atStart => exact ⟨0, Nat.zero_le _, rfl, rfl, Below.refl _ _⟩
  case round =>
    obtain ⟨k, hk, rfl, rfl, hh⟩ := hrel
    have k0 := (HT.out.keep hh.out).1
    by_cases hlt : k < xs.length
    · have hi1 : (k : Int) < (xs.length : Int) := by omega
      obtain ⟨b1, o1, rfl, p0, p1⟩ := HX.out.get hh.out k hlt
      have HS : Hid (sumV (xs.take (k + 1)) = sumV (xs.take k) + xs[k].2) := sum_take hlt
      have hvi := valid_iff.1 (HV.out.1.1 xs[k] (List.getElem_mem hlt))
      have hs := sum_le (xs.take k) fun x hx => by have := valid_iff.1 (HV.out.1.1 x (List.mem_of_mem_take hx)); omega
      have hl2 : (xs.take k).length ≤ 1000000 := by rw [List.length_take]; omega
      obtain ⟨q, hq⟩ : ∃ q, q = xs[k] := ⟨_, rfl⟩
      rw [← hq] at p0 p1 HS hvi
      clear hq
      obtain ⟨q1, q2⟩ := q
      simp only at p0 p1 HS hvi
      have hb1 : 0 ≤ sumV (xs.take k) ∧ sumV (xs.take k) ≤ 4294967295000000 := by omega
      generalize sumV (xs.take k) = sm at *
      have hc := hvi.2.2
      clear hvi hs hl2
      have c1 : IntKind.u64.wrap q2 = q2 := by simp [IntKind.wrap, IntKind.bits, IntKind.signed]; omega
      have c2 : IntKind.u64.wrap (sm + q2) = sm + q2 := by simp [IntKind.wrap, IntKind.bits, IntKind.signed]; omega
      have HC := Lib.hid hc
      have HB1 := Lib.hid hb1
      clear hc hb1
      have hix := ix_vec b1 o1 xs.length n k (k : Int) rfl hlt
      go_wp2_with fail
      go_roundw
      case rel => exact ⟨k + 1, by omega, by go_num, by rw [HS.out], hh⟩
      case measure => simp [intOf]; omega
    · obtain rfl : k = xs.length := by omega
      have hi1 : ¬ (xs.length : Int) < (xs.length : Int) := by omega
      rw [List.take_length]
      have hs := sum_le xs fun x hx => by have := valid_iff.1 (HV.out.1.1 x hx); omega
      have HSm : Hid (0 ≤ sumV xs ∧ sumV xs ≤ 4294967295000000) := by show _ ∧ _; omega
      have HSt : Hid (sumV xs = sumV xs + cntN xs ys 0) := by show _ = _; unfold cntN; simp
      replace HT := Lib.hid (HT.out.keep hh.out)
      replace HX := Lib.hid (HX.out.keep hh.out)
      replace HYr := Lib.hid (HYr.out.keep hh.out)
      replace HB := bel_tr HB hh.out
      clear hs hh hlt
      go_wp2_with fail
      clear k0
      generalize wr = w4 at *
      go_loopw [3, 5] (fun c i wr => ∃ k : Nat, k ≤ ys.length ∧ i = .int .i64 (k : Int) ∧ c = .int .u64 (sumV xs + cntN xs ys k) ∧ Hid (Below w4.heap.size w4 wr)) (fun _ i _ => ys.length - (intOf i).toNat)
      case atStart => exact ⟨0, Nat.zero_le _, rfl, by rw [← HSt.out], Below.refl _ _⟩
      case round =>
        obtain ⟨k, hk, rfl, rfl, hh⟩ := hrel
        have mixed := mixed
        have HT1 := Lib.hid (HT.out.keep hh.out)
        have k1 := HT1.out.2
        by_cases hlt : k < ys.length
        · have hi1 : (k : Int) < (ys.length : Int) := by omega
          obtain ⟨b1, o1, rfl, p0, p1⟩ := HYr.out.get hh.out k hlt
          have HS : Hid (cntN xs ys (k + 1) = cntN xs ys k + if hasV xs ys[k] = true then 0 else 1) := cntN_succ hlt
          have hcn := cntN_le xs ys k
          obtain ⟨q, hq⟩ : ∃ q, q = ys[k] := ⟨_, rfl⟩
          rw [← hq] at p0 p1 HS
          clear hq
          have hb1 : 0 ≤ cntN xs ys k ∧ cntN xs ys k ≤ 1000000 := by omega
          generalize cntN xs ys k = cn at *
          clear hcn
          have hsb := HSm.out
          have c2 : IntKind.u64.wrap (sumV xs + cn + 1) = sumV xs + cn + 1 := by simp [IntKind.wrap, IntKind.bits, IntKind.signed]; omega
          have HC := Lib.hid hb1
          clear hb1 hsb
          obtain ⟨q1, q2⟩ := q
          simp only at p0 p1
          have HQ := Lib.hid (H2.out (q1, q2) wr (HX.out.keep hh.out))
          have hix := ix_dot b1 o1 ys.length m k (k : Int) rfl hlt
          have r0 := cellG p0
          have r1 := cellG p1
          have r2 := cellG HT1.out.1
          have r3 := cellG HT1.out.2
          generalize hasV xs (q1, q2) = hb at *
          go_wp2_with fail
          clear p0 p1 k1
          rcases hb with _ | _
          · refine wp_region_quiet_grown mixed (by kernel_rfl) ?_
            repeat (first | go_big_quiet_skip | (go_big_quiet_want; go_big_quiet_op; go_big_quiet_on))
            go_big_quiet_want
            go_big_quiet_op
            go_big_quiet_call ((go_at_call 50; exact HQ.out _ _))
            repeat (first | go_big_quiet_skip | (go_big_quiet_want; go_big_quiet_op; go_big_quiet_on))
            refine wpQuiet_nil ?_
            intro _ hw'
            obtain ⟨⟨nq, osq⟩, hw''⟩ := hw'
            subst hw''
            have HBq := bel_tr hh (bel_grown (Below.refl _ _) (Nat.le_refl _) nq osq)
            go_wp2_with fail
            go_roundw
            case rel => exact ⟨k + 1, by omega, by go_num, by rw [HS.out]; simp; omega, HBq⟩
            case measure => simp [intOf]; omega
          · refine wp_region_quiet_grown mixed (by kernel_rfl) ?_
            repeat (first | go_big_quiet_skip | (go_big_quiet_want; go_big_quiet_op; go_big_quiet_on))
            go_big_quiet_want
            go_big_quiet_op
            go_big_quiet_call ((go_at_call 50; exact HQ.out _ _))
            repeat (first | go_big_quiet_skip | (go_big_quiet_want; go_big_quiet_op; go_big_quiet_on))
            refine wpQuiet_nil ?_
            intro _ hw'
            obtain ⟨⟨nq, osq⟩, hw''⟩ := hw'
            subst hw''
            have HBq := bel_tr hh (bel_grown (Below.refl _ _) (Nat.le_refl _) nq osq)
            go_wp2_with fail
            go_roundw
            case rel => exact ⟨k + 1, by omega, by go_num, by rw [HS.out]; simp, HBq⟩
            case measure => simp [intOf]; omega
        · obtain rfl : k = ys.length := by omega
          have hi1 : ¬ (ys.length : Int) < (ys.length : Int) := by omega
          have hE := HE.out
          subst hE
          replace HB := bel_tr HB hh.out
          go_wp2_with fail
          go_ret
          exact ⟨rfl, HB.out⟩
end Go.Proofs.Ytefnoajkdhgonaa.F
end
