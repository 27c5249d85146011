/-
  OmapPlays.
-/
import Derived.Test.YtmmcnpcijeahcaaJLooks
namespace Go.Proofs.Ytmmcnpcijeahcaa.J
set_option linter.unusedVariables false
open Go.RowKit V Go.Shelf

theorem Mp.c0 {w : World} {g : Nat} {d : Bool} {L : List Pr} (h : Mp w g d L) : w.cell? ⟨g, 0, none⟩ = some (.func (.func (fnOf d)) #[] #[]) := by
  obtain ⟨T, h1, -⟩ := h
  exact h1.1
theorem ne_of {w : World} {a b : Nat} {u v : Value} (h : w.cell? ⟨a, 0, none⟩ = some u) (h' : w.cell? ⟨b, 0, none⟩ = some v) (hne : u ≠ v) : a ≠ b := by
  rintro rfl
  rw [h] at h'
  exact hne (Option.some.inj h')
/-- The box of the reference's map, and the row that it leads to. -/
def Sq (w : World) (R : Nat) (d : Bool) (M : List Pr) (av : Option Addr) (cv : Nat) : Prop :=
  Mb w R d (.slice av M.length cv) ∧ RowP w av M ∧ (∀ z, av = some z → z = ⟨z.block, 0, none⟩) ∧ M.length ≤ cv ∧ (av = none → cv = 0)
/-- The box of a call. -/
def Ab (w : World) (x : Nat) (y : Ac) : Prop := w.cell? ⟨x, 0, none⟩ = some (.int .i64 y.1) ∧ w.cell? ⟨x, 1, none⟩ = some (.int .i64 y.2.1) ∧ w.cell? ⟨x, 2, none⟩ = some (.string y.2.2)
section
variable {w w' : World} {g R x cv : Nat} {d : Bool} {L M : List Pr} {av : Option Addr} {y : Ac}
theorem Ab.keep (h : Ab w x y) (hb : Below w.heap.size w w') : Ab w' x y := ⟨keep_cell h.1 hb, keep_cell h.2.1 hb, keep_cell h.2.2 hb⟩
theorem Ab.gbo {r : Option Nat} (h : Ab w x y) (hg : w.grownBy w' r) (hne : some x ≠ r) : Ab w' x y := ⟨cell_gb h.1 hg hne, cell_gb h.2.1 hg hne, cell_gb h.2.2 hg hne⟩
theorem Ab.gb (h : Ab w x y) (hm : Mp w g d L) (hg : w.grownBy w' (some g)) : Ab w' x y := h.gbo hg (by simpa using ne_of h.1 hm.c0 (by simp))
theorem Sq.keep (h : Sq w R d M av cv) (hb : Below w.heap.size w w') : Sq w' R d M av cv := ⟨h.1.keep hb, h.2.1.keep hb, h.2.2⟩
theorem row_ne {v : Value} {b : Nat} (h : RowP w av M) (ha : ∀ z, av = some z → z = ⟨z.block, 0, none⟩) (hv : w.cell? ⟨b, 0, none⟩ = some v) (hne : ∀ z, Value.int .i64 z ≠ v) (hM : M ≠ []) : ∀ c o, av = some ⟨c, o, none⟩ → some c ≠ some b := by
  intro c o e
  rcases h with h | ⟨c', o', e', hh⟩
  · exact absurd h hM
  · have e2 := ha _ e
    rw [e] at e'
    simp only [Option.some.injEq, Addr.mk.injEq, and_true] at e' e2
    obtain ⟨rfl, rfl⟩ := e'
    obtain rfl := e2.2
    have h0 := (hh 0 (List.length_pos_iff.2 hM)).1
    rw [Nat.zero_mul, Nat.add_zero] at h0
    simpa using ne_of h0 hv (hne _)
theorem row_gb {v : Value} {b : Nat} (h : RowP w av M) (ha : ∀ z, av = some z → z = ⟨z.block, 0, none⟩) (hv : w.cell? ⟨b, 0, none⟩ = some v) (hne : ∀ z, Value.int .i64 z ≠ v) (hg : w.grownBy w' (some b)) : RowP w' av M := by
  by_cases hM : M = []
  · exact .inl hM
  · exact h.gb hg (row_ne h ha hv hne hM)
theorem Sq.gb (h : Sq w R d M av cv) (hm : Mp w g d L) (hg : w.grownBy w' (some g)) : Sq w' R d M av cv :=
  ⟨h.1.gb hg (by simpa using ne_of h.1.c0 hm.c0 (by simp)), row_gb h.2.1 h.2.2.1 hm.c0 (by simp) hg, h.2.2⟩
theorem Mp.gbR (hm : Mp w g d L) {e : Bool} {v : Value} (hR : Mb w R e v) (hg : w.grownBy w' (some R)) : Mp w' g d L := by
  have hlt := hm.lt
  have hne : g ≠ R := ne_of hm.c0 hR.c0 (by simp)
  have hh4 : w.cell? ⟨R, 4, none⟩ = none := by unfold Mb at hR; simp [World.cell?, hR]
  obtain ⟨T, h1, h2, h3, h4, h5, h6⟩ := hm
  have e := hg.block g hlt (by simpa using hne)
  exact ⟨T, ⟨(World.cell?_of_block (w := w) e).trans h1.1, (World.cell?_of_block (w := w) e).trans h1.2⟩, h2.gb hg (Tr.on_ne hh4 h2), h3, (World.cell?_of_block (w := w) e).trans h4, fun o => by rw [← h5 o]; simp only [World.frozen?, e], h6⟩
/-- Another row is stored. -/
theorem Sq.put (h : Mb w R d (.slice av M.length cv)) {N : List Pr} {aw : Option Addr} {cw : Nat} (r1 : RowP w aw N) (r2 : ∀ z, aw = some z → z = ⟨z.block, 0, none⟩) (r3 : N.length ≤ cw) (r4 : aw = none → cw = 0) :
    Sq ((w.setCell ⟨R, 0, none⟩ (.bool d)).setCell ⟨R, 1, none⟩ (.slice aw N.length cw)) R d N aw cw :=
  ⟨h.put d _, row_gb r1 r2 h.c0 (by simp) (gb_put2 _ _ _ _), r2, r3, r4⟩
end

set_option maxRecDepth 100000 in
set_option maxHeartbeats 8000000 in
theorem plays_law (d : Bool) (l : List Ac) (a : Option Addr) (c : Nat) (w : World) (hx : RowA w a l) (hl : l.length ≤ 9223372036854775807) :
    Calls Try.prog 3 #[.bool d, .slice a l.length c] w fun e w' => e = .returned (.bool true) ∧ Below w.heap.size w w' := by
  have HX := Lib.hid hx
  have HLi := Lib.hid (light_any l a c w hx hl)
  clear hx hl
  go_enter Try.func3, Try.ntmps3
  go_wp2_with fail
  refine HLi.out.mono ?_
  rintro e w0 ⟨bb, rfl, rfl, hbb⟩
  have HBB := Lib.hid hbb
  clear hbb HLi
  rcases bb with _ | _
  · have HK := Lib.hid (known_any w0)
    go_wp2_with fail
    refine HK.out.mono ?_
    rintro e w9 ⟨rfl, hb⟩
    have HB := Lib.hid hb
    clear hb HK
    go_wp2_with fail
    go_ret
    exact ⟨rfl, HB.out⟩
  · have HLn := Lib.hid (HBB.out rfl)
    have hl60 : (l.length : Int) ≤ 60 := by have := HLn.out.1; omega
    clear HBB
    have HM1 := Lib.hid (made_any d w0)
    go_wp2_with fail
    refine HM1.out.mono ?_
    rintro e w1 ⟨g, rfl, hg, hm, hb⟩
    have hmb := mb_new w1 d (.slice none 0 0)
    have hb1 := bel_box w1 (.cells #[.bool d, .slice none 0 0] 29)
    have HQ : Hid (Sq (w1.alloc (.cells #[.bool d, .slice none 0 0] 29)) w1.heap.size d [] none 0) := ⟨hmb, .inl rfl, (fun z h => by cases h), Nat.le_refl _, fun _ => rfl⟩
    have HM := Lib.hid (hm.keep hb1)
    have HB := Lib.hid (bel_tr hb hb1)
    have HG : Hid (w0.heap.size ≤ g) := hg
    have HRg : Hid (w0.heap.size ≤ w1.heap.size) := hb.size
    clear hg hm hb hmb hb1 HM1
    go_wp2_with fail
    generalize w1.alloc (.cells #[.bool d, .slice none 0 0] 29) = w2 at *
    generalize w1.heap.size = R at *
    go_loopw [5, 24] (fun m j wr => ∃ (q : Nat) (L : List Pr) (g : Nat) (av : Option Addr) (cv : Nat), q ≤ l.length ∧ m = .pointer (some ⟨g, 0, none⟩) ∧ j = .int .i64 q ∧ Hid (Mp wr g d L) ∧ Hid (Sq wr R d L av cv) ∧ Hid (Below w0.heap.size w0 wr) ∧ Hid (w0.heap.size ≤ g) ∧ L.length ≤ q) (fun _ j _ => l.length - (intOf j).toNat)
    case atStart => exact ⟨0, [], g, none, 0, by omega, rfl, rfl, HM, HQ, HB, HG, by simp⟩
    case round =>
      clear HM HQ HB HG
      obtain ⟨q, L, gq, av, cv, hq, rfl, rfl, HM, HQ, HB, HG, hLq⟩ := hrel
      by_cases hlt : q < l.length
      · obtain ⟨b, o, rfl, c0, c1, c2⟩ := (HX.out.keepB HB.out (Nat.le_refl _)).get q hlt
        obtain ⟨x, hx⟩ : ∃ x, x = l[q] := ⟨_, rfl⟩
        have HOk : Hid (okA x) := by rw [hx]; exact HLn.out.2 _ (List.getElem_mem hlt)
        rw [← hx] at c0 c1 c2
        clear hx
        obtain ⟨x0, x1, x2⟩ := x
        simp only at c0 c1 c2
        have hqi : (q : Int) < (l.length : Int) := by omega
        have hq60 : (q : Int) ≤ 60 := by omega
        have hb1 := bel_box wr (.cells #[.int .i64 x0, .int .i64 x1, .string x2] 31)
        have HA : Hid (Ab (wr.alloc (.cells #[.int .i64 x0, .int .i64 x1, .string x2] 31)) wr.heap.size (x0, x1, x2)) := ⟨by go_simp, by go_simp, by go_simp⟩
        replace HM := Lib.hid (HM.out.keep hb1)
        replace HQ := Lib.hid (HQ.out.keep hb1)
        replace HB := Lib.hid (bel_tr HB.out hb1)
        clear hb1
        have HC := Lib.hid (get_ref d L av cv x1 _ HQ.out.2.1 (by omega))
        have m0 := HQ.out.1.c0
        have m1 := HQ.out.1.c1
        go_wp2_with fail
        refine HC.out.mono ?_
        rintro e w3 ⟨rfl, hb⟩
        generalize wr.alloc (.cells #[.int .i64 x0, .int .i64 x1, .string x2] 31) = wA at *
        generalize wr.heap.size = xb at *
        replace HM := Lib.hid (HM.out.keep hb)
        replace HQ := Lib.hid (HQ.out.keep hb)
        replace HA := Lib.hid (HA.out.keep hb)
        replace HB := Lib.hid (bel_tr HB.out hb)
        clear hb HC m0 m1 c0 c1 c2
        by_cases h0 : x0 = 0
        · subst h0
          have HC := Lib.hid (sets_law (fun w' => Mp w' gq d (setR d L x1 x2) ∧ w3.grownBy w' (some gq)) (some ⟨gq, 0, none⟩) x1 x2 (getR d L x1).1 (getR d L x1).2 w3 (set_yes gq d L x1 x2 w3 (by omega) HM.out))
          have a0 := HA.out.1
          have a1 := HA.out.2.1
          have a2 := HA.out.2.2
          have m0 := HQ.out.1.c0
          have m1 := HQ.out.1.c1
          simp only at a0 a1 a2
          go_wp2_with fail
          refine HC.out.mono ?_
          rintro e w4 ⟨rfl, hm, hg⟩
          clear a0 a1 a2 m0 m1
          clear HC
          have HGb := Lib.hid hg
          replace HQ := Lib.hid (HQ.out.gb HM.out hg)
          replace HA := Lib.hid (HA.out.gb HM.out hg)
          replace HB := Lib.hid (below_gb HB.out hg HB.out.size HG.out)
          replace HM := Lib.hid hm
          clear hm hg HGb
          have HC := Lib.hid (set_ref d L av cv x1 x2 w4 HQ.out.2.1 (by omega))
          have a0 := HA.out.1
          have a1 := HA.out.2.1
          have a2 := HA.out.2.2
          have m0 := HQ.out.1.c0
          have m1 := HQ.out.1.c1
          simp only at a0 a1 a2
          go_wp2_with fail
          refine HC.out.mono ?_
          rintro e w5 ⟨vv, rfl, ho, hb⟩
          clear a0 a1 a2 m0 m1
          obtain ⟨aw, cw, rfl, r1, r2, r3, r4⟩ := ho.row
          replace HM := Lib.hid (HM.out.keep hb)
          replace HQ := Lib.hid (HQ.out.keep hb)
          replace HA := Lib.hid (HA.out.keep hb)
          replace HB := Lib.hid (bel_tr HB.out hb)
          clear hb
          have HG2 := Lib.hid (gb_put2 w5 R (.bool d) (.slice aw (setR d L x1 x2).length cw))
          have m0 := HQ.out.1.c0
          have m1 := HQ.out.1.c1
          have f0 := HQ.out.1.free 0
          have f1 := HQ.out.1.free 1
          have hq' := Sq.put HQ.out.1 r1 (fun z e => (r4 z e).1) r3 (fun e => (r2 e).1)
          replace HM := Lib.hid (HM.out.gbR HQ.out.1 HG2.out)
          replace HA := Lib.hid (HA.out.gbo HG2.out (by simpa using ne_of HA.out.1 HQ.out.1.c0 (by simp)))
          replace HB := Lib.hid (below_gb HB.out HG2.out HB.out.size HRg.out)
          replace HQ := Lib.hid hq'
          clear hq' r1 r2 r3 r4 ho HC HG2
          have HLk := Lib.hid (looks_law gq d (setR d L x1 x2) _ _ x1 _ HM.out HQ.out.2.1 (by have := setR_le (d := d) (L := L) x1 x2; omega) HQ.out.2.2.2.1 HQ.out.2.2.2.2 HOk.out.2.2 HOk.out.2.1)
          have a0 := HA.out.1
          have a1 := HA.out.2.1
          have a2 := HA.out.2.2
          have n0 := HQ.out.1.c0
          have n1 := HQ.out.1.c1
          simp only at a0 a1 a2
          go_wp2_with fail
          refine HLk.out.mono ?_
          rintro e w6 ⟨rfl, hb⟩
          clear a0 a1 a2 n0 n1 HLk
          replace HM := Lib.hid (HM.out.keep hb)
          replace HQ := Lib.hid (HQ.out.keep hb)
          replace HA := Lib.hid (HA.out.keep hb)
          replace HB := Lib.hid (bel_tr HB.out hb)
          clear hb
          go_wp2_with fail
          go_roundw
          case rel => exact ⟨q + 1, (setR d L x1 x2), gq, _, _, by omega, rfl, by go_num, HM, HQ, HB, HG, by have := setR_le (d := d) (L := L) x1 x2; omega⟩
          case measure => simp [intOf]; omega
        · by_cases h1 : x0 = 1
          · subst h1
            have hbb : ((getR d L x1).2 != (getR d L x1).2) = false := by cases (getR d L x1).2 <;> rfl
            have HC := Lib.hid (delete_yes gq d L x1 w3 HM.out)
            have a0 := HA.out.1
            have a1 := HA.out.2.1
            have a2 := HA.out.2.2
            have m0 := HQ.out.1.c0
            have m1 := HQ.out.1.c1
            simp only at a0 a1 a2
            go_wp2_with fail
            refine HC.out.mono ?_
            rintro e w4 ⟨rfl, hm, hg⟩
            clear a0 a1 a2 m0 m1
            clear HC
            have HGb := Lib.hid hg
            replace HQ := Lib.hid (HQ.out.gb HM.out hg)
            replace HA := Lib.hid (HA.out.gb HM.out hg)
            replace HB := Lib.hid (below_gb HB.out hg HB.out.size HG.out)
            replace HM := Lib.hid hm
            clear hm hg HGb
            have HC := Lib.hid (delete_ref d L av cv x1 w4 HQ.out.2.1 (by omega))
            have a0 := HA.out.1
            have a1 := HA.out.2.1
            have a2 := HA.out.2.2
            have m0 := HQ.out.1.c0
            have m1 := HQ.out.1.c1
            simp only at a0 a1 a2
            go_wp2_with fail
            refine HC.out.mono ?_
            rintro e w5 ⟨vv, rfl, ho, hb⟩
            clear a0 a1 a2 m0 m1
            obtain ⟨aw, cw, rfl, r1, r2, r3, r4⟩ := ho.row
            replace HM := Lib.hid (HM.out.keep hb)
            replace HQ := Lib.hid (HQ.out.keep hb)
            replace HA := Lib.hid (HA.out.keep hb)
            replace HB := Lib.hid (bel_tr HB.out hb)
            clear hb
            have HG2 := Lib.hid (gb_put2 w5 R (.bool d) (.slice aw (delR L x1).length cw))
            have m0 := HQ.out.1.c0
            have m1 := HQ.out.1.c1
            have f0 := HQ.out.1.free 0
            have f1 := HQ.out.1.free 1
            have hq' := Sq.put HQ.out.1 r1 (fun z e => (r4 z e).1) r3 (fun e => (r2 e).1)
            replace HM := Lib.hid (HM.out.gbR HQ.out.1 HG2.out)
            replace HA := Lib.hid (HA.out.gbo HG2.out (by simpa using ne_of HA.out.1 HQ.out.1.c0 (by simp)))
            replace HB := Lib.hid (below_gb HB.out HG2.out HB.out.size HRg.out)
            replace HQ := Lib.hid hq'
            clear hq' r1 r2 r3 r4 ho HC HG2
            have HLk := Lib.hid (looks_law gq d (delR L x1) _ _ x1 _ HM.out HQ.out.2.1 (by have := delR_len L x1; omega) HQ.out.2.2.2.1 HQ.out.2.2.2.2 HOk.out.2.2 HOk.out.2.1)
            have a0 := HA.out.1
            have a1 := HA.out.2.1
            have a2 := HA.out.2.2
            have n0 := HQ.out.1.c0
            have n1 := HQ.out.1.c1
            simp only at a0 a1 a2
            go_wp2_with fail
            refine HLk.out.mono ?_
            rintro e w6 ⟨rfl, hb⟩
            clear a0 a1 a2 n0 n1 HLk
            replace HM := Lib.hid (HM.out.keep hb)
            replace HQ := Lib.hid (HQ.out.keep hb)
            replace HA := Lib.hid (HA.out.keep hb)
            replace HB := Lib.hid (bel_tr HB.out hb)
            clear hb
            go_wp2_with fail
            go_roundw
            case rel => exact ⟨q + 1, (delR L x1), gq, _, _, by omega, rfl, by go_num, HM, HQ, HB, HG, by have := delR_len L x1; omega⟩
            case measure => simp [intOf]; omega
          · by_cases h2 : x0 = 2
            · subst h2
              have HLk := Lib.hid (looks_law gq d L _ _ x1 _ HM.out HQ.out.2.1 (by skip; omega) HQ.out.2.2.2.1 HQ.out.2.2.2.2 HOk.out.2.2 HOk.out.2.1)
              have a0 := HA.out.1
              have a1 := HA.out.2.1
              have a2 := HA.out.2.2
              have n0 := HQ.out.1.c0
              have n1 := HQ.out.1.c1
              simp only at a0 a1 a2
              go_wp2_with fail
              refine HLk.out.mono ?_
              rintro e w6 ⟨rfl, hb⟩
              clear a0 a1 a2 n0 n1 HLk
              replace HM := Lib.hid (HM.out.keep hb)
              replace HQ := Lib.hid (HQ.out.keep hb)
              replace HA := Lib.hid (HA.out.keep hb)
              replace HB := Lib.hid (bel_tr HB.out hb)
              clear hb
              go_wp2_with fail
              go_roundw
              case rel => exact ⟨q + 1, L, gq, _, _, by omega, rfl, by go_num, HM, HQ, HB, HG, by skip; omega⟩
              case measure => simp [intOf]; omega
            · have h0b : (x0 == 0) = false := by simpa using h0
              have h1b : (x0 == 1) = false := by simpa using h1
              have h2b : (x0 == 2) = false := by simpa using h2
              have HC := Lib.hid (copy_yes gq d L w3 HM.out)
              have a0 := HA.out.1
              have a1 := HA.out.2.1
              have a2 := HA.out.2.2
              have m0 := HQ.out.1.c0
              have m1 := HQ.out.1.c1
              simp only at a0 a1 a2
              go_wp2_with fail
              refine HC.out.mono ?_
              rintro e w4 ⟨gn, rfl, hgn, hmn, hb⟩
              clear a0 a1 a2 m0 m1
              clear HC
              have HNn : Hid (Mp w4 gn d L) := hmn
              have HGn : Hid (w0.heap.size ≤ gn) := by have := HB.out.size; show _ ≤ _; omega
              have HNe : Hid (gn ≠ gq) := by have := HM.out.lt; show _ ≠ _; omega
              replace HM := Lib.hid (HM.out.keep hb)
              replace HQ := Lib.hid (HQ.out.keep hb)
              replace HA := Lib.hid (HA.out.keep hb)
              replace HB := Lib.hid (bel_tr HB.out hb)
              clear hb
              clear hgn hmn
              have HC := Lib.hid (set_yes gq d L x1 ⟨#[111, 108, 100]⟩ w4 (by omega) HM.out)
              have a0 := HA.out.1
              have a1 := HA.out.2.1
              have a2 := HA.out.2.2
              have m0 := HQ.out.1.c0
              have m1 := HQ.out.1.c1
              simp only at a0 a1 a2
              go_wp2_with fail
              refine HC.out.mono ?_
              rintro e w5 ⟨rfl, hm, hg⟩
              clear a0 a1 a2 m0 m1
              clear HC
              replace HNn := Lib.hid (HNn.out.gb hg HM.out HNe.out)
              have HGb := Lib.hid hg
              replace HQ := Lib.hid (HQ.out.gb HM.out hg)
              replace HA := Lib.hid (HA.out.gb HM.out hg)
              replace HB := Lib.hid (below_gb HB.out hg HB.out.size HG.out)
              replace HM := Lib.hid hm
              clear hm hg HGb
              have HC := Lib.hid (delete_yes gq d (setR d L x1 ⟨#[111, 108, 100]⟩) 0 w5 HM.out)
              have a0 := HA.out.1
              have a1 := HA.out.2.1
              have a2 := HA.out.2.2
              have m0 := HQ.out.1.c0
              have m1 := HQ.out.1.c1
              simp only at a0 a1 a2
              go_wp2_with fail
              refine HC.out.mono ?_
              rintro e w6 ⟨rfl, hm, hg⟩
              clear a0 a1 a2 m0 m1
              clear HC
              replace HNn := Lib.hid (HNn.out.gb hg HM.out HNe.out)
              have HGb := Lib.hid hg
              replace HQ := Lib.hid (HQ.out.gb HM.out hg)
              replace HA := Lib.hid (HA.out.gb HM.out hg)
              replace HB := Lib.hid (below_gb HB.out hg HB.out.size HG.out)
              replace HM := Lib.hid hm
              clear hm hg HGb
              clear HM HG HNe
              have HM := HNn
              have HG := HGn
              clear HNn HGn
              have HLk := Lib.hid (looks_law gn d L _ _ x1 _ HM.out HQ.out.2.1 (by skip; omega) HQ.out.2.2.2.1 HQ.out.2.2.2.2 HOk.out.2.2 HOk.out.2.1)
              have a0 := HA.out.1
              have a1 := HA.out.2.1
              have a2 := HA.out.2.2
              have n0 := HQ.out.1.c0
              have n1 := HQ.out.1.c1
              simp only at a0 a1 a2
              go_wp2_with fail
              refine HLk.out.mono ?_
              rintro e w7 ⟨rfl, hb⟩
              clear a0 a1 a2 n0 n1 HLk
              replace HM := Lib.hid (HM.out.keep hb)
              replace HQ := Lib.hid (HQ.out.keep hb)
              replace HA := Lib.hid (HA.out.keep hb)
              replace HB := Lib.hid (bel_tr HB.out hb)
              clear hb
              go_wp2_with fail
              go_roundw
              case rel => exact ⟨q + 1, L, gn, _, _, by omega, rfl, by go_num, HM, HQ, HB, HG, by skip; omega⟩
              case measure => simp [intOf]; omega
      · obtain rfl : q = l.length := by omega
        have hqi : ¬ (l.length : Int) < (l.length : Int) := by omega
        have HK := Lib.hid (known_any wr)
        go_wp2_with fail
        refine HK.out.mono ?_
        rintro e w9 ⟨rfl, hb⟩
        replace HB := Lib.hid (bel_tr HB.out hb)
        clear hb HK
        go_wp2_with fail
        go_ret
        exact ⟨rfl, HB.out⟩
end Go.Proofs.Ytmmcnpcijeahcaa.J
