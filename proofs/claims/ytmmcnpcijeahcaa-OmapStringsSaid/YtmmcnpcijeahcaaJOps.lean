/-
  Maps: the methods that only read.
-/
import Derived.Test.YtmmcnpcijeahcaaJFind
namespace Go.Proofs.Ytmmcnpcijeahcaa.J
set_option linter.unusedVariables false
open Go.RowKit V Go.Shelf

/-- Block g is a map with these pairs. -/
def Mp (w : World) (g : Nat) (d : Bool) (L : List Pr) : Prop :=
  ∃ T : Tr, Mc w g (fnOf d) T.ad ∧ T.In w ∧ T.list = L ∧ w.cell? ⟨g, 4, none⟩ = none ∧ (∀ o, w.frozen? ⟨g, o, none⟩ = false) ∧ Srt d L ∧ L.length < 1000000
theorem Mp.lt {w : World} {g : Nat} {d : Bool} {L : List Pr} (h : Mp w g d L) : g < w.heap.size := by
  obtain ⟨T, h, -⟩ := h
  exact lt_of_cell h.1
theorem Mp.keep {w w' : World} {g : Nat} {d : Bool} {L : List Pr} (h : Mp w g d L) (hb : Below w.heap.size w w') : Mp w' g d L := by
  have hg := h.lt
  obtain ⟨T, h1, h2, h3, h4, h5, h6⟩ := h
  exact ⟨T, h1.keep hb, h2.keep hb, h3, (World.cell?_of_block (w := w) (hb.block g hg)).trans h4, fun o => (hb.frozen (p := ⟨g, o, none⟩) hg).trans (h5 o), h6⟩
theorem Mp.drew {w : World} {g : Nat} {d : Bool} {L : List Pr} (h : Mp w g d L) : Mp w.drew g d L := h.keep (Below.refl _ _).drew
theorem Tr.on_ne {w : World} {g : Nat} (h : w.cell? ⟨g, 4, none⟩ = none) : ∀ {t : Tr}, t.In w → t.on fun b => b ≠ g
  | .nil, _ => trivial
  | .node b k v l r, k' => ⟨(by rintro rfl; have := k'.1.2.2.2.2; rw [h] at this; cases this), Tr.on_ne h k'.2.1, Tr.on_ne h k'.2.2⟩
/-- The value of a key, by the pair that is found. -/
theorem getR_find (d : Bool) (L : List Pr) (k : Int) : getR d L k = match find d L k with | some p => (p.2, true) | none => (⟨#[]⟩, false) := by
  unfold getR find
  rcases L[rank d L k]? with _ | p
  · rfl
  · by_cases h : p.1 = k <;> simp [h]
theorem cmp_fn (d : Bool) : Cmp (fnOf d) d := cmp_of d
abbrev pbox (t : Option Addr) (z : Int) (u : Option Addr) : Obj := .cells #[.pointer t, .int .i64 z, .pointer u] 79

set_option maxRecDepth 100000 in
set_option maxHeartbeats 1000000 in
theorem rank_yes (g : Nat) (d : Bool) (L : List Pr) (k : Int) (w : World) (h : Mp w g d L) :
    Calls Try.prog 33 #[.pointer (some ⟨g, 0, none⟩), .int .i64 k] w fun e w' => e = .returned (.int .i64 (rank d L k : Nat)) ∧ Below w.heap.size w w' := by
  obtain ⟨T, h1, h2, rfl, h4, h5, h6, h7⟩ := h
  have HT := Lib.hid h2
  have hz : T.len ≤ 1000000 := Nat.le_of_lt h7
  have HF := Lib.hid (find_yes g (fnOf d) d T k w (cmp_fn d) h1 h2 h6 hz)
  generalize rank d T.list k = Z at *
  clear h1 h2 h4 h5 h6 h7 hz
  go_enter Try.func33, Try.ntmps33
  go_wp2_with fail
  refine HF.out.mono ?_
  rintro e w2 ⟨U, rfl, hu, ht, hb⟩
  have HX := Lib.hid hu
  have HU := Lib.hid ht
  have HB := Lib.hid hb
  have HT2 := Lib.hid (HT.out.keep hb)
  clear hu ht hb HF HT
  go_wp2_with fail
  go_ret
  exact ⟨rfl, HB.out.alloc HB.out.size _⟩

set_option maxRecDepth 100000 in
set_option maxHeartbeats 1000000 in
theorem get_yes (g : Nat) (d : Bool) (L : List Pr) (k : Int) (w : World) (h : Mp w g d L) :
    Calls Try.prog 57 #[.pointer (some ⟨g, 0, none⟩), .int .i64 k] w fun e w' => e = .returned (.tuple #[.string (getR d L k).1, .bool (getR d L k).2]) ∧ Below w.heap.size w w' := by
  obtain ⟨T, h1, h2, rfl, h4, h5, h6, h7⟩ := h
  have HT := Lib.hid h2
  have hz : T.len ≤ 1000000 := Nat.le_of_lt h7
  have HF := Lib.hid (find_yes g (fnOf d) d T k w (cmp_fn d) h1 h2 h6 hz)
  have HG := Lib.hid (getR_find d T.list k)
  generalize rank d T.list k = Z at *
  generalize find d T.list k = F at *
  generalize getR d T.list k = G at *
  clear h1 h2 h4 h5 h6 h7 hz
  go_enter Try.func57, Try.ntmps57
  go_wp2_with fail
  refine HF.out.mono ?_
  rintro e w2 ⟨U, rfl, hu, ht, hb⟩
  have HX := Lib.hid hu
  have HU := Lib.hid ht
  have HB := Lib.hid hb
  have HT2 := Lib.hid (HT.out.keep hb)
  clear hu ht hb HF HT
  go_wp2_with fail
  have HE := Lib.hid (entry_any U F _ (HX.out _ (HT2.out.keep (bel_box w2 (pbox T.ad Z U.ad)))) HU.out)
  replace HB := Lib.hid (HB.out.alloc HB.out.size (pbox T.ad Z U.ad))
  rcases F with _ | p
  · refine HE.out.mono ?_
    rintro e w3 ⟨rfl, hb⟩
    have HB3 := Lib.hid (bel_tr HB.out hb)
    clear hb HE
    simp only [tops]
    go_wp2_with fail
    go_ret2
    exact ⟨by rw [HG.out]; rfl, HB3.out⟩
  · refine HE.out.mono ?_
    rintro e w3 ⟨rfl, hb⟩
    have HB3 := Lib.hid (bel_tr HB.out hb)
    clear hb HE
    simp only [tops]
    go_wp2_with fail
    go_ret2
    exact ⟨by rw [HG.out]; rfl, HB3.out⟩

set_option maxRecDepth 100000 in
set_option maxHeartbeats 1000000 in
theorem len_yes (g : Nat) (d : Bool) (L : List Pr)  (w : World) (h : Mp w g d L) :
    Calls Try.prog 31 #[.pointer (some ⟨g, 0, none⟩)] w fun e w' => e = .returned (.int .i64 (L.length : Nat)) ∧ Below w.heap.size w w' := by
  obtain ⟨T, h1, h2, rfl, h4, h5, h6, h7⟩ := h
  have HT := Lib.hid h2
  have hz : T.len ≤ 1000000 := Nat.le_of_lt h7
  have HA := Lib.hid (all_yes g (fnOf d) T.ad w h1)
  have HL := Lib.hid (len_any T w h2)
  rw [show T.len = T.list.length from rfl] at HL
  generalize T.list.length = N at *
  clear h1 h2 h4 h5 h6 h7 hz
  go_enter Try.func31, Try.ntmps31
  go_wp2_with fail
  refine HA.out.mono ?_
  rintro e w2 ⟨rfl, rfl⟩
  go_wp2_with fail
  refine HL.out.mono ?_
  rintro e w2 ⟨rfl, rfl⟩
  go_wp2_with fail
  go_ret
  exact ⟨rfl, Below.refl _ _⟩

set_option maxRecDepth 100000 in
set_option maxHeartbeats 1000000 in
theorem at_yes (g : Nat) (d : Bool) (L : List Pr) (i : Int) (hi1 : -9223372036854775808 ≤ i) (hi2 : i ≤ 9223372036854775807) (w : World) (h : Mp w g d L) :
    Calls Try.prog 59 #[.pointer (some ⟨g, 0, none⟩), .int .i64 i] w fun e w' => e = .returned (tops (atL L i)) ∧ Below w.heap.size w w' := by
  obtain ⟨T, h1, h2, rfl, h4, h5, h6, h7⟩ := h
  have HT := Lib.hid h2
  have hz : T.len ≤ 1000000 := Nat.le_of_lt h7
  have HA := Lib.hid (all_yes g (fnOf d) T.ad w h1)
  have HAt := Lib.hid (at_any T i w h2 hz hi1 hi2)
  generalize atL T.list i = F at *
  clear h1 h2 h4 h5 h6 h7 hz hi1 hi2
  go_enter Try.func59, Try.ntmps59
  go_wp2_with fail
  refine HA.out.mono ?_
  rintro e w2 ⟨rfl, rfl⟩
  go_wp2_with fail
  refine HAt.out.mono ?_
  rintro e w3 ⟨U, rfl, hu, ht, rfl⟩
  have HE := Lib.hid (entry_any U F w3 hu ht)
  have HB : Hid (Below w3.heap.size w3 w3) := Below.refl _ _
  clear hu ht HA HAt
  go_wp2_with fail
  rcases F with _ | p
  · refine HE.out.mono ?_
    rintro e w3 ⟨rfl, hb⟩
    have HB3 := Lib.hid (bel_tr HB.out hb)
    clear hb HE
    simp only [tops]
    go_wp2_with fail
    go_ret3
    exact ⟨rfl, HB3.out⟩
  · refine HE.out.mono ?_
    rintro e w3 ⟨rfl, hb⟩
    have HB3 := Lib.hid (bel_tr HB.out hb)
    clear hb HE
    simp only [tops]
    go_wp2_with fail
    go_ret3
    exact ⟨rfl, HB3.out⟩

set_option maxRecDepth 100000 in
set_option maxHeartbeats 1000000 in
theorem ceil_yes (g : Nat) (d : Bool) (L : List Pr) (k : Int) (w : World) (h : Mp w g d L) :
    Calls Try.prog 62 #[.pointer (some ⟨g, 0, none⟩), .int .i64 k] w fun e w' => e = .returned (tops (atL L (rank d L k : Nat))) ∧ Below w.heap.size w w' := by
  obtain ⟨T, h1, h2, rfl, h4, h5, h6, h7⟩ := h
  have HT := Lib.hid h2
  have hz : T.len ≤ 1000000 := Nat.le_of_lt h7
  have HF := Lib.hid (find_yes g (fnOf d) d T k w (cmp_fn d) h1 h2 h6 hz)
  have hr := rank_le d T.list k
  have HAt := Lib.hid (fun (w : World) (h : T.In w) => at_any T (rank d T.list k : Nat) w h hz (by omega) (by have : T.len = T.list.length := rfl; omega))
  generalize rank d T.list k = Z at *
  generalize find d T.list k = F at *
  generalize atL T.list Z = A at *
  clear h1 h2 h4 h5 h6 h7 hz hr
  go_enter Try.func62, Try.ntmps62
  go_wp2_with fail
  refine HF.out.mono ?_
  rintro e w2 ⟨U, rfl, hu, ht, hb⟩
  have HX := Lib.hid hu
  have HU := Lib.hid ht
  have HB := Lib.hid hb
  have HT2 := Lib.hid (HT.out.keep hb)
  clear hu ht hb HF HT
  go_wp2_with fail
  have HA2 := Lib.hid (HAt.out _ (HT2.out.keep (bel_box w2 (pbox T.ad Z U.ad))))
  replace HB := Lib.hid (HB.out.alloc HB.out.size (pbox T.ad Z U.ad))
  clear HAt
  refine HA2.out.mono ?_
  rintro e w3 ⟨V, rfl, hv, hq, rfl⟩
  have HE := Lib.hid (entry_any V A _ hv hq)
  clear hv hq HA2
  go_wp2_with fail
  rcases A with _ | p
  · refine HE.out.mono ?_
    rintro e w3 ⟨rfl, hb⟩
    have HB3 := Lib.hid (bel_tr HB.out hb)
    clear hb HE
    simp only [tops]
    go_wp2_with fail
    go_ret3
    exact ⟨rfl, HB3.out⟩
  · refine HE.out.mono ?_
    rintro e w3 ⟨rfl, hb⟩
    have HB3 := Lib.hid (bel_tr HB.out hb)
    clear hb HE
    simp only [tops]
    go_wp2_with fail
    go_ret3
    exact ⟨rfl, HB3.out⟩

/-- The last pair that does not come after a key. -/
def floorR (d : Bool) (L : List Pr) (k : Int) : Option Pr := match find d L k with | some p => some p | none => atL L ((rank d L k : Nat) - 1)

set_option maxRecDepth 100000 in
set_option maxHeartbeats 1000000 in
theorem floor_yes (g : Nat) (d : Bool) (L : List Pr) (k : Int) (w : World) (h : Mp w g d L) :
    Calls Try.prog 61 #[.pointer (some ⟨g, 0, none⟩), .int .i64 k] w fun e w' => e = .returned (tops (floorR d L k)) ∧ Below w.heap.size w w' := by
  obtain ⟨T, h1, h2, rfl, h4, h5, h6, h7⟩ := h
  have HT := Lib.hid h2
  have hz : T.len ≤ 1000000 := Nat.le_of_lt h7
  have HF := Lib.hid (find_yes g (fnOf d) d T k w (cmp_fn d) h1 h2 h6 hz)
  have hr := rank_le d T.list k
  have HAt := Lib.hid (fun (w : World) (h : T.In w) => at_any T ((rank d T.list k : Nat) - 1) w h hz (by omega) (by have : T.len = T.list.length := rfl; omega))
  have HR : Hid (floorR d T.list k = match find d T.list k with | some p => some p | none => atL T.list ((rank d T.list k : Nat) - 1)) := rfl
  have hz0 : (rank d T.list k : Int) ≤ 1000000 := by have : T.len = T.list.length := rfl; omega
  generalize floorR d T.list k = R at *
  generalize rank d T.list k = Z at *
  generalize find d T.list k = F at *
  generalize atL T.list ((Z : Int) - 1) = A at *
  clear h1 h2 h4 h5 h6 h7 hz hr
  go_enter Try.func61, Try.ntmps61
  go_wp2_with fail
  refine HF.out.mono ?_
  rintro e w2 ⟨U, rfl, hu, ht, hb⟩
  have HX := Lib.hid hu
  have HU := Lib.hid ht
  have HB := Lib.hid hb
  have HT2 := Lib.hid (HT.out.keep hb)
  clear hu ht hb HF HT
  rcases F with _ | p
  · obtain rfl : U = .nil := HU.out
    rw [show Tr.nil.ad = none from rfl]
    go_wp2_with fail
    have HA2 := Lib.hid (HAt.out _ (HT2.out.keep (bel_box w2 (pbox T.ad Z none))))
    replace HB := Lib.hid (HB.out.alloc HB.out.size (pbox T.ad Z none))
    clear HAt
    refine HA2.out.mono ?_
    rintro e w3 ⟨V, rfl, hv, hq, rfl⟩
    have HE := Lib.hid (entry_any V A _ hv hq)
    have hR : R = A := HR.out
    subst hR
    clear hv hq HA2 HR
    go_wp2_with fail
    rcases R with _ | p
    · refine HE.out.mono ?_
      rintro e w3 ⟨rfl, hb⟩
      have HB3 := Lib.hid (bel_tr HB.out hb)
      clear hb HE
      simp only [tops]
      go_wp2_with fail
      go_ret3
      exact ⟨rfl, HB3.out⟩
    · refine HE.out.mono ?_
      rintro e w3 ⟨rfl, hb⟩
      have HB3 := Lib.hid (bel_tr HB.out hb)
      clear hb HE
      simp only [tops]
      go_wp2_with fail
      go_ret3
      exact ⟨rfl, HB3.out⟩
  · obtain ⟨b, l, r, rfl⟩ := HU.out
    rw [Tr.ad_node]
    go_wp2_with fail
    have HE := Lib.hid (entry_any (.node b p.1 p.2 l r) (some p) _ (HX.out _ (HT2.out.keep (bel_box w2 (pbox T.ad Z (some ⟨b, 0, none⟩))))) ⟨b, l, r, rfl⟩)
    replace HB := Lib.hid (HB.out.alloc HB.out.size (pbox T.ad Z (some ⟨b, 0, none⟩)))
    have hR : R = some p := HR.out
    subst hR
    clear HR HAt
    refine HE.out.mono ?_
    rintro e w3 ⟨rfl, hb⟩
    have HB3 := Lib.hid (bel_tr HB.out hb)
    clear hb HE
    simp only [tops]
    go_wp2_with fail
    go_ret3
    exact ⟨rfl, HB3.out⟩
end Go.Proofs.Ytmmcnpcijeahcaa.J
