/-
  Maps: New, Set, Delete, Copy.
-/
import Derived.Test.YtmmcnpcijeahcaaJOps
import Derived.Laws.EntriesVeiled
namespace Go.Proofs.Ytmmcnpcijeahcaa.J
set_option linter.unusedVariables false
open Go.RowKit V Go.Shelf

theorem find_none {d : Bool} {L : List Pr} {k : Int} (hs : Srt d L) (h : find d L k = none) : ∀ p ∈ L, p.1 ≠ k := by
  intro p hp e
  obtain ⟨h1, h2⟩ := (there_iff hs).1 ⟨p, hp, e⟩
  unfold find at h
  rw [List.getElem?_eq_getElem h1] at h
  simp [h2] at h
theorem find_some {d : Bool} {L : List Pr} {k : Int} {p : Pr} (h : find d L k = some p) : ∃ h : rank d L k < L.length, L[rank d L k] = p ∧ p.1 = k := by
  unfold find at h
  rcases e : L[rank d L k]? with _ | q
  · rw [e] at h; cases h
  · rw [e] at h
    obtain ⟨h1, h2⟩ := List.getElem?_eq_some_iff.1 e
    by_cases hq : q.1 = k
    · simp only [hq, if_true, Option.some.injEq] at h
      exact ⟨h1, h2.trans h, by rw [← h]; exact hq⟩
    · simp [hq] at h
theorem setAt_set {v : ByteArray} : ∀ {l : List Pr} {n : Nat} (h : n < l.length), setAt l n v = l.set n (l[n].1, v)
  | a :: l, 0, h => rfl
  | a :: l, n + 1, h => by rw [setAt, setAt_set (by simpa using h)]; rfl
theorem set_new {d : Bool} {L : List Pr} {k : Int} (v : ByteArray) (hs : Srt d L) (h : find d L k = none) : insAt L (rank d L k) k v = setR d L k v := (setR_new (find_none hs h) v).symm
theorem set_old {d : Bool} {L : List Pr} {k : Int} {p : Pr} (v : ByteArray) (hs : Srt d L) (h : find d L k = some p) : setAt L (rank d L k) v = setR d L k v := by
  obtain ⟨h1, h2, h3⟩ := find_some h
  rw [setAt_set h1, ← setR_there hs h1, h2, h3]
theorem del_old {d : Bool} {L : List Pr} {k : Int} {p : Pr} (hs : Srt d L) (h : find d L k = some p) : delAt L (rank d L k) = delR L k := by
  obtain ⟨h1, h2, h3⟩ := find_some h
  have := delR_there hs h1
  rw [h2, h3] at this
  exact this.symm
theorem setR_len {d : Bool} {L : List Pr} {k : Int} (v : ByteArray) (hs : Srt d L) : (setR d L k v).length ≤ L.length + 1 := by
  rcases h : find d L k with _ | p
  · rw [← set_new v hs h, insAt_len]; exact Nat.le_refl _
  · rw [← set_old v hs h, setAt_len]; omega
/-- Another tree is laid into a map. -/
theorem mp_store {w : World} {g : Nat} {d : Bool} {a : Option Addr} {T : Tr} {L : List Pr} (h1 : Mc w g (fnOf d) a) (h2 : T.In w) (h3 : T.list = L) (h4 : w.cell? ⟨g, 4, none⟩ = none) (h5 : ∀ o, w.frozen? ⟨g, o, none⟩ = false) (h6 : Srt d L) (h7 : L.length < 1000000) :
    Mp (w.setCell ⟨g, 1, none⟩ (.pointer T.ad)) g d L :=
  ⟨T, ⟨(World.cell?_setCell_other _ _ _ _ (by simp)).trans h1.1, World.cell?_setCell_same' _ _ _ (by simp [h1.2])⟩, h2.gb (gb_setCell _ _ _ _) (Tr.on_ne h4 h2), h3, (World.cell?_setCell_other _ _ _ _ (by simp)).trans h4, fun o => by rw [World.frozen?_setCell]; exact h5 o, h6, h7⟩
/-- What is known of a map's block, but for its tree. -/
def Mk (w : World) (g : Nat) (d : Bool) (a : Option Addr) : Prop := Mc w g (fnOf d) a ∧ w.cell? ⟨g, 4, none⟩ = none ∧ ∀ o, w.frozen? ⟨g, o, none⟩ = false
theorem Mk.keep {w w' : World} {g : Nat} {d : Bool} {a : Option Addr} (h : Mk w g d a) (hb : Below w.heap.size w w') : Mk w' g d a :=
  ⟨h.1.keep hb, (World.cell?_of_block (w := w) (hb.block g (lt_of_cell h.1.1))).trans h.2.1, fun o => (hb.frozen (p := ⟨g, o, none⟩) (by have := lt_of_cell h.1.1; simpa using this)).trans (h.2.2 o)⟩

set_option maxRecDepth 100000 in
set_option maxHeartbeats 1000000 in
theorem set_yes (g : Nat) (d : Bool) (L : List Pr) (k : Int) (v : ByteArray) (w : World) (hl1 : L.length + 1 < 1000000) (h : Mp w g d L) :
    Calls Try.prog 17 #[.pointer (some ⟨g, 0, none⟩), .int .i64 k, .string v] w fun e w' => e = .returned (.tuple #[.string (getR d L k).1, .bool (getR d L k).2]) ∧ Mp w' g d (setR d L k v) ∧ w.grownBy w' (some g) := by
  obtain ⟨T, h1, h2, rfl, h4, h5, h6, h7⟩ := h
  have HT := Lib.hid h2
  have hz : T.len ≤ 1000000 := Nat.le_of_lt h7
  have HF := Lib.hid (find_yes g (fnOf d) d T k w (cmp_fn d) h1 h2 h6 hz)
  have hr := rank_le d T.list k
  have HG := Lib.hid (getR_find d T.list k)
  have HK : Hid (Mk w g d T.ad) := ⟨h1, h4, h5⟩
  have HSr := Lib.hid h6
  have hlen : T.list.length = T.len := rfl
  have HSL := Lib.hid (setR_srt k v h6)
  have HLN : Hid ((setR d T.list k v).length < 1000000) := by have := setR_len (k := k) v h6; show _ < _; omega
  have HNW := Lib.hid (fun (w : World) (h : T.In w) => with_any T (rank d T.list k) k v w h (by omega) hr)
  have HCH := Lib.hid (fun (w : World) (h : T.In w) (hi : rank d T.list k < T.len) => changed_any T w.heap.size (rank d T.list k) v w h h.below (Nat.le_refl _) hz hi)
  have HSN := Lib.hid (fun h => set_new (k := k) v h6 h)
  have HSO := Lib.hid (fun p h => set_old (k := k) (p := p) v h6 h)
  have HFS := Lib.hid (fun p (h : find d T.list k = some p) => (find_some h).1)
  generalize setR d T.list k v = R at *
  generalize hZ : rank d T.list k = Z at *
  generalize hF : find d T.list k = F at *
  generalize getR d T.list k = G at *
  clear h1 h2 h4 h5 h6 h7 hr hZ hF
  go_enter Try.func17, Try.ntmps17
  go_wp2_with fail
  refine HF.out.mono ?_
  rintro e w2 ⟨U, rfl, hu, ht, hb⟩
  have HX := Lib.hid hu
  have HU := Lib.hid ht
  have HB := Lib.hid hb
  have HT2 := Lib.hid (HT.out.keep hb)
  have HK2 := Lib.hid (HK.out.keep hb)
  have hltg : g < w.heap.size := lt_of_cell HK.out.1.1
  clear hu ht hb HF HT HK
  rcases F with _ | p
  · obtain rfl : U = .nil := HU.out
    rw [show Tr.nil.ad = none from rfl]
    have hG : G = (⟨#[]⟩, false) := HG.out
    subst hG
    go_wp2_with fail
    have hw2 := HB.out.size
    have hb3 := bel_box w2 (pbox T.ad Z none)
    have HT3 := Lib.hid (HT2.out.keep hb3)
    have HK3 := Lib.hid (HK2.out.keep hb3)
    replace HB := Lib.hid (HB.out.alloc HB.out.size (pbox T.ad Z none))
    have c2 : (w2.alloc (pbox T.ad Z none)).cell? ⟨w2.heap.size, 2, none⟩ = some (.pointer none) := by go_simp
    have hbx : w2.heap.size < (w2.alloc (pbox T.ad Z none)).heap.size := by simp
    clear HT2 HK2 hb3
    refine (HNW.out _ HT3.out).mono ?_
    rintro e w4 ⟨c, ck, cv, cl, cr, rfl, hi, he, hb⟩
    have c3 : w4.cell? ⟨g, 1, none⟩ = some (.pointer T.ad) := keep_cell HK3.out.1.2 hb
    have c4 := (HK3.out.keep hb).2.2 1
    have HK4 := Lib.hid (HK3.out.keep hb)
    have c5 : w4.cell? ⟨w2.heap.size, 2, none⟩ = some (.pointer none) := keep_cell c2 hb
    have HB4 := Lib.hid (bel_tr HB.out hb)
    have hneg : ¬ w2.heap.size = g := by omega
    have HI := Lib.hid hi
    have HE := Lib.hid (he.trans (HSN.out (by first | exact trivial | rfl)))
    clear hi he hb HNW HCH HK3 HT3
    go_wp2_with fail
    go_ret2
    exact ⟨rfl, mp_store HK4.out.1 HI.out HE.out HK4.out.2.1 HK4.out.2.2 HSL.out HLN.out, gb_trans (gb_below HB4.out (some g)) (gb_setCell _ _ _ _)⟩
  · obtain ⟨b, l, r, rfl⟩ := HU.out
    have hG : G = (p.2, true) := HG.out
    subst hG
    rw [Tr.ad_node]
    have HFP := Lib.hid (HFS.out p rfl)
    rw [hlen] at HFP
    go_wp2_with fail
    have hw2 := HB.out.size
    have hb3 := bel_box w2 (pbox T.ad Z (some ⟨b, 0, none⟩))
    have HT3 := Lib.hid (HT2.out.keep hb3)
    have HK3 := Lib.hid (HK2.out.keep hb3)
    replace HB := Lib.hid (HB.out.alloc HB.out.size (pbox T.ad Z (some ⟨b, 0, none⟩)))
    have c2 : (w2.alloc (pbox T.ad Z (some ⟨b, 0, none⟩))).cell? ⟨w2.heap.size, 2, none⟩ = some (.pointer (some ⟨b, 0, none⟩)) := by go_simp
    have hbx : w2.heap.size < (w2.alloc (pbox T.ad Z (some ⟨b, 0, none⟩))).heap.size := by simp
    clear HT2 HK2 hb3
    refine (HCH.out _ HT3.out HFP.out).mono ?_
    rintro e w4 ⟨T', rfl, hi, he, ho, hb⟩
    have c3 : w4.cell? ⟨g, 1, none⟩ = some (.pointer T.ad) := keep_cell HK3.out.1.2 hb
    have c4 := (HK3.out.keep hb).2.2 1
    have HK4 := Lib.hid (HK3.out.keep hb)
    have c5 : w4.cell? ⟨w2.heap.size, 2, none⟩ = some (.pointer (some ⟨b, 0, none⟩)) := keep_cell c2 hb
    have HB4 := Lib.hid (bel_tr HB.out hb)
    have hneg : ¬ w2.heap.size = g := by omega
    have HI := Lib.hid hi
    have HE := Lib.hid (he.trans (HSO.out p rfl))
    have c6 := ((HX.out _ (HT3.out.keep hb)).1).2.1
    have hneb : ¬ g = b := fun e => by
      have h4 := ((HX.out _ (HT3.out.keep hb)).1).2.2.2.2
      rw [← e, HK4.out.2.1] at h4
      cases h4
    have hneb2 : ¬ b = g := fun e => hneb e.symm
    clear hi he hb ho HNW HCH HK3 HT3
    go_wp2_with fail
    go_ret2
    exact ⟨rfl, mp_store HK4.out.1 HI.out HE.out HK4.out.2.1 HK4.out.2.2 HSL.out HLN.out, gb_trans (gb_below HB4.out (some g)) (gb_setCell _ _ _ _)⟩

set_option maxRecDepth 100000 in
set_option maxHeartbeats 1000000 in
theorem delete_yes (g : Nat) (d : Bool) (L : List Pr) (k : Int) (w : World) (h : Mp w g d L) :
    Calls Try.prog 14 #[.pointer (some ⟨g, 0, none⟩), .int .i64 k] w fun e w' => e = .returned (.bool (getR d L k).2) ∧ Mp w' g d (delR L k) ∧ w.grownBy w' (some g) := by
  obtain ⟨T, h1, h2, rfl, h4, h5, h6, h7⟩ := h
  have HT := Lib.hid h2
  have hz : T.len ≤ 1000000 := Nat.le_of_lt h7
  have HF := Lib.hid (find_yes g (fnOf d) d T k w (cmp_fn d) h1 h2 h6 hz)
  have hr := rank_le d T.list k
  have HG := Lib.hid (getR_find d T.list k)
  have HK : Hid (Mk w g d T.ad) := ⟨h1, h4, h5⟩
  have hlen : T.list.length = T.len := rfl
  have HSL := Lib.hid (delR_srt h6 k)
  have HLN : Hid ((delR T.list k).length < 1000000) := by have := delR_len T.list k; show _ < _; omega
  have HWO := Lib.hid (fun (w : World) (h : T.In w) (hi : rank d T.list k < T.len) => without_any T (rank d T.list k) w h hz hi)
  have HSN := Lib.hid (fun h => delR_not (find_none (k := k) h6 h))
  have HSO := Lib.hid (fun p h => del_old (k := k) (p := p) h6 h)
  have HFS := Lib.hid (fun p (h : find d T.list k = some p) => (find_some h).1)
  have H0 : Hid (Srt d T.list ∧ T.list.length < 1000000) := ⟨h6, h7⟩
  generalize delR T.list k = R at *
  generalize hZ : rank d T.list k = Z at *
  generalize hF : find d T.list k = F at *
  generalize getR d T.list k = G at *
  clear h1 h2 h4 h5 h6 h7 hr hZ hF
  go_enter Try.func14, Try.ntmps14
  go_wp2_with fail
  refine HF.out.mono ?_
  rintro e w2 ⟨U, rfl, hu, ht, hb⟩
  have HX := Lib.hid hu
  have HU := Lib.hid ht
  have HB := Lib.hid hb
  have HT2 := Lib.hid (HT.out.keep hb)
  have HK2 := Lib.hid (HK.out.keep hb)
  have hltg : g < w.heap.size := lt_of_cell HK.out.1.1
  clear hu ht hb HF HT HK
  rcases F with _ | p
  · obtain rfl : U = .nil := HU.out
    rw [show Tr.nil.ad = none from rfl]
    have hG : G = (⟨#[]⟩, false) := HG.out
    subst hG
    go_wp2_with fail
    have hw2 := HB.out.size
    have hb3 := bel_box w2 (pbox T.ad Z none)
    have HT3 := Lib.hid (HT2.out.keep hb3)
    have HK3 := Lib.hid (HK2.out.keep hb3)
    replace HB := Lib.hid (HB.out.alloc HB.out.size (pbox T.ad Z none))
    have c2 : (w2.alloc (pbox T.ad Z none)).cell? ⟨w2.heap.size, 2, none⟩ = some (.pointer none) := by go_simp
    have hbx : w2.heap.size < (w2.alloc (pbox T.ad Z none)).heap.size := by simp
    clear HT2 HK2 hb3
    go_ret
    exact ⟨rfl, ⟨T, HK3.out.1, HT3.out, (HSN.out (by first | exact trivial | rfl)).symm, HK3.out.2.1, HK3.out.2.2, HSL.out, HLN.out⟩, gb_below HB.out (some g)⟩
  · obtain ⟨b, l, r, rfl⟩ := HU.out
    have hG : G = (p.2, true) := HG.out
    subst hG
    rw [Tr.ad_node]
    have HFP := Lib.hid (HFS.out p rfl)
    rw [hlen] at HFP
    go_wp2_with fail
    have hw2 := HB.out.size
    have hb3 := bel_box w2 (pbox T.ad Z (some ⟨b, 0, none⟩))
    have HT3 := Lib.hid (HT2.out.keep hb3)
    have HK3 := Lib.hid (HK2.out.keep hb3)
    replace HB := Lib.hid (HB.out.alloc HB.out.size (pbox T.ad Z (some ⟨b, 0, none⟩)))
    have c2 : (w2.alloc (pbox T.ad Z (some ⟨b, 0, none⟩))).cell? ⟨w2.heap.size, 2, none⟩ = some (.pointer (some ⟨b, 0, none⟩)) := by go_simp
    have hbx : w2.heap.size < (w2.alloc (pbox T.ad Z (some ⟨b, 0, none⟩))).heap.size := by simp
    clear HT2 HK2 hb3
    refine (HWO.out _ HT3.out HFP.out).mono ?_
    rintro e w4 ⟨T', rfl, hi, he, hb⟩
    have c3 : w4.cell? ⟨g, 1, none⟩ = some (.pointer T.ad) := keep_cell HK3.out.1.2 hb
    have c4 := (HK3.out.keep hb).2.2 1
    have HK4 := Lib.hid (HK3.out.keep hb)
    have c5 : w4.cell? ⟨w2.heap.size, 2, none⟩ = some (.pointer (some ⟨b, 0, none⟩)) := keep_cell c2 hb
    have HB4 := Lib.hid (bel_tr HB.out hb)
    have hneg : ¬ w2.heap.size = g := by omega
    have HI := Lib.hid hi
    have HE := Lib.hid (he.trans (HSO.out p rfl))
    clear hi he hb HWO HK3 HT3
    go_wp2_with fail
    go_ret
    exact ⟨rfl, mp_store HK4.out.1 HI.out HE.out HK4.out.2.1 HK4.out.2.2 HSL.out HLN.out, gb_trans (gb_below HB4.out (some g)) (gb_setCell _ _ _ _)⟩

set_option maxRecDepth 100000 in
set_option maxHeartbeats 1000000 in
theorem copy_yes (g : Nat) (d : Bool) (L : List Pr)  (w : World) (h : Mp w g d L) :
    Calls Try.prog 16 #[.pointer (some ⟨g, 0, none⟩)] w fun e w' => ∃ g', e = .returned (.pointer (some ⟨g', 0, none⟩)) ∧ w.heap.size ≤ g' ∧ Mp w' g' d L ∧ Below w.heap.size w w' := by
  obtain ⟨T, h1, h2, rfl, h4, h5, h6, h7⟩ := h
  have HT := Lib.hid h2
  have hz : T.len ≤ 1000000 := Nat.le_of_lt h7
  have HN := Lib.hid (none_yes g (fnOf d) T.ad w h1)
  have HK : Hid (Mk w g d T.ad) := ⟨h1, h4, h5⟩
  have H0 : Hid (Srt d T.list ∧ T.list.length < 1000000) := ⟨h6, h7⟩
  obtain ⟨k0, k1⟩ := h1
  have hne : ¬ g = w.heap.size := by have := lt_of_cell k0; simp at this; omega
  clear h2 h4 h5 h6 h7 hz
  generalize hA : T.ad = A at *
  have HA := Lib.hid hA
  clear hA
  go_enter Try.func16, Try.ntmps16
  go_wp2_with fail
  refine HN.out.mono ?_
  rintro e w2 ⟨rfl, rfl⟩
  go_wp2_with fail
  go_ret
  exact ⟨_, rfl, Nat.le_refl _, ⟨T, by rw [HA.out]; exact ⟨by go_simp, by go_simp⟩, HT.out.keep (bel_box _ _), rfl, by go_simp, fun o => by go_simp, H0.out.1, H0.out.2⟩, bel_box _ _⟩

set_option maxRecDepth 100000 in
theorem new_yes (d : Bool) (w : World) : Calls Try.prog 36 #[.func (.func (fnOf d)) #[] #[]] w fun e w' => ∃ g', e = .returned (.pointer (some ⟨g', 0, none⟩)) ∧ w.heap.size ≤ g' ∧ Mp w' g' d [] ∧ Below w.heap.size w w' := by
  have hq := fn_nil (fnOf d)
  go_enter Try.func36, Try.ntmps36
  go_wp2_with fail
  go_ret
  exact ⟨_, rfl, Nat.le_refl _, ⟨.nil, ⟨by go_simp, by simp only [Tr.ad]; go_simp⟩, trivial, rfl, by go_simp, fun o => by go_simp, List.Pairwise.nil, by simp⟩, bel_box _ _⟩
set_option maxRecDepth 100000 in
theorem new_no (w : World) : Calls Try.prog 36 #[.nilFunc] w fun e w' => e = .returned (.pointer none) ∧ w' = w := by
  have hq := nil_nil
  go_enter Try.func36, Try.ntmps36
  go_wp2_with fail
  go_ret
  exact ⟨rfl, rfl⟩
end Go.Proofs.Ytmmcnpcijeahcaa.J
