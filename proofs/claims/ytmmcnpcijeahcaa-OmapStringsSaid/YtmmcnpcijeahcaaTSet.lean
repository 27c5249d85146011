/-
  Maps: New, Set, Delete, Copy.
-/
import Derived.Test.YtmmcnpcijeahcaaTOps
import Derived.Laws.EntriesVeiled
namespace Go.Proofs.Ytmmcnpcijeahcaa.Jt
set_option linter.unusedVariables false
open Go.RowKit V Go.Shelf

/-- Setting a key: the old key stays where there is one. -/
def setR (d : Bool) (L : List Pr) (k : Ky) (v : Sl) : List Pr := match find d L k with | some _ => setAt L (rank d L k) v | none => insAt L (rank d L k) k v
theorem set_new {d : Bool} {L : List Pr} {k : Ky} (v : Sl) (hs : Srt d L) (h : find d L k = none) : insAt L (rank d L k) k v = setR d L k v := by unfold setR; rw [h]
theorem set_old {d : Bool} {L : List Pr} {k : Ky} {p : Pr} (v : Sl) (hs : Srt d L) (h : find d L k = some p) : setAt L (rank d L k) v = setR d L k v := by unfold setR; rw [h]
theorem find_some {d : Bool} {L : List Pr} {k : Ky} {p : Pr} (h : find d L k = some p) : ∃ h : rank d L k < L.length, L[rank d L k] = p ∧ p.1.s.size = k.s.size := by
  unfold find at h
  rcases e : L[rank d L k]? with _ | q
  · rw [e] at h; cases h
  · rw [e] at h
    obtain ⟨h1, h2⟩ := List.getElem?_eq_some_iff.1 e
    by_cases hq : q.1.s.size = k.s.size
    · simp only [hq, if_true, Option.some.injEq] at h
      exact ⟨h1, h2.trans h, by rw [← h]; exact hq⟩
    · simp [hq] at h
theorem find_none {d : Bool} {L : List Pr} {k : Ky} (hs : Srt d L) (h : find d L k = none) : ∀ p ∈ L, p.1.s.size ≠ k.s.size := by
  intro p hp e
  obtain ⟨i, hi, rfl⟩ := List.mem_iff_getElem.1 hp
  have hr : rank d L k = i := rank_eq (by omega) (fun j hj hji => by
    have := List.pairwise_iff_getElem.1 hs j i hj hi hji
    rw [bef_iff] at *
    omega) fun _ => by
    rw [← Bool.not_eq_true, bef_iff]
    omega
  unfold find at h
  rw [hr, List.getElem?_eq_getElem hi] at h
  simp [e] at h
theorem setR_len {d : Bool} {L : List Pr} {k : Ky} (v : Sl) (hs : Srt d L) : (setR d L k v).length ≤ L.length + 1 := by
  unfold setR
  split
  · rw [setAt_len]; omega
  · rw [insAt_len]; exact Nat.le_refl _
theorem setAt_set {v : Sl} : ∀ {l : List Pr} {n : Nat} (h : n < l.length), setAt l n v = l.set n (l[n].1, v)
  | a :: l, 0, h => rfl
  | a :: l, n + 1, h => by rw [setAt, setAt_set (by simpa using h)]; rfl
theorem setR_srt {d : Bool} {l : List Pr} (k : Ky) (v : Sl) (hs : Srt d l) : Srt d (setR d l k v) := by
  unfold setR
  split
  · rename_i p hp
    obtain ⟨h, -⟩ := find_some hp
    rw [setAt_set h]
    unfold Srt
    rw [List.pairwise_iff_getElem]
    intro a b ha hb hab
    rw [List.length_set] at ha hb
    have := List.pairwise_iff_getElem.1 hs a b ha hb hab
    simp only [List.getElem_set]
    split <;> split <;> simp_all
  · rename_i hn
    have hk := find_none hs hn
    unfold insAt Srt
    rw [List.pairwise_append]
    refine ⟨List.Pairwise.sublist (List.take_sublist _ _) hs, ?_, ?_⟩
    · rw [List.pairwise_cons]
      refine ⟨fun p hp => ?_, List.Pairwise.sublist (List.drop_sublist _ _) hs⟩
      obtain ⟨i, hi, rfl⟩ := List.mem_iff_getElem.1 hp
      rw [List.length_drop] at hi
      rw [List.getElem_drop]
      have h1 := rank_hi (k := k) hs (i := rank d l k + i) (by omega) (by omega)
      have h2 := hk _ (List.getElem_mem (show rank d l k + i < l.length by omega))
      rw [← Bool.not_eq_true, bef_iff] at h1
      show bef d k _ = true
      rw [bef_iff]
      omega
    · intro a ha b hb
      obtain ⟨i, hi, rfl⟩ := List.mem_iff_getElem.1 ha
      rw [List.length_take] at hi
      rw [List.getElem_take]
      have h1 : bef d l[i].1 k = true := rank_lo (by omega) (by omega)
      rcases List.mem_cons.1 hb with rfl | hb
      · exact h1
      · obtain ⟨j, hj, rfl⟩ := List.mem_iff_getElem.1 hb
        rw [List.length_drop] at hj
        rw [List.getElem_drop]
        exact List.pairwise_iff_getElem.1 hs i (rank d l k + j) (by omega) (by omega) (by omega)
/-- Another tree is laid into a map. -/
theorem mp_store {w : World} {g : Nat} {d : Bool} {a : Option Addr} {T : Tr} {L : List Pr} (h1 : Mc w g (fnOf d) a) (h2 : T.In w) (h3 : T.list = L) (h4 : w.cell? ⟨g, 4, none⟩ = none) (h5 : ∀ o, w.frozen? ⟨g, o, none⟩ = false) (h6 : Srt d L) (h7 : L.length < 1000000) :
    Mp (w.setCell ⟨g, 1, none⟩ (.pointer T.ad)) g d L :=
  ⟨T, ⟨(World.cell?_setCell_other _ _ _ _ (by simp)).trans h1.1, World.cell?_setCell_same' _ _ _ (by simp [h1.2])⟩, h2.gb (gb_setCell _ _ _ _) (Tr.on_ne h4 h2), h3, (World.cell?_setCell_other _ _ _ _ (by simp)).trans h4, fun o => by rw [World.frozen?_setCell]; exact h5 o, h6, h7⟩
/-- What is known of a map's block, but for its tree. -/
def Mk (w : World) (g : Nat) (d : Bool) (a : Option Addr) : Prop := Mc w g (fnOf d) a ∧ w.cell? ⟨g, 4, none⟩ = none ∧ ∀ o, w.frozen? ⟨g, o, none⟩ = false
theorem Mk.keep {w w' : World} {g : Nat} {d : Bool} {a : Option Addr} (h : Mk w g d a) (hb : Below w.heap.size w w') : Mk w' g d a :=
  ⟨h.1.keep hb, (World.cell?_of_block (w := w) (hb.block g (lt_of_cell h.1.1))).trans h.2.1, fun o => (hb.frozen (p := ⟨g, o, none⟩) (by have := lt_of_cell h.1.1; simpa using this)).trans (h.2.2 o)⟩

set_option maxRecDepth 100000 in
set_option maxHeartbeats 1000000 in
theorem set_yes (g : Nat) (d : Bool) (L : List Pr) (k : Ky) (v : Sl) (w : World) (hl1 : L.length + 1 < 1000000) (h : Mp w g d L) :
    Calls Try.prog 27 #[.pointer (some ⟨g, 0, none⟩), .string k.s, .slice v.a v.n v.c] w fun e w' => e = .returned (.tuple #[.slice (getR d L k).1.a (getR d L k).1.n (getR d L k).1.c, .bool (getR d L k).2]) ∧ Mp w' g d (setR d L k v) ∧ w.grownBy w' (some g) := by
  obtain ⟨T, h1, h2, rfl, h4, h5, h6, h7⟩ := h
  have HT := Lib.hid h2
  have hz : T.len ≤ 1000000 := Nat.le_of_lt h7
  have HF := Lib.hid (find_yes g (fnOf d) d T k w (cmp_fn d) h1 h2 h6 hz)
  have hr := rank_le d T.list k
  have HG := Lib.hid (getR_find d T.list k)
  have HK : Hid (Mk w g d T.ad) := ⟨h1, h4, h5⟩
  have HSr := Lib.hid h6
  have hlen : T.list.length = T.len := rfl
  have HSL := Lib.hid (setR_srt k v h6)
  have HLN : Hid ((setR d T.list k v).length < 1000000) := by have := setR_len (k := k) v h6; show _ < _; omega
  have HNW := Lib.hid (fun (w : World) (h : T.In w) => with_any T (rank d T.list k) k v w h (by omega) hr)
  have HCH := Lib.hid (fun (w : World) (h : T.In w) (hi : rank d T.list k < T.len) => changed_any T w.heap.size (rank d T.list k) v w h h.below (Nat.le_refl _) hz hi)
  have HSN := Lib.hid (fun h => set_new (k := k) v h6 h)
  have HSO := Lib.hid (fun p h => set_old (k := k) (p := p) v h6 h)
  have HFS := Lib.hid (fun p (h : find d T.list k = some p) => (find_some h).1)
  generalize setR d T.list k v = R at *
  generalize hZ : rank d T.list k = Z at *
  generalize hF : find d T.list k = F at *
  generalize getR d T.list k = G at *
  clear h1 h2 h4 h5 h6 h7 hr hZ hF
  go_enter Try.func27, Try.ntmps27
  go_wp2_with fail
  refine HF.out.mono ?_
  rintro e w2 ⟨U, rfl, hu, ht, hb⟩
  have HX := Lib.hid hu
  have HU := Lib.hid ht
  have HB := Lib.hid hb
  have HT2 := Lib.hid (HT.out.keep hb)
  have HK2 := Lib.hid (HK.out.keep hb)
  have hltg : g < w.heap.size := lt_of_cell HK.out.1.1
  clear hu ht hb HF HT HK
  rcases F with _ | p
  · obtain rfl : U = .nil := HU.out
    rw [show Tr.nil.ad = none from rfl]
    have hG : G = (⟨none, 0, 0⟩, false) := HG.out
    subst hG
    go_wp2_with fail
    have hw2 := HB.out.size
    have hb3 := bel_box w2 (pbox T.ad Z none)
    have HT3 := Lib.hid (HT2.out.keep hb3)
    have HK3 := Lib.hid (HK2.out.keep hb3)
    replace HB := Lib.hid (HB.out.alloc HB.out.size (pbox T.ad Z none))
    have c2 : (w2.alloc (pbox T.ad Z none)).cell? ⟨w2.heap.size, 2, none⟩ = some (.pointer none) := by go_simp
    have hbx : w2.heap.size < (w2.alloc (pbox T.ad Z none)).heap.size := by simp
    clear HT2 HK2 hb3
    refine (HNW.out _ HT3.out).mono ?_
    rintro e w4 ⟨c, ck, cv, cl, cr, rfl, hi, he, hb⟩
    have c3 : w4.cell? ⟨g, 1, none⟩ = some (.pointer T.ad) := keep_cell HK3.out.1.2 hb
    have c4 := (HK3.out.keep hb).2.2 1
    have HK4 := Lib.hid (HK3.out.keep hb)
    have c5 : w4.cell? ⟨w2.heap.size, 2, none⟩ = some (.pointer none) := keep_cell c2 hb
    have HB4 := Lib.hid (bel_tr HB.out hb)
    have hneg : ¬ w2.heap.size = g := by omega
    have HI := Lib.hid hi
    have HE := Lib.hid (he.trans (HSN.out (by first | exact trivial | rfl)))
    clear hi he hb HNW HCH HK3 HT3
    go_wp2_with fail
    go_ret2
    exact ⟨rfl, mp_store HK4.out.1 HI.out HE.out HK4.out.2.1 HK4.out.2.2 HSL.out HLN.out, gb_trans (gb_below HB4.out (some g)) (gb_setCell _ _ _ _)⟩
  · obtain ⟨b, l, r, rfl⟩ := HU.out
    have hG : G = (p.2, true) := HG.out
    subst hG
    rw [Tr.ad_node]
    have HFP := Lib.hid (HFS.out p rfl)
    rw [hlen] at HFP
    go_wp2_with fail
    have hw2 := HB.out.size
    have hb3 := bel_box w2 (pbox T.ad Z (some ⟨b, 0, none⟩))
    have HT3 := Lib.hid (HT2.out.keep hb3)
    have HK3 := Lib.hid (HK2.out.keep hb3)
    replace HB := Lib.hid (HB.out.alloc HB.out.size (pbox T.ad Z (some ⟨b, 0, none⟩)))
    have c2 : (w2.alloc (pbox T.ad Z (some ⟨b, 0, none⟩))).cell? ⟨w2.heap.size, 2, none⟩ = some (.pointer (some ⟨b, 0, none⟩)) := by go_simp
    have hbx : w2.heap.size < (w2.alloc (pbox T.ad Z (some ⟨b, 0, none⟩))).heap.size := by simp
    clear HT2 HK2 hb3
    refine (HCH.out _ HT3.out HFP.out).mono ?_
    rintro e w4 ⟨T', rfl, hi, he, ho, hb⟩
    have c3 : w4.cell? ⟨g, 1, none⟩ = some (.pointer T.ad) := keep_cell HK3.out.1.2 hb
    have c4 := (HK3.out.keep hb).2.2 1
    have HK4 := Lib.hid (HK3.out.keep hb)
    have c5 : w4.cell? ⟨w2.heap.size, 2, none⟩ = some (.pointer (some ⟨b, 0, none⟩)) := keep_cell c2 hb
    have HB4 := Lib.hid (bel_tr HB.out hb)
    have hneg : ¬ w2.heap.size = g := by omega
    have HI := Lib.hid hi
    have HE := Lib.hid (he.trans (HSO.out p rfl))
    have c6 := ((HX.out _ (HT3.out.keep hb)).1).2.1
    have hneb : ¬ g = b := fun e => by
      have h4 := ((HX.out _ (HT3.out.keep hb)).1).2.2.2.2
      rw [← e, HK4.out.2.1] at h4
      cases h4
    have hneb2 : ¬ b = g := fun e => hneb e.symm
    clear hi he hb ho HNW HCH HK3 HT3
    go_wp2_with fail
    go_ret2
    exact ⟨rfl, mp_store HK4.out.1 HI.out HE.out HK4.out.2.1 HK4.out.2.2 HSL.out HLN.out, gb_trans (gb_below HB4.out (some g)) (gb_setCell _ _ _ _)⟩

set_option maxRecDepth 100000 in
theorem new_yes (d : Bool) (w : World) : Calls Try.prog 24 #[.func (.func (fnOf d)) #[] #[]] w fun e w' => ∃ g', e = .returned (.pointer (some ⟨g', 0, none⟩)) ∧ w.heap.size ≤ g' ∧ Mp w' g' d [] ∧ Below w.heap.size w w' := by
  have hq := fn_nil (fnOf d)
  go_enter Try.func24, Try.ntmps24
  go_wp2_with fail
  go_ret
  exact ⟨_, rfl, Nat.le_refl _, ⟨.nil, ⟨by go_simp, by simp only [Tr.ad]; go_simp⟩, trivial, rfl, by go_simp, fun o => by go_simp, List.Pairwise.nil, by simp⟩, bel_box _ _⟩
set_option maxRecDepth 100000 in
theorem new_no (w : World) : Calls Try.prog 24 #[.nilFunc] w fun e w' => e = .returned (.pointer none) ∧ w' = w := by
  have hq := nil_nil
  go_enter Try.func24, Try.ntmps24
  go_wp2_with fail
  go_ret
  exact ⟨rfl, rfl⟩
end Go.Proofs.Ytmmcnpcijeahcaa.Jt
