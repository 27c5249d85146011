/-
  The program's Text.
-/
import Derived.Test.YtfemfmppjabdjaaDoorETxt
import Derived.Test.YtfemfmppjabdjaaDoorShelf
import Derived.OwnWalk
namespace Go.Proofs.YtfemfmppjabdjaaDoor.E
set_option linter.unusedVariables false
open Go.RowKit V Go.Sort D

/-- A row of strings in memory, that may be written. -/
def Sm (w : World) (g n : Nat) (l : List (List UInt8)) : Prop := l.length ≤ n ∧ (∀ i, i < n → ∃ s, w.cell? ⟨g, i, none⟩ = some (.string s)) ∧ (∀ i (h : i < l.length), w.cell? ⟨g, i, none⟩ = some (.string ⟨l[i].toArray⟩)) ∧ ∀ i, i < n → w.frozen? ⟨g, i, none⟩ = false
theorem Sm.keep {w w' : World} {g n : Nat} {l : List (List UInt8)} (h : Sm w g n l) (hb : Below w.heap.size w w') : Sm w' g n l := by
  obtain ⟨h0, h1, h2, h3⟩ := h
  have hl : ∀ i, i < n → g < w.heap.size := fun i hi => by obtain ⟨s, hs⟩ := h1 i hi; exact lt_of_cell hs
  refine ⟨h0, fun i hi => ?_, fun i hi => ?_, fun i hi => ?_⟩
  · obtain ⟨s, hs⟩ := h1 i hi
    exact ⟨s, (hb.cell (p := ⟨g, i, none⟩) (hl i hi)).trans hs⟩
  · exact (hb.cell (p := ⟨g, i, none⟩) (hl i (by omega))).trans (h2 i hi)
  · exact (hb.frozen (p := ⟨g, i, none⟩) (hl i hi)).trans (h3 i hi)
theorem Sm.put {w : World} {g n : Nat} {l : List (List UInt8)} (h : Sm w g n l) (hl : l.length < n) (x : List UInt8) : Sm (w.setCell ⟨g, l.length, none⟩ (.string ⟨x.toArray⟩)) g n (l ++ [x]) := by
  obtain ⟨h0, h1, h2, h3⟩ := h
  obtain ⟨s0, hs0⟩ := h1 l.length hl
  refine ⟨by simp; omega, fun i hi => ?_, fun i hi => ?_, fun i hi => ?_⟩
  · by_cases e : i = l.length
    · subst e
      exact ⟨_, World.cell?_setCell_same' _ _ _ (by rw [hs0]; rfl)⟩
    · obtain ⟨s, hs⟩ := h1 i hi
      exact ⟨s, by rw [World.cell?_setCell_other _ _ _ _ (by simp [e])]; exact hs⟩
  · by_cases e : i = l.length
    · subst e
      rw [World.cell?_setCell_same' _ _ _ (by rw [hs0]; rfl)]
      simp
    · have hi2 : i < l.length := by simp at hi; omega
      rw [World.cell?_setCell_other _ _ _ _ (by simp [e]), h2 i hi2, List.getElem_append_left hi2]
  · rw [World.frozen?_setCell]
    exact h3 i hi
theorem infoS : (Tryd.prog.info? 9).map (fun i => (i.zero, i.size, i.bytes)) = some (some (.string ⟨#[]⟩), 1, 16) := by kernel_rfl

theorem sm_made {w : World} {base g n : Nat} (h : w.ownsRow base 9 1 (.slice (some ⟨g, 0, none⟩) n n) n (madeCells #[.string ⟨#[]⟩] n).toList) : Sm w g n [] := by
  refine ⟨Nat.zero_le _, fun i hi => ⟨⟨#[]⟩, ?_⟩, fun i hi => by simp at hi, fun i hi => World.ownsRow.frozenAt h _⟩
  rw [World.ownsRow.cellAt h i (by omega), toList_madeCells_one]
  simp [hi]
theorem ix_str (g n k : Nat) (z : Int) (hz : z = (k : Int)) (hk : k < n) : ∀ w, (Instr.indexAt 67 (.slice (some ⟨g, 0, none⟩) n n) (.int .i64 z)).run Tryd.prog w = .ok (.pointer (some ⟨g, k, none⟩)) w := by
  intro w
  subst hz
  have hk2 : (k : Int) < (n : Int) := by omega
  go_simp
theorem join_txt {v : List Dt} (h : v ≠ []) : Lib.join ((v.map fun d => (⟨(txtD d).toArray⟩ : ByteArray)).map (·.data.toList)) [32] = txtV v := by
  cases v with
  | nil => exact absurd rfl h
  | cons a t =>
    rw [List.map_cons, List.map_cons, Lib.join_cons]
    show txtD a ++ _ = txtD a ++ tailV t
    congr 1
    clear h
    unfold Lib.joinTail tailV
    rw [List.map_map, List.map_map]
    induction t with
    | nil => rfl
    | cons b t ih =>
      simp only [List.map_cons, List.flatten_cons, List.flatMap_cons]
      rw [ih]
      simp

/-- What Text says: a text, or an error. -/
def txtB (v : List Dt) : List UInt8 × Int := if validV v = true then (txtV v, 0) else ([], 2)

set_option maxRecDepth 100000 in
set_option maxHeartbeats 1000000 in
theorem text_any5 (v : List Dt) (a : Option Addr) (c : Nat) (w : World) (hL : Ld w) (hx : RowD w a v) (hlx : v.length ≤ 1000000) :
    Calls Tryd.prog 32 #[.slice a v.length c] w fun e w' => e = .returned (.tuple #[.string ⟨(txtB v).1.toArray⟩, .int .i64 (txtB v).2]) ∧ Below w.heap.size w w' := by
  have HLd := Lib.hid hL
  have HX := Lib.hid hx
  have HV := Lib.hid (validV_any v a c w hx (by omega))
  clear hL hx
  rcases hb : validV v with _ | _
  · have e : txtB v = ([], 2) := by unfold txtB; rw [hb, if_neg (by simp)]
    rw [e]
    rw [hb] at HV
    clear hb e
    go_enter Tryd.func32, Tryd.ntmps32
    go_wp2_with fail
    refine HV.out.mono ?_
    rintro e w1 ⟨rfl, hl⟩
    have HB := Lib.hid hl.bel
    clear hl HV
    go_wp2_with fail
    go_ret2
    exact ⟨rfl, HB.out⟩
  · have e : txtB v = (txtV v, 0) := by unfold txtB; rw [hb, if_pos rfl]
    rw [e]
    rw [hb] at HV
    have hvd := (valid_vd v).1 hb
    have hl64 := vd_len hvd
    clear hb e hlx
    by_cases h0 : v = []
    · subst h0
      rw [show txtV [] = [45] from rfl]
      clear hvd hl64
      go_enter Tryd.func32, Tryd.ntmps32
      go_wp2_with fail
      refine HV.out.mono ?_
      rintro e w1 ⟨rfl, hl⟩
      have HB := Lib.hid hl.bel
      clear hl HV
      go_wp2_with fail
      go_ret2
      exact ⟨rfl, HB.out⟩
    · have hn0 : ((v.length : Int) == 0) = false := by
        rw [beq_eq_false_iff_ne]
        have := List.length_pos_iff.2 h0
        omega
      have hli : (v.length : Int) ≤ 64 := by omega
      go_enter Tryd.func32, Tryd.ntmps32
      go_wp2_with fail
      refine HV.out.mono ?_
      rintro e w1 ⟨rfl, hl⟩
      have HB := Lib.hid hl.bel
      clear hl HV
      obtain ⟨i0, hi0, hz0, hz1, hz2⟩ := G.info_of infoS
      go_wp2_with (refine wpList_make_full _ rfl _ _ _ rfl w.heap.size 9 i0 (.string ⟨#[]⟩) 1 Tryd.underlying67 hi0 hz0 hz1 .i64 .i64 _ _ v.length rfl rfl rfl rfl (by rw [hz2]; omega) (by unfold maxLen; omega) HB.out.size ?_)
      intro w2 hown hg
      have HS := Lib.hid (sm_made hown)
      have HB2 : Hid (Below w.heap.size w w2) := HB.out.grown hg HB.out.size (fun k hk => by cases hk)
      have HG : Hid (w.heap.size ≤ w1.heap.size) := HB.out.size
      clear hown hg hi0 hz0 hz1 hz2 HB
      generalize w1.heap.size = g at *
      have HTt : Hid (∀ y ∈ v, ∀ wx, Ld wx → _) := fun y hy wx hL => D.text_any y wx hL
      have HTv : Hid (∀ y ∈ v, txtR y = (txtD y, 0)) := fun y hy => txtR_valid (hvd.1 y hy)
      have HTl : Hid (∀ y ∈ v, (txtD y).length ≤ 13) := fun y hy => txt_len2 (hvd.1 y hy)
      have HLn := Lib.hid (txtV_len v hvd)
      have HJ := Lib.hid (join_txt h0)
      clear hvd h0
      go_wp2_with fail
      go_loopw [20, 5, 6] (fun i _ _ wr => ∃ (k : Nat), k ≤ v.length ∧ i = .int .i64 (k : Int) ∧ Hid (Below w.heap.size w wr) ∧ Hid (Sm wr g v.length ((v.take k).map txtD))) (fun i _ _ _ => v.length - (intOf i).toNat)
      case atStart => exact ⟨0, Nat.zero_le _, rfl, HB2, HS.out⟩
      case round =>
        obtain ⟨k, hk, rfl, hh, HO⟩ := hrel
        by_cases hlt : k < v.length
        · have hi1 : (k : Int) < (v.length : Int) := by omega
          obtain ⟨b1, o1, rfl, p0, p1⟩ := HX.out.get hh.out k hlt
          have hB3 : Below wr.heap.size wr (wr.alloc (Obj.cells #[.int .i64 v[k].1, .int .i64 v[k].2] 25)) := (Below.refl _ _).alloc (Nat.le_refl _) _
          have HO3 := Lib.hid (HO.out.keep hB3)
          have HB3 := bel_tr hh hB3
          have HTy := Lib.hid (HTt.out v[k] (List.getElem_mem hlt) _ (HLd.out.below HB3.out))
          rw [HTv.out v[k] (List.getElem_mem hlt)] at HTy
          have HF : Hid ((v.take (k + 1)).map txtD = (v.take k).map txtD ++ [txtD v[k]]) := by show _ = _; rw [List.take_succ_eq_append_getElem hlt, List.map_append]; rfl
          have HK : Hid (((v.take k).map txtD).length = k) := by show _ = _; rw [List.length_map, List.length_take]; omega
          have hix := ix_str g v.length k (k : Int) rfl hlt
          have hBx : ((wr.alloc (Obj.cells #[.int .i64 v[k].1, .int .i64 v[k].2] 25))).heap.size = wr.heap.size + 1 := by simp
          clear hB3
          generalize (v.take k).map txtD = L at *
          generalize txtD v[k] = Q at *
          generalize v[k] = y at *
          go_wp2_with fail
          refine HTy.out.mono ?_
          rintro e w5 ⟨rfl, hb⟩
          replace HO3 := Lib.hid (HO3.out.keep hb)
          replace HB3 := bel_tr HB3 hb
          clear hb HTy p0 p1
          have hst := HO3.out.2.1 k hlt
          obtain ⟨s0, q0⟩ := hst
          have q1 := HO3.out.2.2.2 k hlt
          have HP : Hid (Sm (w5.setCell ⟨g, k, none⟩ (.string ⟨Q.toArray⟩)) g v.length (L ++ [Q])) := by
            have := HO3.out.put (by rw [HK.out]; exact hlt) Q
            rw [HK.out] at this
            exact this
          generalize (⟨Q.toArray⟩ : ByteArray) = QS at *
          go_wp2_with fail
          go_roundw
          case rel => exact ⟨k + 1, by omega, by go_num, (HB3.out.setCell (p := ⟨g, k, none⟩) HG.out _), by show Sm _ _ _ _; rw [HF.out]; exact HP.out⟩
          case measure => simp [intOf]; omega
        · obtain rfl : k = v.length := by omega
          have hend : ¬ (v.length : Int) < (v.length : Int) := by omega
          rw [List.take_length] at HO
          have hj := Tryd.strings_Join g 0 v.length (v.map fun d => (⟨(txtD d).toArray⟩ : ByteArray)) ⟨#[32]⟩ wr (fun j x hx => by
            rw [List.getElem?_map] at hx
            have hl : j < v.length := by
              rcases hv : v[j]? with _ | y
              · rw [hv] at hx; cases hx
              · exact (List.getElem?_eq_some_iff.1 hv).1
            rw [List.getElem?_eq_getElem hl] at hx
            cases hx
            rw [Nat.zero_add]
            have := HO.out.2.2.1 j (by rw [List.length_map]; exact hl)
            rw [List.getElem_map] at this
            exact this) (by
            have h := HO.out.2.1 0 (by have := hn0; simp only [beq_eq_false_iff_ne] at this; omega)
            obtain ⟨s, hs⟩ := h
            exact lt_of_cell hs) (by rw [List.length_map]; omega) (by rw [List.length_map]; exact Nat.le_refl _) (by
            have h1 := HJ.out
            have h2 := HLn.out
            show (Lib.join _ [32]).length ≤ _
            rw [h1]; omega)
          rw [List.length_map] at hj
          have HJo := Lib.hid hj
          have HJ2 : Hid (Lib.join ((v.map fun d => (⟨(txtD d).toArray⟩ : ByteArray)).map (·.data.toList)) (⟨#[32]⟩ : ByteArray).data.toList = txtV v) := HJ.out
          clear hj
          rw [HJ2.out] at HJo
          generalize hrs : (⟨(txtV v).toArray⟩ : ByteArray) = RS at *
          have HRS := Lib.hid hrs
          clear hrs
          clear HJ HJ2 HLn HTl HTv HTt
          go_wp2_with fail
          refine HJo.out.mono ?_
          rintro e w6 ⟨rfl, hb⟩
          have HB6 := bel_tr hh hb
          clear hb HJo
          go_wp2_with fail
          go_ret2
          refine ⟨?_, HB6.out⟩
          show Ending.returned (Value.tuple #[Value.string RS, _]) = _
          rw [← HRS.out]
          rfl
end Go.Proofs.YtfemfmppjabdjaaDoor.E
