/-
  The program's Of.
-/
import Derived.Test.YtefnoajkdhgonaaECnt
import Derived.Test.YtefnoajkdhgonaaEConcat
namespace Go.Proofs.Ytefnoajkdhgonaa.E
set_option linter.unusedVariables false
open Go.RowKit V Go.Sort D

/-- 65 counters in memory, that may be written. -/
def Cm (w : World) (g : Nat) (f : Nat → Int) : Prop := ∀ i, i < 65 → w.cell? ⟨g, i, none⟩ = some (.int .i64 (f i)) ∧ w.frozen? ⟨g, i, none⟩ = false
theorem Cm.lt {w : World} {g : Nat} {f : Nat → Int} (h : Cm w g f) : g < w.heap.size := lt_of_cell (h 0 (by omega)).1
theorem Cm.keep {w w' : World} {g : Nat} {f : Nat → Int} (h : Cm w g f) (hb : Below w.heap.size w w') : Cm w' g f := fun i hi =>
  ⟨(hb.cell (p := ⟨g, i, none⟩) h.lt).trans (h i hi).1, (hb.frozen (p := ⟨g, i, none⟩) h.lt).trans (h i hi).2⟩
/-- One counter set. -/
def upd (f : Nat → Int) (k : Nat) (x : Int) : Nat → Int := fun i => if i = k then x else f i
theorem Cm.set {w : World} {g : Nat} {f : Nat → Int} (h : Cm w g f) {k : Nat} (hk : k < 65) (x : Int) : Cm (w.setCell ⟨g, k, none⟩ (.int .i64 x)) g (upd f k x) := fun i hi => by
  refine ⟨?_, ?_⟩
  · unfold upd
    by_cases e : i = k
    · subst e
      rw [if_pos rfl]
      exact World.cell?_setCell_same' _ _ _ (by rw [(h i hi).1]; rfl)
    · rw [if_neg e]
      rw [World.cell?_setCell_other _ _ _ _ (by simp [e])]
      exact (h i hi).1
  · rw [World.frozen?_setCell]
    exact (h i hi).2
def cellsOf (f : Nat → Int) : List Value := (List.range 65).map fun i => .int .i64 (f i)
theorem cn_of (f : Nat → Int) : Cn (cellsOf f) f := by
  unfold Cn cellsOf
  refine ⟨by simp, fun i hi => ?_⟩
  rw [List.getElem?_map, List.getElem?_range hi]
  rfl
theorem Cm.range {w : World} {g : Nat} {f : Nat → Int} (h : Cm w g f) : w.rangeAt g 0 (cellsOf f) := fun j v hj => by
  have hl : j < 65 := by
    have := (List.getElem?_eq_some_iff.1 hj).1
    rwa [(cn_of f).1] at this
  rw [(cn_of f).2 j hl] at hj
  cases hj
  rw [Nat.zero_add]
  exact (h j hl).1

/-- The greatest counter of each replica. -/
def lastF (l : List Dt) : Nat → Int := l.foldl (fun f d => upd f d.1.toNat (max (f d.1.toNat) d.2)) fun _ => 0

theorem last_take {l : List Dt} {k : Nat} (h : k < l.length) : lastF (l.take (k + 1)) = upd (lastF (l.take k)) l[k].1.toNat (max (lastF (l.take k) l[k].1.toNat) l[k].2) := by
  unfold lastF
  rw [List.take_succ_eq_append_getElem h, List.foldl_append]
  rfl
theorem zero_cm (w : World) : Cm (w.alloc (Obj.cells Try.zeroCells97 97)) w.heap.size (fun _ => 0) := by
  have e : Try.zeroCells97 = Array.replicate 65 (.int .i64 0) := by kernel_rfl
  rw [e]
  intro i hi
  have hh : (w.alloc (.cells (Array.replicate 65 (.int .i64 0)) 97)).heap[w.heap.size]? = some (.cells (Array.replicate 65 (.int .i64 0)) 97 (0, 0)) := by show (w.heap.push _)[w.heap.size]? = _; simp
  constructor
  · simp only [World.cell?, hh]
    rw [if_neg (by simp)]
    simp [hi]
  · unfold World.frozen?
    rw [show (⟨w.heap.size, i, none⟩ : Addr).block = w.heap.size from rfl, hh]
    simp
theorem ix_cn (g n : Nat) (z : Int) (hz : z = (n : Int)) (hn : n < 65) : ∀ w, (Instr.indexAt 97 (.pointer (some ⟨g, 0, none⟩)) (.int .i64 z)).run Try.prog w = .ok (.pointer (some ⟨g, n, none⟩)) w := by
  intro w
  subst hz
  have hk2 : (n : Int) < 65 := by omega
  go_simp

/-! ### The same as the reference -/
theorem vec_mem {f : Nat → Int} {k : Nat} {x : Dt} : x ∈ vecFrom f k ↔ ∃ i, k ≤ i ∧ i < 65 ∧ 0 < f i ∧ x = ((i : Int), f i) := by
  unfold vecFrom
  rw [List.mem_filterMap]
  constructor
  · rintro ⟨i, hi, h⟩
    rw [List.mem_range'_1] at hi
    split at h
    · rename_i hp
      cases h
      exact ⟨i, by omega, by omega, hp, rfl⟩
    · cases h
  · rintro ⟨i, h1, h2, h3, rfl⟩
    exact ⟨i, by rw [List.mem_range'_1]; omega, by rw [if_pos h3]⟩
theorem vec_inc (f : Nat → Int) : ∀ (m k : Nat), 65 - k = m → Inc (vecFrom f k)
  | 0, k, h => by rw [vec_end (by omega)]; exact List.Pairwise.nil
  | m + 1, k, h => by
    have ih := vec_inc f m (k + 1) (by omega)
    rw [vec_step (by omega)]
    unfold Inc at *
    split
    · rw [List.singleton_append, List.pairwise_cons]
      refine ⟨fun x hx => ?_, ih⟩
      obtain ⟨i, h1, -, -, rfl⟩ := vec_mem.1 hx
      show ((k : Nat) : Int) < (i : Int)
      omega
    · exact ih
theorem vec_get {f : Nat → Int} (hf : ∀ i, i < 65 → 0 ≤ f i) (r : Int) : getV (vecFrom f 0) r = if 0 ≤ r ∧ r < 65 then f r.toNat else 0 := by
  by_cases h : 0 ≤ r ∧ r < 65
  · rw [if_pos h]
    by_cases hp : 0 < f r.toNat
    · have hm : (r, f r.toNat) ∈ vecFrom f 0 := vec_mem.2 ⟨r.toNat, Nat.zero_le _, by omega, hp, by rw [Int.toNat_of_nonneg h.1]⟩
      exact get_some (vec_inc f _ 0 rfl) hm
    · rw [get_none]
      · have := hf r.toNat (by omega); omega
      · intro x hx e
        obtain ⟨i, -, h2, h3, rfl⟩ := vec_mem.1 hx
        subst e
        simp at hp
        omega
  · rw [if_neg h, get_none]
    intro x hx e
    obtain ⟨i, -, h2, h3, rfl⟩ := vec_mem.1 hx
    subst e
    exact h ⟨by omega, by show (i : Int) < 65; omega⟩
theorem last_both : ∀ (l : List Dt) (f : Nat → Int), (∀ x ∈ l, validR x = true) → (∀ i, 0 ≤ f i ∧ f i ≤ 4294967295) → f 0 = 0 →
    (∀ i, 0 ≤ (l.foldl (fun f d => upd f d.1.toNat (max (f d.1.toNat) d.2)) f) i ∧ (l.foldl (fun f d => upd f d.1.toNat (max (f d.1.toNat) d.2)) f) i ≤ 4294967295) ∧ (l.foldl (fun f d => upd f d.1.toNat (max (f d.1.toNat) d.2)) f) 0 = 0 ∧
    ∀ i : Nat, (l.foldl (fun f d => upd f d.1.toNat (max (f d.1.toNat) d.2)) f) i = l.foldl (fun n d => if (i : Int) = d.1 then max n d.2 else n) (f i)
  | [], f, _, hf, h0 => ⟨hf, h0, fun _ => rfl⟩
  | d :: t, f, hl, hf, h0 => by
    have hv := valid_iff.1 (hl d (by simp))
    obtain ⟨h1, h2, h3⟩ := last_both t (upd f d.1.toNat (max (f d.1.toNat) d.2)) (fun x hx => hl x (by simp [hx])) (fun i => by
      have := hf i
      have := hf d.1.toNat
      unfold upd
      split <;> omega) (by unfold upd; rw [if_neg (by omega)]; exact h0)
    refine ⟨h1, h2, fun i => ?_⟩
    rw [List.foldl_cons, List.foldl_cons, h3 i]
    congr 1
    unfold upd
    by_cases e : i = d.1.toNat
    · rw [if_pos e, if_pos (by omega), e]
    · rw [if_neg e, if_neg (by omega)]
theorem of_plain {l : List Dt} (h : ∀ j (hj : j < l.length), validR l[j] = true) : ofB l = (vecFrom (lastF l) 0, 0) := by
  have hl : ∀ x ∈ l, validR x = true := fun x hx => by
    obtain ⟨j, hj, rfl⟩ := List.mem_iff_getElem.1 hx
    exact h j hj
  obtain ⟨h1, h2, h3⟩ := last_both l (fun _ => 0) hl (fun _ => by omega) rfl
  have e : (l.foldl (fun f d => upd f d.1.toNat (max (f d.1.toNat) d.2)) fun _ => 0) = lastF l := rfl
  rw [e] at h1 h2 h3
  have hm := merge_both (b := l) vd_nil hl
  rw [all_yes h]
  congr 1
  refine vd_ext hm.1 ⟨fun x hx => ?_, vec_inc _ _ 0 rfl⟩ fun r => ?_
  · obtain ⟨i, -, h5, h6, rfl⟩ := vec_mem.1 hx
    rw [valid_iff]
    have := h1 i
    have hi : i ≠ 0 := by rintro rfl; omega
    refine ⟨?_, ?_, ?_, ?_⟩
    · show (0 : Int) < (i : Int); omega
    · show (i : Int) ≤ 64; omega
    · exact h6
    · exact this.2
  · rw [vec_get fun i _ => (h1 i).1]
    have hmr := hm.2 r
    by_cases hr : 0 ≤ r ∧ r < 65
    · rw [if_pos hr, h3, Int.toNat_of_nonneg hr.1]
      exact hmr
    · rw [if_neg hr]
      refine hmr.trans ?_
      have : ∀ (t : List Dt) (n : Int), (∀ x ∈ t, validR x = true) → t.foldl (fun n d => if r = d.1 then max n d.2 else n) n = n := by
        intro t
        induction t with
        | nil => intro n _; rfl
        | cons d t ih =>
          intro n ht
          have hv := valid_iff.1 (ht d (by simp))
          rw [List.foldl_cons, if_neg (by omega)]
          exact ih n fun x hx => ht x (by simp [hx])
      exact this l _ hl

/-- A box with a dot. -/
def Bd (g : Nat) (x y : Int) (w : World) : Prop := w.cell? ⟨g, 0, none⟩ = some (.int .i64 x) ∧ w.cell? ⟨g, 1, none⟩ = some (.int .i64 y)
set_option maxRecDepth 100000 in
set_option maxHeartbeats 1000000 in
theorem of_any (l : List Dt) (b : Option Addr) (d : Nat) (w : World) (hy : RowD w b l) (hly : l.length ≤ 2000000) :
    Calls Try.prog 77 #[.slice b l.length d] w fun e w' => ∃ v, e = .returned (.tuple #[v, .int .i64 (ofB l).2]) ∧ OD w' w.heap.size E v (ofB l).1 ∧ Below w.heap.size w w' := by
  have HY := Lib.hid hy
  have hlj : (l.length : Int) ≤ 2000000 := by omega
  have HVr := Lib.hid (fun d w => valid_lays d w)
  have HVec := Lib.hid (fun f w => vector_any f (cellsOf f) w (cn_of f))
  have HNoB := Lib.hid (fun k (hk : k < l.length) h => all_no (l := l) hk h)
  have HYes := Lib.hid (fun h => of_plain (l := l) h)
  generalize ofB l = B at *
  clear hy hly
  go_enter Try.func77, Try.ntmps77
  go_wp2_with fail
  have hC := zero_cm w
  have hB : Below w.heap.size w (w.alloc (Obj.cells Try.zeroCells97 97)) := (Below.refl _ _).alloc (Nat.le_refl _) _
  generalize w.alloc (Obj.cells Try.zeroCells97 97) = w1 at *
  have HC := Lib.hid hC
  have HB := Lib.hid hB
  clear hC hB
  go_loopw [9, 6] (fun i _ wr => ∃ (k : Nat), k ≤ l.length ∧ i = .int .i64 (k : Int) ∧ Hid (Below w.heap.size w wr) ∧ Hid (Cm wr w.heap.size (lastF (l.take k))) ∧ Hid (∀ j (hj : j < l.length), j < k → validR l[j] = true)) (fun i _ _ => l.length - (intOf i).toNat)
  case atStart => exact ⟨0, Nat.zero_le _, rfl, HB, HC, fun j _ h => by omega⟩
  case round =>
    obtain ⟨k, hk, rfl, hh, HO, HV⟩ := hrel
    by_cases hlt : k < l.length
    · have hi1 : (k : Int) < (l.length : Int) := by omega
      obtain ⟨b1, o1, rfl, p0, p1⟩ := HY.out.get hh.out k hlt
      have HF : Hid (lastF (l.take (k + 1)) = upd (lastF (l.take k)) l[k].1.toNat (max (lastF (l.take k) l[k].1.toNat) l[k].2)) := last_take hlt
      have HNo := Lib.hid (HNoB.out k hlt)
      obtain ⟨p, hp⟩ : ∃ p, p = l[k] := ⟨_, rfl⟩
      have HP := Lib.hid hp
      rw [← hp] at p0 p1 HF HNo
      clear hp
      generalize lastF (l.take k) = f at *
      have HVp := Lib.hid (HVr.out p)
      have hx0 : (wr.alloc (Obj.cells #[.int .i64 p.1, .int .i64 p.2] 38)).cell? ⟨wr.heap.size, 0, none⟩ = some (.int .i64 p.1) := by go_simp
      have hx1 : (wr.alloc (Obj.cells #[.int .i64 p.1, .int .i64 p.2] 38)).cell? ⟨wr.heap.size, 1, none⟩ = some (.int .i64 p.2) := by go_simp
      have hBa : Below wr.heap.size wr (wr.alloc (Obj.cells #[.int .i64 p.1, .int .i64 p.2] 38)) := (Below.refl _ _).alloc (Nat.le_refl _) _
      have HO1 := Lib.hid (HO.out.keep hBa)
      have HB1 := bel_tr hh hBa
      clear hBa
      go_wp2_with fail
      generalize wr.alloc (Obj.cells #[Value.int IntKind.i64 p.1, Value.int IntKind.i64 p.2] 38) = w2 at *
      refine (HVp.out w2).mono ?_
      rintro e w3 ⟨rfl, hl⟩
      have hb := hl.bel
      replace HO1 := Lib.hid (HO1.out.keep hb)
      replace HB1 := bel_tr HB1 hb
      replace hx0 := (hb.cell (p := ⟨_, _, none⟩) (lt_of_cell hx0)).trans hx0
      replace hx1 := (hb.cell (p := ⟨_, _, none⟩) (lt_of_cell hx1)).trans hx1
      clear hl hb HVp
      rcases hv : validR p with _ | _
      · have hE := HNo.out hv
        subst hE
        clear hv HNo
        go_wp2_with fail
        go_ret2
        exact ⟨_, rfl, OD.nil _ _ _, HB1.out⟩
      · have hvi := valid_iff.1 hv
        have HVq : Hid (∀ j (hj : j < l.length), j < k + 1 → validR l[j] = true) := fun j hj hjk => by
          by_cases e : j = k
          · subst e; rw [← HP.out]; exact hv
          · exact HV.out j hj (by omega)
        clear hv HNo HP
        obtain ⟨z, y⟩ := p
        obtain ⟨n, rfl⟩ : ∃ n : Nat, z = (n : Int) := ⟨z.toNat, by omega⟩
        have hn : n < 65 := by omega
        simp only [Int.toNat_natCast] at HF
        have hix := ix_cn w.heap.size n (n : Int) rfl hn
        have HOn := Lib.hid (HO1.out n hn)
        have H0 := Lib.hid (fun w2 (h : Bd wr.heap.size n y w2) => load_int (w := w2) h.1)
        have H1 := Lib.hid (fun w2 (h : Bd wr.heap.size n y w2) => load_int (w := w2) h.2)
        have HS : Hid (Bd wr.heap.size n y w3.drew) := ⟨hx0, hx1⟩
        clear hx0 hx1 hvi
        go_wp2_with fail
        refine Sch.wp_region_tree (Bd wr.heap.size n y) (.take 0 (.take 1 (.take 2 (.take 3 (.take 4 (.take 6 (.take 7 (.one 5 (.one 8 (.take 9 (.one 10 .done))))))))))) (by kernel_rfl) (by kernel_rfl) HS.out ?_
        have q0 : w3.drew.cell? ⟨w.heap.size, n, none⟩ = some (.int .i64 (f n)) := HOn.out.1
        have q1 : w3.drew.frozen? ⟨w.heap.size, n, none⟩ = false := HOn.out.2
        have HO2 : Hid (Cm w3.drew w.heap.size f) := HO1.out
        have HB2 : Hid (Below w.heap.size w w3.drew) := HB1.out.drew
        generalize w3.drew = w4 at *
        clear HOn HO1 HB1
        repeat (first
          | (refine tree_load _ _ _ _ _ rfl rfl rfl rfl (by first | exact H0.out | exact H1.out) rfl ?_; simp only [Act.put, List.setIfInBounds_toArray, List.set_cons_zero, List.set_cons_succ])
          | (refine Sch.tree_q rfl rfl (fun K hK => ?_); go_big_quiet_op; (first | refine hK _ ?_ | refine ⟨_, fun _ _ => rfl, hK _ ?_⟩); clear hK K))
        have HS2 : Hid (∀ z, Bd wr.heap.size n y (w4.setCell ⟨w.heap.size, n, none⟩ (.int .i64 z))) := fun z => by
          have hlt3 := HO.out.lt
          constructor
          · rw [World.cell?_setCell_other _ _ _ _ (by first | (simp; done) | (simp; omega))]; exact HS.out.1
          · rw [World.cell?_setCell_other _ _ _ _ (by first | (simp; done) | (simp; omega))]; exact HS.out.2
        by_cases hmx : y ≤ f n
        · have HM : Hid (max (f n) y = f n) := by show _ = _; omega
          refine Sch.tree_e rfl rfl (fun K hK => ?_)
          go_wp2_with fail
          refine hK _ _ HS.out ?_
          clear hK K
          refine Sch.tree_e rfl rfl (fun K hK => ?_)
          go_wp2_with fail
          refine hK _ _ HS.out ?_
          clear hK K
          refine Sch.tree_q rfl rfl (fun K hK => ?_)
          go_big_quiet_op
          first | refine hK _ ?_ | refine ⟨_, fun _ _ => rfl, hK _ ?_⟩
          clear hK K
          refine Sch.tree_e rfl rfl (fun K hK => ?_)
          go_wp2_with fail
          refine hK _ _ (HS2.out _) ?_
          clear hK K
          refine Sch.tree_n ?_
          go_wp2_with fail
          go_roundw
          case rel => exact ⟨k + 1, by omega, by go_num, (HB2.out.setCell (p := ⟨w.heap.size, n, none⟩) (Nat.le_refl _) _), by show Cm _ _ _; rw [HF.out, HM.out]; exact HO2.out.set hn _, HVq⟩
          case measure => simp [intOf]; omega
        · have HM : Hid (max (f n) y = y) := by show _ = _; omega
          have hmx2 : f n < y := by omega
          refine Sch.tree_e rfl rfl (fun K hK => ?_)
          go_wp2_with fail
          refine hK _ _ HS.out ?_
          clear hK K
          refine Sch.tree_e rfl rfl (fun K hK => ?_)
          go_wp2_with fail
          refine hK _ _ HS.out ?_
          clear hK K
          refine Sch.tree_q rfl rfl (fun K hK => ?_)
          go_big_quiet_op
          first | refine hK _ ?_ | refine ⟨_, fun _ _ => rfl, hK _ ?_⟩
          clear hK K
          refine Sch.tree_e rfl rfl (fun K hK => ?_)
          go_wp2_with fail
          refine hK _ _ (HS2.out _) ?_
          clear hK K
          refine Sch.tree_n ?_
          go_wp2_with fail
          go_roundw
          case rel => exact ⟨k + 1, by omega, by go_num, (HB2.out.setCell (p := ⟨w.heap.size, n, none⟩) (Nat.le_refl _) _), by show Cm _ _ _; rw [HF.out, HM.out]; exact HO2.out.set hn _, HVq⟩
          case measure => simp [intOf]; omega
    · obtain rfl : k = l.length := by omega
      have hi1 : ¬ (l.length : Int) < (l.length : Int) := by omega
      have hE := HYes.out fun j hj => HV.out j hj hj
      subst hE
      rw [List.take_length] at HO
      have HR := Lib.hid HO.out.range
      have HI : Hid ((Try.prog.info? 97).map (·.size) = some (cellsOf (lastF l)).length) := by show _ = _; rw [info_cn, (cn_of _).1]
      have HVec2 := Lib.hid (HVec.out (lastF l) wr)
      generalize hA : (cellsOf (lastF l)).toArray = A at *
      have HA := Lib.hid hA
      clear hA HVec
      go_wp2_with (refine wpList_load_mid rfl 97 (.tmp 4) rfl w.heap.size 0 rfl (cellsOf (lastF l)) _ HR.out Try.underlying97 rfl HI.out ?_; rw [HA.out])
      refine HVec2.out.mono ?_
      rintro e w5 ⟨v, rfl, ho, hb⟩
      have HO2 := Lib.hid (ho.mono fun k hk => Nat.le_trans hh.out.size (ho.lt k hk).1)
      have HB2 := bel_tr hh hb
      clear ho hb HVec2
      go_wp2_with fail
      go_ret2
      exact ⟨_, rfl, HO2.out, HB2.out⟩
end Go.Proofs.Ytefnoajkdhgonaa.E
