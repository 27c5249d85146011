/-
  The program's Of.
-/
import Derived.Test.YtgopkffgljiblaaGreatECnt
import Derived.Test.YtgopkffgljiblaaGreatEConcat
import Derived.Test.YtgopkffgljiblaaGreatMDText
import Derived.Test.YtgopkffgljiblaaGreatMDRefB
import Derived.Test.YtgopkffgljiblaaGreatDHas

section
namespace Go.Proofs.YtgopkffgljiblaaGreat.E
set_option linter.unusedVariables false
open Go.RowKit V Go.Sort D

/-- 65 counters in memory, that may be written. -/
def Cm (w : World) (g : Nat) (f : Nat → Int) : Prop := ∀ i, i < 65 → w.cell? ⟨g, i, none⟩ = some (.int .i64 (f i)) ∧ w.frozen? ⟨g, i, none⟩ = false
theorem Cm.lt {w : World} {g : Nat} {f : Nat → Int} (h : Cm w g f) : g < w.heap.size := lt_of_cell (h 0 (by omega)).1
theorem Cm.keep {w w' : World} {g : Nat} {f : Nat → Int} (h : Cm w g f) (hb : Below w.heap.size w w') : Cm w' g f := fun i hi =>
  ⟨(hb.cell (p := ⟨g, i, none⟩) h.lt).trans (h i hi).1, (hb.frozen (p := ⟨g, i, none⟩) h.lt).trans (h i hi).2⟩
/-- One counter set. -/
def upd (f : Nat → Int) (k : Nat) (x : Int) : Nat → Int := fun i => if i = k then x else f i
theorem Cm.set {w : World} {g : Nat} {f : Nat → Int} (h : Cm w g f) {k : Nat} (hk : k < 65) (x : Int) : Cm (w.setCell ⟨g, k, none⟩ (.int .i64 x)) g (upd f k x) := fun i hi => by
  refine ⟨?_, ?_⟩
  · unfold upd
    by_cases e : i = k
    · subst e
      rw [if_pos rfl]
      exact World.cell?_setCell_same' _ _ _ (by rw [(h i hi).1]; rfl)
    · rw [if_neg e]
      rw [World.cell?_setCell_other _ _ _ _ (by simp)]
      exact (h i hi).1
  · rw [World.frozen?_setCell]
    exact (h i hi).2
def cellsOf (f : Nat → Int) : List Value := (List.range 65).map fun i => .int .i64 (f i)
theorem cn_of (f : Nat → Int) : Cn (cellsOf f) f := by
  unfold Cn cellsOf
  refine ⟨by simp, fun i hi => ?_⟩
  rw [List.getElem?_map, List.getElem?_range hi]
  rfl
theorem Cm.range {w : World} {g : Nat} {f : Nat → Int} (h : Cm w g f) : w.rangeAt g 0 (cellsOf f) := fun j v hj => by
  have hl : j < 65 := by
    have := (List.getElem?_eq_some_iff.1 hj).1
    rwa [(cn_of f).1] at this
  rw [(cn_of f).2 j hl] at hj
  cases hj
  rw [Nat.zero_add]
  exact (h j hl).1

/-- The greatest counter of each replica. -/
def lastF (l : List Dt) : Nat → Int := l.foldl (fun f d => upd f d.1.toNat (max (f d.1.toNat) d.2)) fun _ => 0

theorem last_take {l : List Dt} {k : Nat} (h : k < l.length) : lastF (l.take (k + 1)) = upd (lastF (l.take k)) l[k].1.toNat (max (lastF (l.take k) l[k].1.toNat) l[k].2) := by
  unfold lastF
  rw [List.take_succ_eq_append_getElem h, List.foldl_append]
  rfl
theorem zero_cm (w : World) : Cm (w.alloc (Obj.cells Tryz.zeroCells106 106)) w.heap.size (fun _ => 0) := by
  have e : Tryz.zeroCells106 = Array.replicate 65 (.int .i64 0) := by kernel_rfl
  rw [e]
  intro i hi
  have hh : (w.alloc (.cells (Array.replicate 65 (.int .i64 0)) 106)).heap[w.heap.size]? = some (.cells (Array.replicate 65 (.int .i64 0)) 106 (0, 0)) := by show (w.heap.push _)[w.heap.size]? = _; simp
  constructor
  · simp only [World.cell?, hh]
    rw [if_neg (by simp)]
    simp [hi]
  · unfold World.frozen?
    rw [show (⟨w.heap.size, i, none⟩ : Addr).block = w.heap.size from rfl, hh]
    simp
theorem ix_cn (g n : Nat) (z : Int) (hz : z = (n : Int)) (hn : n < 65) : ∀ w, (Instr.indexAt 106 (.pointer (some ⟨g, 0, none⟩)) (.int .i64 z)).run Tryz.prog w = .ok (.pointer (some ⟨g, n, none⟩)) w := by
  intro w
  subst hz
  have hk2 : (n : Int) < 65 := by omega
  go_simp

/-! ### The same as the reference -/
theorem vec_mem {f : Nat → Int} {k : Nat} {x : Dt} : x ∈ vecFrom f k ↔ ∃ i, k ≤ i ∧ i < 65 ∧ 0 < f i ∧ x = ((i : Int), f i) := by
  unfold vecFrom
  rw [List.mem_filterMap]
  constructor
  · rintro ⟨i, hi, h⟩
    rw [List.mem_range'_1] at hi
    split at h
    · rename_i hp
      cases h
      exact ⟨i, by omega, by omega, hp, rfl⟩
    · cases h
  · rintro ⟨i, h1, h2, h3, rfl⟩
    exact ⟨i, by rw [List.mem_range'_1]; omega, by rw [if_pos h3]⟩
theorem vec_inc (f : Nat → Int) : ∀ (m k : Nat), 65 - k = m → Inc (vecFrom f k)
  | 0, k, h => by rw [vec_end (by omega)]; exact List.Pairwise.nil
  | m + 1, k, h => by
    have ih := vec_inc f m (k + 1) (by omega)
    rw [vec_step (by omega)]
    unfold Inc at *
    split
    · rw [List.singleton_append, List.pairwise_cons]
      refine ⟨fun x hx => ?_, ih⟩
      obtain ⟨i, h1, -, -, rfl⟩ := vec_mem.1 hx
      show ((k : Nat) : Int) < (i : Int)
      omega
    · exact ih
theorem vec_get {f : Nat → Int} (hf : ∀ i, i < 65 → 0 ≤ f i) (r : Int) : getV (vecFrom f 0) r = if 0 ≤ r ∧ r < 65 then f r.toNat else 0 := by
  by_cases h : 0 ≤ r ∧ r < 65
  · rw [if_pos h]
    by_cases hp : 0 < f r.toNat
    · have hm : (r, f r.toNat) ∈ vecFrom f 0 := vec_mem.2 ⟨r.toNat, Nat.zero_le _, by omega, hp, by rw [Int.toNat_of_nonneg h.1]⟩
      exact get_some (vec_inc f _ 0 rfl) hm
    · rw [get_none]
      · have := hf r.toNat (by omega); omega
      · intro x hx e
        obtain ⟨i, -, h2, h3, rfl⟩ := vec_mem.1 hx
        subst e
        simp at hp
        omega
  · rw [if_neg h, get_none]
    intro x hx e
    obtain ⟨i, -, h2, h3, rfl⟩ := vec_mem.1 hx
    subst e
    exact h ⟨by omega, by show (i : Int) < 65; omega⟩
theorem last_both : ∀ (l : List Dt) (f : Nat → Int), (∀ x ∈ l, validR x = true) → (∀ i, 0 ≤ f i ∧ f i ≤ 4294967295) → f 0 = 0 →
    (∀ i, 0 ≤ (l.foldl (fun f d => upd f d.1.toNat (max (f d.1.toNat) d.2)) f) i ∧ (l.foldl (fun f d => upd f d.1.toNat (max (f d.1.toNat) d.2)) f) i ≤ 4294967295) ∧ (l.foldl (fun f d => upd f d.1.toNat (max (f d.1.toNat) d.2)) f) 0 = 0 ∧
    ∀ i : Nat, (l.foldl (fun f d => upd f d.1.toNat (max (f d.1.toNat) d.2)) f) i = l.foldl (fun n d => if (i : Int) = d.1 then max n d.2 else n) (f i)
  | [], f, _, hf, h0 => ⟨hf, h0, fun _ => rfl⟩
  | d :: t, f, hl, hf, h0 => by
    have hv := valid_iff.1 (hl d (by simp))
    obtain ⟨h1, h2, h3⟩ := last_both t (upd f d.1.toNat (max (f d.1.toNat) d.2)) (fun x hx => hl x (by simp [hx])) (fun i => by
      have := hf i
      have := hf d.1.toNat
      unfold upd
      split <;> omega) (by unfold upd; rw [if_neg (by omega)]; exact h0)
    refine ⟨h1, h2, fun i => ?_⟩
    rw [List.foldl_cons, List.foldl_cons, h3 i]
    congr 1
    unfold upd
    by_cases e : i = d.1.toNat
    · rw [if_pos e, if_pos (by omega), e]
    · rw [if_neg e, if_neg (by omega)]
theorem of_plain {l : List Dt} (h : ∀ j (hj : j < l.length), validR l[j] = true) : ofB l = (vecFrom (lastF l) 0, 0) := by
  have hl : ∀ x ∈ l, validR x = true := fun x hx => by
    obtain ⟨j, hj, rfl⟩ := List.mem_iff_getElem.1 hx
    exact h j hj
  obtain ⟨h1, h2, h3⟩ := last_both l (fun _ => 0) hl (fun _ => by omega) rfl
  have e : (l.foldl (fun f d => upd f d.1.toNat (max (f d.1.toNat) d.2)) fun _ => 0) = lastF l := rfl
  rw [e] at h1 h2 h3
  have hm := merge_both (b := l) vd_nil hl
  rw [all_yes h]
  congr 1
  refine vd_ext hm.1 ⟨fun x hx => ?_, vec_inc _ _ 0 rfl⟩ fun r => ?_
  · obtain ⟨i, -, h5, h6, rfl⟩ := vec_mem.1 hx
    rw [valid_iff]
    have := h1 i
    have hi : i ≠ 0 := by rintro rfl; omega
    refine ⟨?_, ?_, ?_, ?_⟩
    · show (0 : Int) < (i : Int); omega
    · show (i : Int) ≤ 64; omega
    · exact h6
    · exact this.2
  · rw [vec_get fun i _ => (h1 i).1]
    have hmr := hm.2 r
    by_cases hr : 0 ≤ r ∧ r < 65
    · rw [if_pos hr, h3, Int.toNat_of_nonneg hr.1]
      exact hmr
    · rw [if_neg hr]
      refine hmr.trans ?_
      have : ∀ (t : List Dt) (n : Int), (∀ x ∈ t, validR x = true) → t.foldl (fun n d => if r = d.1 then max n d.2 else n) n = n := by
        intro t
        induction t with
        | nil => intro n _; rfl
        | cons d t ih =>
          intro n ht
          have hv := valid_iff.1 (ht d (by simp))
          rw [List.foldl_cons, if_neg (by omega)]
          exact ih n fun x hx => ht x (by simp [hx])
      exact this l _ hl

/-- A box with a dot. -/
def Bd (g : Nat) (x y : Int) (w : World) : Prop := w.cell? ⟨g, 0, none⟩ = some (.int .i64 x) ∧ w.cell? ⟨g, 1, none⟩ = some (.int .i64 y)
set_option maxRecDepth 100000 in
set_option maxHeartbeats 1000000 in
theorem of_any (l : List Dt) (b : Option Addr) (d : Nat) (w : World) (hy : RowD w b l) (hly : l.length ≤ 2000000) :
    Calls Tryz.prog 66 #[.slice b l.length d] w fun e w' => ∃ v, e = .returned (.tuple #[v, .int .i64 (ofB l).2]) ∧ OD w' w.heap.size E v (ofB l).1 ∧ Below w.heap.size w w' := by
  have HY := Lib.hid hy
  have hlj : (l.length : Int) ≤ 2000000 := by omega
  have HVr := Lib.hid (fun d w => valid_lays d w)
  have HVec := Lib.hid (fun f w => vector_any f (cellsOf f) w (cn_of f))
  have HNoB := Lib.hid (fun k (hk : k < l.length) h => all_no (l := l) hk h)
  have HYes := Lib.hid (fun h => of_plain (l := l) h)
  generalize ofB l = B at *
  clear hy hly
  go_enter Tryz.func66, Tryz.ntmps66
  go_wp2_with fail
  have hC := zero_cm w
  have hB : Below w.heap.size w (w.alloc (Obj.cells Tryz.zeroCells106 106)) := (Below.refl _ _).alloc (Nat.le_refl _) _
  generalize w.alloc (Obj.cells Tryz.zeroCells106 106) = w1 at *
  have HC := Lib.hid hC
  have HB := Lib.hid hB
  clear hC hB
  go_loopw [9, 6] (fun i _ wr => ∃ (k : Nat), k ≤ l.length ∧ i = .int .i64 (k : Int) ∧ Hid (Below w.heap.size w wr) ∧ Hid (Cm wr w.heap.size (lastF (l.take k))) ∧ Hid (∀ j (hj : j < l.length), j < k → validR l[j] = true)) (fun i _ _ => l.length - (intOf i).toNat)
  case atStart => exact ⟨0, Nat.zero_le _, rfl, HB, HC, fun j _ h => by omega⟩
  case round =>
    obtain ⟨k, hk, rfl, hh, HO, HV⟩ := hrel
    by_cases hlt : k < l.length
    · have hi1 : (k : Int) < (l.length : Int) := by omega
      obtain ⟨b1, o1, rfl, p0, p1⟩ := HY.out.get hh.out k hlt
      have HF : Hid (lastF (l.take (k + 1)) = upd (lastF (l.take k)) l[k].1.toNat (max (lastF (l.take k) l[k].1.toNat) l[k].2)) := last_take hlt
      have HNo := Lib.hid (HNoB.out k hlt)
      obtain ⟨p, hp⟩ : ∃ p, p = l[k] := ⟨_, rfl⟩
      have HP := Lib.hid hp
      rw [← hp] at p0 p1 HF HNo
      clear hp
      generalize lastF (l.take k) = f at *
      have HVp := Lib.hid (HVr.out p)
      have hx0 : (wr.alloc (Obj.cells #[.int .i64 p.1, .int .i64 p.2] 48)).cell? ⟨wr.heap.size, 0, none⟩ = some (.int .i64 p.1) := by go_simp
      have hx1 : (wr.alloc (Obj.cells #[.int .i64 p.1, .int .i64 p.2] 48)).cell? ⟨wr.heap.size, 1, none⟩ = some (.int .i64 p.2) := by go_simp
      have hBa : Below wr.heap.size wr (wr.alloc (Obj.cells #[.int .i64 p.1, .int .i64 p.2] 48)) := (Below.refl _ _).alloc (Nat.le_refl _) _
      have HO1 := Lib.hid (HO.out.keep hBa)
      have HB1 := bel_tr hh hBa
      clear hBa
      go_wp2_with fail
      generalize wr.alloc (Obj.cells #[Value.int IntKind.i64 p.1, Value.int IntKind.i64 p.2] 48) = w2 at *
      refine (HVp.out w2).mono ?_
      rintro e w3 ⟨rfl, hl⟩
      have hb := hl.bel
      replace HO1 := Lib.hid (HO1.out.keep hb)
      replace HB1 := bel_tr HB1 hb
      replace hx0 := (hb.cell (p := ⟨_, _, none⟩) (lt_of_cell hx0)).trans hx0
      replace hx1 := (hb.cell (p := ⟨_, _, none⟩) (lt_of_cell hx1)).trans hx1
      clear hl hb HVp
      rcases hv : validR p with _ | _
      · have hE := HNo.out hv
        subst hE
        clear hv HNo
        go_wp2_with fail
        go_ret2
        exact ⟨_, rfl, OD.nil _ _ _, HB1.out⟩
      · have hvi := valid_iff.1 hv
        have HVq : Hid (∀ j (hj : j < l.length), j < k + 1 → validR l[j] = true) := fun j hj hjk => by
          by_cases e : j = k
          · subst e; rw [← HP.out]; exact hv
          · exact HV.out j hj (by omega)
        clear hv HNo HP
        obtain ⟨z, y⟩ := p
        obtain ⟨n, rfl⟩ : ∃ n : Nat, z = (n : Int) := ⟨z.toNat, by omega⟩
        have hn : n < 65 := by omega
        simp only [Int.toNat_natCast] at HF
        have hix := ix_cn w.heap.size n (n : Int) rfl hn
        have HOn := Lib.hid (HO1.out n hn)
        have H0 := Lib.hid (fun w2 (h : Bd wr.heap.size n y w2) => load_int (w := w2) h.1)
        have H1 := Lib.hid (fun w2 (h : Bd wr.heap.size n y w2) => load_int (w := w2) h.2)
        have HS : Hid (Bd wr.heap.size n y w3.drew) := ⟨hx0, hx1⟩
        clear hx0 hx1 hvi
        go_wp2_with fail
        refine Sch.wp_region_tree (Bd wr.heap.size n y) (.take 0 (.take 1 (.take 2 (.take 3 (.take 4 (.take 6 (.take 7 (.one 5 (.one 8 (.take 9 (.one 10 .done))))))))))) (by kernel_rfl) (by kernel_rfl) HS.out ?_
        have q0 : w3.drew.cell? ⟨w.heap.size, n, none⟩ = some (.int .i64 (f n)) := HOn.out.1
        have q1 : w3.drew.frozen? ⟨w.heap.size, n, none⟩ = false := HOn.out.2
        have HO2 : Hid (Cm w3.drew w.heap.size f) := HO1.out
        have HB2 : Hid (Below w.heap.size w w3.drew) := HB1.out.drew
        generalize w3.drew = w4 at *
        clear HOn HO1 HB1
        repeat (first
          | (refine tree_load _ _ _ _ _ rfl rfl rfl rfl (by first | exact H0.out | exact H1.out) rfl ?_; simp only [Act.put, List.setIfInBounds_toArray, List.set_cons_zero, List.set_cons_succ])
          | (refine Sch.tree_q rfl rfl (fun K hK => ?_); go_big_quiet_op; (first | refine hK _ ?_ | refine ⟨_, fun _ _ => rfl, hK _ ?_⟩); clear hK K))
        have HS2 : Hid (∀ z, Bd wr.heap.size n y (w4.setCell ⟨w.heap.size, n, none⟩ (.int .i64 z))) := fun z => by
          have hlt3 := HO.out.lt
          constructor
          · rw [World.cell?_setCell_other _ _ _ _ (by first | (simp; done) | (simp; omega))]; exact HS.out.1
          · rw [World.cell?_setCell_other _ _ _ _ (by first | (simp; done) | (simp; omega))]; exact HS.out.2
        by_cases hmx : y ≤ f n
        · have HM : Hid (max (f n) y = f n) := by show _ = _; omega
          refine Sch.tree_e rfl rfl (fun K hK => ?_)
          go_wp2_with fail
          refine hK _ _ HS.out ?_
          clear hK K
          refine Sch.tree_e rfl rfl (fun K hK => ?_)
          go_wp2_with fail
          refine hK _ _ HS.out ?_
          clear hK K
          refine Sch.tree_q rfl rfl (fun K hK => ?_)
          go_big_quiet_op
          first | refine hK _ ?_ | refine ⟨_, fun _ _ => rfl, hK _ ?_⟩
          clear hK K
          refine Sch.tree_e rfl rfl (fun K hK => ?_)
          go_wp2_with fail
          refine hK _ _ (HS2.out _) ?_
          clear hK K
          refine Sch.tree_n ?_
          go_wp2_with fail
          go_roundw
          case rel => exact ⟨k + 1, by omega, by go_num, (HB2.out.setCell (p := ⟨w.heap.size, n, none⟩) (Nat.le_refl _) _), by show Cm _ _ _; rw [HF.out, HM.out]; exact HO2.out.set hn _, HVq⟩
          case measure => simp [intOf]; omega
        · have HM : Hid (max (f n) y = y) := by show _ = _; omega
          have hmx2 : f n < y := by omega
          refine Sch.tree_e rfl rfl (fun K hK => ?_)
          go_wp2_with fail
          refine hK _ _ HS.out ?_
          clear hK K
          refine Sch.tree_e rfl rfl (fun K hK => ?_)
          go_wp2_with fail
          refine hK _ _ HS.out ?_
          clear hK K
          refine Sch.tree_q rfl rfl (fun K hK => ?_)
          go_big_quiet_op
          first | refine hK _ ?_ | refine ⟨_, fun _ _ => rfl, hK _ ?_⟩
          clear hK K
          refine Sch.tree_e rfl rfl (fun K hK => ?_)
          go_wp2_with fail
          refine hK _ _ (HS2.out _) ?_
          clear hK K
          refine Sch.tree_n ?_
          go_wp2_with fail
          go_roundw
          case rel => exact ⟨k + 1, by omega, by go_num, (HB2.out.setCell (p := ⟨w.heap.size, n, none⟩) (Nat.le_refl _) _), by show Cm _ _ _; rw [HF.out, HM.out]; exact HO2.out.set hn _, HVq⟩
          case measure => simp [intOf]; omega
    · obtain rfl : k = l.length := by omega
      have hi1 : ¬ (l.length : Int) < (l.length : Int) := by omega
      have hE := HYes.out fun j hj => HV.out j hj hj
      subst hE
      rw [List.take_length] at HO
      have HR := Lib.hid HO.out.range
      have HI : Hid ((Tryz.prog.info? 106).map (·.size) = some (cellsOf (lastF l)).length) := by show _ = _; rw [info_cn, (cn_of _).1]
      have HVec2 := Lib.hid (HVec.out (lastF l) wr)
      generalize hA : (cellsOf (lastF l)).toArray = A at *
      have HA := Lib.hid hA
      clear hA HVec
      go_wp2_with (refine wpList_load_mid rfl 106 (.tmp 4) rfl w.heap.size 0 rfl (cellsOf (lastF l)) _ HR.out Tryz.underlying106 rfl HI.out ?_; rw [HA.out])
      refine HVec2.out.mono ?_
      rintro e w5 ⟨v, rfl, ho, hb⟩
      have HO2 := Lib.hid (ho.mono fun k hk => Nat.le_trans hh.out.size (ho.lt k hk).1)
      have HB2 := bel_tr hh hb
      clear ho hb HVec2
      go_wp2_with fail
      go_ret2
      exact ⟨_, rfl, HO2.out, HB2.out⟩
end Go.Proofs.YtgopkffgljiblaaGreat.E
end

/-
  The program's Merge and Raise.
-/
section
namespace Go.Proofs.YtgopkffgljiblaaGreat.E
set_option linter.unusedVariables false
open Go.RowKit V Go.Sort D

theorem merge_nil {a : List Dt} (ha : Vd a) : mergeR [] a = a := (merge_eq vd_nil ha ha fun r => by have := get_ge ha r; show _ = max 0 _; omega).symm
theorem of_app {a b : List Dt} (ha : Vd a) (hb : Vd b) : ofB (a ++ b) = (mergeR a b, 0) := by
  unfold ofB
  rw [if_pos]
  · unfold ofR mergeR
    rw [List.foldl_append]
    congr 1
    have := merge_nil ha
    unfold mergeR at this
    rw [this]
  · rw [List.all_eq_true]
    intro x hx
    rcases List.mem_append.1 hx with h | h
    · exact ha.1 x h
    · exact hb.1 x h
def mergeB (a b : List Dt) : List Dt × Int := if validV a = true ∧ validV b = true then (mergeR a b, 0) else ([], 2)
def raiseB (v : List Dt) (d : Dt) : List Dt × Int := if validV v = true ∧ validR d = true then (raiseR v d, 0) else ([], 2)
theorem mergeB_yes {a b : List Dt} (ha : validV a = true) (hb : validV b = true) : mergeB a b = ofB (a ++ b) := by
  unfold mergeB
  rw [if_pos ⟨ha, hb⟩, of_app ((valid_vd a).1 ha) ((valid_vd b).1 hb)]
theorem mergeB_one (v : List Dt) (d : Dt) : mergeB v [d] = raiseB v d := rfl

set_option maxRecDepth 100000 in
set_option maxHeartbeats 1000000 in
theorem merge_any (xs ys : List Dt) (a b : Option Addr) (c d : Nat) (w : World) (hx : RowD w a xs) (hy : RowD w b ys) (hna : a = none → c = 0) (hnb : b = none → d = 0) (hlx : xs.length ≤ 1000000) (hly : ys.length ≤ 1000000) :
    Calls Tryz.prog 76 #[.slice a xs.length c, .slice b ys.length d] w fun e w' => ∃ v, e = .returned (.tuple #[v, .int .i64 (mergeB xs ys).2]) ∧ OD w' w.heap.size E v (mergeB xs ys).1 ∧ Below w.heap.size w w' := by
  have HV := Lib.hid (validV_any xs a c w hx (by omega))
  have HV2 := Lib.hid (fun w2 (h : Lays w w2) => validV_any ys b d w2 (hy.keep h.bel) (by omega))
  have HX := Lib.hid hx
  have HY := Lib.hid hy
  have HNa := Lib.hid hna
  have HNb := Lib.hid hnb
  have HLx := Lib.hid hlx
  have HLy := Lib.hid hly
  have HOf := Lib.hid (fun b d wx h => of_any (xs ++ ys) b d wx h (by rw [List.length_append]; omega))
  have HE : Hid (validV xs = true → validV ys = true → mergeB xs ys = ofB (xs ++ ys)) := fun h1 h2 => mergeB_yes h1 h2
  have HN : Hid (¬ (validV xs = true ∧ validV ys = true) → mergeB xs ys = ([], 2)) := fun h => by unfold mergeB; rw [if_neg h]
  clear hx hy hna hnb hlx hly
  generalize mergeB xs ys = R at *
  generalize ofB (xs ++ ys) = O at *
  generalize validV xs = va at *
  generalize validV ys = vb at *
  go_enter Tryz.func76, Tryz.ntmps76
  go_wp2_with fail
  refine HV.out.mono ?_
  rintro e w2 ⟨rfl, hl⟩
  have HL := Lib.hid hl
  clear hl HV
  rcases va with _ | _
  · have hE := HN.out (by simp)
    subst hE
    clear HE HN HV2 HOf
    go_wp2_with fail
    go_ret2
    exact ⟨_, rfl, OD.nil _ _ _, HL.out.bel⟩
  · have HV3 := Lib.hid (HV2.out w2 HL.out)
    clear HV2
    go_wp2_with fail
    refine HV3.out.mono ?_
    rintro e w3 ⟨rfl, hl⟩
    replace HL := Lib.hid (lays_tr HL.out hl)
    clear hl HV3
    rcases vb with _ | _
    · have hE := HN.out (by simp)
      subst hE
      clear HE HN HOf
      go_wp2_with fail
      go_ret2
      exact ⟨_, rfl, OD.nil _ _ _, HL.out.bel⟩
    · have hE := HE.out (by first | trivial | rfl) (by first | trivial | rfl)
      subst hE
      have hB4 : Below w3.heap.size w3 (w3.alloc (Obj.cells #[.slice a xs.length c, .slice b ys.length d] 23)) := (Below.refl _ _).alloc (Nat.le_refl _) _
      have HC := Lib.hid (concat_any xs ys a b c d w3.heap.size _ ⟨by go_simp, by go_simp⟩ ((HX.out.keep HL.out.bel).keep hB4) ((HY.out.keep HL.out.bel).keep hB4) HNa.out HNb.out HLx.out HLy.out)
      have HB4 := bel_tr (Lib.hid HL.out.bel) hB4
      clear HE HN hB4
      go_wp2_with fail
      refine HC.out.mono ?_
      rintro e w5 ⟨v, rfl, ho, hb⟩
      obtain ⟨a2, c2, rfl, hr, -⟩ := ho.row
      have HB5 := bel_tr HB4 hb
      have HO := Lib.hid (HOf.out a2 c2 w5 hr)
      clear ho hr hb HC HOf
      generalize xs ++ ys = l at *
      go_wp2_with fail
      refine HO.out.mono ?_
      rintro e w6 ⟨v, rfl, ho, hb⟩
      have HO6 := Lib.hid (ho.mono fun k hk => Nat.le_trans HB5.out.size (ho.lt k hk).1)
      have HB6 := bel_tr HB5 hb
      clear ho hb HO
      go_wp2_with fail
      go_ret2
      exact ⟨_, rfl, HO6.out, HB6.out⟩

end Go.Proofs.YtgopkffgljiblaaGreat.E
end

/-
  The program's pass over a cloud, plainly; missing dots.
-/
section
namespace Go.Proofs.YtgopkffgljiblaaGreat.F
set_option linter.unusedVariables false
open D E

/-- One dot of the pass. -/
def stp (s : Ct) (d : Dt) : Ct := if hasV s.1 d = true then s else if d.2 = getV s.1 d.1 + 1 then (raiseR s.1 d, s.2) else (s.1, s.2 ++ [d])
theorem pass_fold : ∀ (cl v rest : List Dt), passR v rest cl = cl.foldl stp (v, rest)
  | [], v, rest => rfl
  | d :: t, v, rest => by
    rw [passR, List.foldl_cons, stp]
    split
    · exact pass_fold t v rest
    · split
      · exact pass_fold t (raiseR v d) rest
      · exact pass_fold t v (rest ++ [d])
/-- What the program keeps, too: the dots of the beginnings. -/
def stq (s : Ct × List Dt) (d : Dt) : Ct × List Dt := (stp s.1 d, if nearC s.1.1 d = true then s.2 ++ [d] else s.2)
def stK (v cl : List Dt) (k : Nat) : Ct × List Dt := (cl.take k).foldl stq ((v, []), v)
theorem stK_zero (v cl : List Dt) : stK v cl 0 = ((v, []), v) := rfl
theorem stK_succ {v cl : List Dt} {k : Nat} (h : k < cl.length) : stK v cl (k + 1) = stq (stK v cl k) cl[k] := by
  unfold stK
  rw [List.take_succ_eq_append_getElem h, List.foldl_append]
  rfl
theorem stq_fst : ∀ (l : List Dt) (s : Ct × List Dt), (l.foldl stq s).1 = l.foldl stp s.1
  | [], s => rfl
  | d :: t, s => by rw [List.foldl_cons, List.foldl_cons, stq_fst t]; rfl
theorem stK_end (v cl : List Dt) : (stK v cl cl.length).1 = compC (v, cl) := by
  unfold stK compC
  rw [List.take_length, stq_fst, pass_fold]
theorem of_snoc (l : List Dt) (d : Dt) : ofR (l ++ [d]) = raiseR (ofR l) d := by
  unfold ofR mergeR
  rw [List.foldl_append]
  rfl
/-- What holds between two dots. -/
structure Inv (v cl : List Dt) (k : Nat) : Prop where
  vd : Vd (stK v cl k).1.1
  bg : ofR (stK v cl k).2 = (stK v cl k).1.1
  bv : ∀ x ∈ (stK v cl k).2, validR x = true
  bl : (stK v cl k).2.length ≤ v.length + k
  rl : (stK v cl k).1.2.length ≤ k
theorem inv_zero {v cl : List Dt} (hv : Vd v) : Inv v cl 0 := by
  refine ⟨?_, ?_, ?_, ?_, ?_⟩
  · exact hv
  · rw [stK_zero]; exact merge_nil hv
  · exact hv.1
  · rw [stK_zero]; exact Nat.le_refl _
  · rw [stK_zero]; exact Nat.le_refl _
theorem near_yes {v : List Dt} {d : Dt} (hd : validR d = true) : nearC v d = true ↔ d.2 ≤ getV v d.1 + 1 := by
  have h := near_no (v := v) hd
  rcases hn : nearC v d with _ | _
  · have := h.1 hn
    constructor
    · intro e; cases e
    · intro e; omega
  · constructor
    · intro _
      rcases Int.lt_or_le (getV v d.1 + 1) d.2 with k | k
      · rw [h.2 k] at hn; cases hn
      · exact k
    · intro _; rfl
theorem near_dec {v : List Dt} {d : Dt} (hd : validR d = true) : nearC v d = decide (d.2 ≤ getV v d.1 + 1) := by
  rw [Bool.eq_iff_iff, near_yes hd, decide_eq_true_eq]
theorem stp_near {s : Ct} {d : Dt} (h : nearC s.1 d = true) : stp s d = (raiseR s.1 d, s.2) := by
  unfold stp
  by_cases h1 : hasV s.1 d = true
  · rw [if_pos h1, raiseR, if_pos h1]
  · rw [if_neg h1, if_pos]
    unfold nearC at h
    simpa [h1] using h
theorem stp_far {s : Ct} {d : Dt} (h : nearC s.1 d = false) : stp s d = (s.1, s.2 ++ [d]) := by
  unfold nearC at h
  simp only [Bool.or_eq_false_iff, decide_eq_false_iff_not] at h
  unfold stp
  rw [h.1, if_neg (by simp), if_neg h.2]
theorem inv_succ {v cl : List Dt} {k : Nat} (hi : Inv v cl k) (h : k < cl.length) (hd : validR cl[k] = true) : Inv v cl (k + 1) := by
  have h1 := hi.vd
  have h2 := hi.bg
  have h3 := hi.bv
  have h4 := hi.bl
  have h5 := hi.rl
  have e := stK_succ (v := v) h
  rcases hn : nearC (stK v cl k).1.1 cl[k] with _ | _
  · have e2 : stK v cl (k + 1) = (((stK v cl k).1.1, (stK v cl k).1.2 ++ [cl[k]]), (stK v cl k).2) := by
      rw [e, stq, stp_far hn, hn]
      rfl
    refine ⟨?_, ?_, ?_, ?_, ?_⟩ <;> rw [e2]
    · exact h1
    · exact h2
    · exact h3
    · show (stK v cl k).2.length ≤ _; omega
    · show ((stK v cl k).1.2 ++ [cl[k]]).length ≤ _; simp; omega
  · have e2 : stK v cl (k + 1) = ((raiseR (stK v cl k).1.1 cl[k], (stK v cl k).1.2), (stK v cl k).2 ++ [cl[k]]) := by
      rw [e, stq, stp_near hn, hn]
      rfl
    refine ⟨?_, ?_, ?_, ?_, ?_⟩ <;> rw [e2]
    · exact raise_vd h1 hd
    · show ofR ((stK v cl k).2 ++ [cl[k]]) = raiseR (stK v cl k).1.1 cl[k]
      rw [of_snoc, h2]
    · intro x hx
      rcases List.mem_append.1 hx with hx | hx
      · exact h3 x hx
      · rw [List.mem_singleton.1 hx]; exact hd
    · show ((stK v cl k).2 ++ [cl[k]]).length ≤ _; simp; omega
    · show (stK v cl k).1.2.length ≤ _; omega
/-- The counters behind a near dot. -/
theorem near_get {v cl : List Dt} {k : Nat} (hi : Inv v cl k) (h : k < cl.length) (hd : validR cl[k] = true) (hn : nearC (stK v cl k).1.1 cl[k] = true) (r : Int) :
    getV (stK v cl (k + 1)).1.1 r = if r = cl[k].1 then max (getV (stK v cl k).1.1 r) cl[k].2 else getV (stK v cl k).1.1 r := by
  rw [stK_succ h, stq, stp_near hn]
  exact raise_get hi.vd hd r
theorem stK_near {v cl : List Dt} {k : Nat} (h : k < cl.length) (hn : nearC (stK v cl k).1.1 cl[k] = true) : (stK v cl (k + 1)).1.2 = (stK v cl k).1.2 ∧ (stK v cl (k + 1)).2 = (stK v cl k).2 ++ [cl[k]] := by
  rw [stK_succ h, stq, stp_near hn, hn]
  exact ⟨rfl, rfl⟩
theorem stK_far {v cl : List Dt} {k : Nat} (h : k < cl.length) (hn : nearC (stK v cl k).1.1 cl[k] = false) : (stK v cl (k + 1)).1.2 = (stK v cl k).1.2 ++ [cl[k]] ∧ (stK v cl (k + 1)).2 = (stK v cl k).2 ∧ (stK v cl (k + 1)).1.1 = (stK v cl k).1.1 := by
  rw [stK_succ h, stq, stp_far hn, hn]
  exact ⟨rfl, rfl, rfl⟩
theorem inv_all {v cl : List Dt} (hv : Vd v) (hd : ∀ x ∈ cl, validR x = true) : ∀ k, k ≤ cl.length → Inv v cl k
  | 0, _ => inv_zero hv
  | k + 1, h => inv_succ (inv_all hv hd k (by omega)) (by omega) (hd _ (List.getElem_mem _))
/-- At the end: the vector of the beginnings. -/
theorem end_of {v cl : List Dt} (hv : Vd v) (hd : ∀ x ∈ cl, validR x = true) : ofB (stK v cl cl.length).2 = ((compC (v, cl)).1, 0) := by
  have hi := inv_all hv hd cl.length (Nat.le_refl _)
  unfold ofB
  rw [if_pos (by rw [List.all_eq_true]; exact hi.bv), hi.bg, stK_end]
theorem end_rest (v cl : List Dt) : (stK v cl cl.length).1.2 = (compC (v, cl)).2 := by rw [stK_end]

/-! ### What Compact, Union, Of, Add return -/
def compB (c : Ct) : Ct × Int := if validC c = true then (compC c, 0) else (([], []), 2)
def unionB (a b : Ct) : Ct × Int := if validC a = true ∧ validC b = true then (unionC a b, 0) else (([], []), 2)
def madeB (l : List Dt) : Ct × Int := compB ([], setR l)
def addB (c : Ct) (l : List Dt) : Ct × Int := unionB c ([], setR l)
theorem valid_none (l : List Dt) : validC ([], setR l) = l.all validR := by
  rw [Bool.eq_iff_iff, valid_vc, List.all_eq_true]
  constructor
  · rintro ⟨-, -, h⟩ x hx
    exact h x (mem_set.2 hx)
  · intro h
    exact ⟨vd_nil, srt_set l, fun x hx => h x (mem_set.1 hx)⟩
theorem union_nil_set {l m : List Dt} : unionR l (setR m) = unionR l m := union_eq (srt_union _ _) fun x => by rw [mem_union, mem_set]
theorem add_eq {c : Ct} {l : List Dt} (hc : Vc c) (hl : ∀ x ∈ l, validR x = true) : addB c l = (addC c l, 0) := by
  unfold addB unionB
  rw [if_pos ⟨(valid_vc c).2 hc, by rw [valid_none, List.all_eq_true]; exact hl⟩]
  unfold unionC addC
  rw [union_nil_set]
  rfl
theorem made_eq {l : List Dt} (hl : ∀ x ∈ l, validR x = true) : madeB l = (addC ([], []) l, 0) := by
  unfold madeB compB
  rw [if_pos (by rw [valid_none, List.all_eq_true]; exact hl)]
  unfold addC
  rw [show setR l = unionR [] l from union_eq (srt_set l) fun x => by rw [mem_set]; simp]
theorem add_no1 {c : Ct} {l : List Dt} (hc : validC c = false) : addB c l = (([], []), 2) := by
  unfold addB unionB
  rw [if_neg (by rw [hc]; simp)]
theorem add_no2 {c : Ct} {l : List Dt} (hl : l.all validR = false) : addB c l = (([], []), 2) := by
  unfold addB unionB
  rw [if_neg (by rw [valid_none, hl]; simp)]
theorem made_no {l : List Dt} (hl : l.all validR = false) : madeB l = (([], []), 2) := by
  unfold madeB compB
  rw [if_neg (by rw [valid_none, hl]; simp)]

/-! ### What is missing -/
def missR (c : Ct) (l : List Dt) : List Dt := (l.filter fun d => !hasC c d).foldl ins []
theorem mem_miss {c : Ct} {l : List Dt} {x : Dt} : x ∈ missR c l ↔ x ∈ l ∧ hasC c x = false := by
  unfold missR
  rw [mem_fold]
  simp
theorem srt_miss (c : Ct) (l : List Dt) : Srt (missR c l) := srt_fold _ srt_nil
theorem miss_eq {c : Ct} {l m : List Dt} (hm : Srt m) (h : ∀ x, x ∈ m ↔ x ∈ l ∧ hasC c x = false) : m = missR c l := srt_ext hm (srt_miss c l) fun x => by rw [mem_miss]; exact h x
theorem miss_filter (c : Ct) (l : List Dt) : (setR l).filter (fun d => !hasC c d) = missR c l := miss_eq ((srt_set l).filter _) fun x => by
  rw [List.mem_filter, mem_set]
  simp

/-! ### Within -/
def withB (a b : Ct) : Bool × Int := if validC a = true ∧ validC b = true then (withinC a b, 0) else (false, 2)
theorem ord_le {a b : List Dt} (ha : Vd a) (hb : Vd b) : ordR a b = (orderR a b, 0) ∧ decide (orderR a b ≤ 0) = withinV a b := by
  constructor
  · unfold ordR
    rw [if_pos ⟨(valid_vd a).2 ha, (valid_vd b).2 hb⟩]
  · unfold orderR
    rcases withinV a b with _ | _
    · rcases withinV b a with _ | _ <;> rfl
    · rcases withinV b a with _ | _ <;> rfl
theorem any_miss (l : List Dt) (c : Ct) : (l.any fun d => !hasC c d) = !(l.all fun d => hasC c d) := by
  rw [← List.not_all_eq_any_not]
theorem with_prog {a b : Ct} : withinC a b = (withinV a.1 (compC b).1 && !(a.2.any fun d => !hasC (compC b) d)) := by
  rw [any_miss, Bool.not_not, Bool.and_comm]
  rfl
theorem comp_prog {c : Ct} (h : validC c = true) : isCompR c = !(c.2.any fun d => decide (d.2 ≤ getV c.1 d.1 + 1)) := by
  have hv := (valid_vc c).1 h
  unfold isCompR
  rw [h, Bool.and_true]
  rw [Bool.eq_iff_iff, List.all_eq_true, Bool.not_eq_true', List.any_eq_false]
  constructor
  · intro k x hx
    rw [← near_dec (hv.2.2 x hx)]
    have := k x hx
    simpa using this
  · intro k x hx
    have := k x hx
    rw [← near_dec (hv.2.2 x hx)] at this
    simpa using this
theorem comp_inv {c : Ct} (h : validC c = false) : isCompR c = false := by
  unfold isCompR
  rw [h, Bool.and_false]
end Go.Proofs.YtgopkffgljiblaaGreat.F
end

/-
  Valid, equal, Has, as the program asks: closures over two boxes.
-/
section
/-
  The library's IndexFunc and ContainsFunc at dots, by what the function value says of the dots of the list.
-/
section
namespace Go.Proofs.YtgopkffgljiblaaGreat.F
set_option linter.unusedVariables false
open Go.RowKit V Go.Sort D

/-- What a function value says of the dots of a list, wherever it is asked behind w. -/
def Ask (w : World) (g : Nat) (cb : Array Value) (l : List Dt) (p : Dt → Bool) : Prop :=
  ∀ W, Below w.heap.size w W → ∀ d ∈ l, Calls Tryz.prog g (#[dv d] ++ cb) W fun e w' => e = .returned (.bool (p d)) ∧ Below W.heap.size W w'
theorem Ask.keep {w w' : World} {g : Nat} {cb : Array Value} {l : List Dt} {p : Dt → Bool} (h : Ask w g cb l p) (hb : Below w.heap.size w w') : Ask w' g cb l p :=
  fun W hW d hd => h W (hb.trans (hW.mono hb.size)) d hd
theorem any_here {l : List Dt} {k : Nat} {p : Dt → Bool} (hk : k < l.length) (h : p l[k] = true) : l.any p = true := by
  rw [List.any_eq_true]; exact ⟨l[k], List.getElem_mem hk, h⟩
theorem any_away {l : List Dt} {p : Dt → Bool} (h : ∀ j (hj : j < l.length), p l[j] = false) : l.any p = false := by
  rw [List.any_eq_false]
  intro x hx
  obtain ⟨j, hj, rfl⟩ := List.mem_iff_getElem.1 hx
  rw [h j hj]; simp

set_option maxRecDepth 100000 in
set_option maxHeartbeats 1000000 in
theorem indexF (l : List Dt) (a : Option Addr) (c g : Nat) (cb : Array Value) (p : Dt → Bool) (w : World) (eg : ∀ args w, (callFunc g args).run Tryz.prog w = .ok (.enter g args) w) (hp : Ask w g cb l p) (hx : RowD w a l) (hlx : l.length ≤ 1000000) :
    Calls Tryz.prog 68 #[.slice a l.length c, .func (.func g) #[] cb] w fun e w' => ∃ z : Int, e = .returned (.int .i64 z) ∧ decide (0 ≤ z) = l.any p ∧ Below w.heap.size w w' := by
  have HP := Lib.hid hp
  have HX := Lib.hid hx
  have hli : (l.length : Int) ≤ 1000000 := by omega
  clear hp hx hlx
  go_enter Tryz.func68, Tryz.ntmps68
  go_wp2_with fail
  go_loopw [5, 8] (fun _ i wr => ∃ k : Nat, k ≤ l.length ∧ i = .int .i64 (k : Int) ∧ Hid (Below w.heap.size w wr) ∧ Hid (∀ j (hj : j < l.length), j < k → p l[j] = false)) (fun _ i _ => l.length - (intOf i).toNat)
  case atStart => exact ⟨0, Nat.zero_le _, rfl, Below.refl _ _, fun j _ h => by omega⟩
  case round =>
    obtain ⟨k, hk, rfl, hh, HV⟩ := hrel
    by_cases hlt : k < l.length
    · obtain ⟨b1, o1, rfl, p0, p1⟩ := HX.out.get hh.out k hlt
      have HQ := Lib.hid (HP.out wr hh.out l[k] (List.getElem_mem hlt))
      have HT := Lib.hid (any_here (p := p) hlt)
      obtain ⟨q, hq⟩ : ∃ q, q = l[k] := ⟨_, rfl⟩
      rw [← hq] at p0 p1 HQ HT
      have HQe := Lib.hid hq
      have hi1 : (k : Int) < (l.length : Int) := by omega
      clear hq
      obtain ⟨q1, q2⟩ := q
      go_wp2_with fail
      refine HQ.out.mono ?_
      rintro e w3 ⟨rfl, hb⟩
      have HB := bel_tr hh hb
      clear hb HQ
      rcases hpq : p (q1, q2) with _ | _
      · go_wp2_with fail
        go_roundw
        case rel =>
          refine ⟨k + 1, by omega, by go_num, HB, fun j hj hjk => ?_⟩
          by_cases hjk2 : j = k
          · subst hjk2; rw [← HQe.out]; exact hpq
          · exact HV.out j hj (by omega)
        case measure => simp [intOf]; omega
      · have hT := HT.out hpq
        go_wp2_with fail
        go_ret
        exact ⟨k, rfl, by rw [hT]; simp, HB.out⟩
    · obtain rfl : k = l.length := by omega
      have HN : Hid (l.any p = false) := any_away fun j hj => HV.out j hj hj
      have hend : ¬ (l.length : Int) < (l.length : Int) := by omega
      go_wp2_with fail
      go_ret
      exact ⟨-1, rfl, by rw [HN.out]; simp, hh.out⟩

set_option maxRecDepth 100000 in
theorem containsF (l : List Dt) (a : Option Addr) (c g : Nat) (cb : Array Value) (p : Dt → Bool) (w : World) (eg : ∀ args w, (callFunc g args).run Tryz.prog w = .ok (.enter g args) w) (hp : Ask w g cb l p) (hx : RowD w a l) (hlx : l.length ≤ 1000000) :
    Calls Tryz.prog 46 #[.slice a l.length c, .func (.func g) #[] cb] w fun e w' => e = .returned (.bool (l.any p)) ∧ Below w.heap.size w w' := by
  have HI := Lib.hid (indexF l a c g cb p w eg hp hx hlx)
  clear hp hx hlx
  generalize l.any p = q at *
  go_enter Tryz.func46, Tryz.ntmps46
  go_wp2_with fail
  refine HI.out.mono ?_
  rintro e w2 ⟨z, rfl, hz, hb⟩
  have HB := Lib.hid hb
  clear hb HI
  cases q
  · have hz2 : ¬ (0 : Int) ≤ z := by simpa using hz
    go_wp2_with fail
    go_ret
    exact ⟨by simp, HB.out⟩
  · have hz2 : (0 : Int) ≤ z := by simpa using hz
    go_wp2_with fail
    go_ret
    exact ⟨by simp, HB.out⟩
end Go.Proofs.YtgopkffgljiblaaGreat.F
end

/-
  Which contexts are allowed: the program's and the reference's.
-/
section
namespace Go.Proofs.YtgopkffgljiblaaGreat.F
set_option linter.unusedVariables false
open Go.RowKit V Go.Sort D

/-- A context as a value. -/
abbrev cv (x y : Value) : Value := .agg #[x, y]
abbrev cbox (x y : Value) : Obj := .cells #[x, y] 25
/-- A box of two slices. -/
def Bc (w : World) (g : Nat) (x y : Value) : Prop := w.cell? ⟨g, 0, none⟩ = some x ∧ w.cell? ⟨g, 1, none⟩ = some y
theorem Bc.keep {w w' : World} {g : Nat} {x y : Value} (h : Bc w g x y) (hb : Below w.heap.size w w') : Bc w' g x y :=
  ⟨(hb.cell (p := ⟨g, 0, none⟩) (lt_of_cell h.1)).trans h.1, (hb.cell (p := ⟨g, 1, none⟩) (lt_of_cell h.2)).trans h.2⟩
theorem two_new (w : World) (x y : Value) : Bc (w.alloc (cbox x y)) w.heap.size x y := by
  refine ⟨?_, ?_⟩ <;> go_simp

theorem enters_noDot : ∀ args w, (callFunc 64 args).run Tryz.prog w = .ok (.enter 64 args) w := enters_of Tryz.func64 (by kernel_rfl) rfl
set_option maxRecDepth 100000 in
theorem noDot_any (d : Dt) (w : World) : Calls Tryz.prog 64 #[dv d] w fun e w' => e = .returned (.bool (!validR d)) ∧ Below w.heap.size w w' := by
  have HV := Lib.hid (fun w => E.valid_lays d w)
  generalize validR d = R at *
  obtain ⟨d1, d2⟩ := d
  go_enter Tryz.func64, Tryz.ntmps64
  go_wp2_with fail
  refine (HV.out _).mono ?_
  rintro e w2 ⟨rfl, hl⟩
  have HB := bel_tr (Lib.hid (bel_box w _)) hl.bel
  clear hl HV
  go_wp2_with fail
  go_ret
  exact ⟨rfl, HB.out⟩
theorem ask_noDot (w : World) (l : List Dt) : Ask w 64 #[] l (fun d => !validR d) := fun W _ d _ => noDot_any d W
theorem any_valid (l : List Dt) : (l.any fun d => !validR d) = !(l.all validR) := by rw [← List.not_all_eq_any_not]

set_option maxRecDepth 100000 in
set_option maxHeartbeats 1000000 in
theorem valid_any (xs ys : List Dt) (a b : Option Addr) (n m : Nat) (w : World) (hx : RowD w a xs) (hy : RowD w b ys) (hlx : xs.length ≤ 1000000) (hly : ys.length ≤ 1000000) :
    Calls Tryz.prog 43 #[cv (.slice a xs.length n) (.slice b ys.length m)] w fun e w' => e = .returned (.bool (validC (xs, ys))) ∧ Below w.heap.size w w' := by
  have HV := Lib.hid (fun w h => E.validV_any xs a n w h (by omega))
  have HS := Lib.hid (fun w h => isSet_any ys b m w h (by omega))
  have HC := Lib.hid (fun w h => containsF ys b m 64 #[] (fun d => !validR d) w enters_noDot (ask_noDot w ys) h hly)
  rw [any_valid] at HC
  have HE : Hid (validC (xs, ys) = (E.validV xs && isSetR ys && ys.all validR)) := rfl
  have HB := Lib.hid (bel_box w (cbox (.slice a xs.length n) (.slice b ys.length m)))
  have HT := Lib.hid (two_new w (.slice a xs.length n) (.slice b ys.length m))
  have HX := Lib.hid (hx.keep HB.out)
  have HY := Lib.hid (hy.keep HB.out)
  clear hx hy hlx hly
  generalize validC (xs, ys) = R at *
  generalize E.validV xs = v1 at *
  generalize isSetR ys = v2 at *
  generalize ys.all validR = v3 at *
  go_enter Tryz.func43, Tryz.ntmps43
  go_wp2_with fail
  generalize w.alloc (cbox (.slice a xs.length n) (.slice b ys.length m)) = w1 at *
  have k0 := HT.out.1
  have k1 := HT.out.2
  go_wp2_with fail
  refine (HV.out _ HX.out).mono ?_
  rintro e w2 ⟨rfl, hl⟩
  have hb := hl.bel
  replace HT := Lib.hid (HT.out.keep hb)
  replace HY := Lib.hid (HY.out.keep hb)
  replace HB := bel_tr HB hb
  clear hl hb HV k0 k1
  have k1 := HT.out.2
  rcases v1 with _ | _
  · have hE := HE.out
    subst hE
    clear HE
    go_wp2_with fail
    go_ret
    exact ⟨rfl, HB.out⟩
  · go_wp2_with fail
    refine (HS.out _ HY.out).mono ?_
    rintro e w3 ⟨rfl, hb⟩
    replace HT := Lib.hid (HT.out.keep hb)
    replace HY := Lib.hid (HY.out.keep hb)
    replace HB := bel_tr HB hb
    clear hb HS k1
    have k1 := HT.out.2
    rcases v2 with _ | _
    · have hE := HE.out
      subst hE
      clear HE
      go_wp2_with fail
      go_ret
      exact ⟨rfl, HB.out⟩
    · go_wp2_with fail
      refine (HC.out _ HY.out).mono ?_
      rintro e w4 ⟨rfl, hb⟩
      replace HB := bel_tr HB hb
      clear hb HC k1
      have hE := HE.out
      subst hE
      clear HE
      go_wp2_with fail
      go_ret
      exact ⟨by simp, HB.out⟩
end Go.Proofs.YtgopkffgljiblaaGreat.F
end

/-
  The library's Equal at dots; Equal of contexts: the program's and the reference's.
-/
section
namespace Go.Proofs.YtgopkffgljiblaaGreat.F
set_option linter.unusedVariables false
open Go.RowKit V Go.Sort D

set_option maxRecDepth 100000 in
set_option maxHeartbeats 1000000 in
theorem equalV (xs ys : List Dt) (a b : Option Addr) (c d : Nat) (w : World) (hx : RowD w a xs) (hy : RowD w b ys) (hlx : xs.length ≤ 140737488355328) (hly : ys.length ≤ 140737488355328) :
    Calls Tryz.prog 52 #[.slice a xs.length c, .slice b ys.length d] w fun e w' => e = .returned (.bool (decide (xs = ys))) ∧ Below w.heap.size w w' := by
  have HX := Lib.hid hx
  have HY := Lib.hid hy
  have hli : (xs.length : Int) ≤ 140737488355328 := by omega
  clear hx hy hlx hly
  by_cases hl : xs.length = ys.length
  · have q0 : ((xs.length : Int) != (ys.length : Int)) = false := by rw [bne_eq_false_iff_eq]; omega
    go_enter Tryz.func52, Tryz.ntmps52
    go_wp2_with fail
    go_loopw [5, 13] (fun _ i wr => ∃ k : Nat, k ≤ xs.length ∧ i = .int .i64 k ∧ Hid (Below w.heap.size w wr) ∧ Hid (∀ j (hj : j < xs.length) (hj2 : j < ys.length), j < k → xs[j] = ys[j])) (fun _ i _ => xs.length - (intOf i).toNat)
    case atStart => exact ⟨0, Nat.zero_le _, rfl, Below.refl _ _, fun j _ _ h => by omega⟩
    case round =>
      obtain ⟨k, hk, rfl, hh, HV⟩ := hrel
      by_cases hlt : k < xs.length
      · have hlt2 : k < ys.length := by omega
        obtain ⟨b1, o1, rfl, p0, p1⟩ := HX.out.get hh.out k hlt
        obtain ⟨b2, o2, rfl, q1, q2⟩ := HY.out.get hh.out k hlt2
        obtain ⟨p, hp⟩ : ∃ p, p = xs[k] := ⟨_, rfl⟩
        obtain ⟨q, hq⟩ : ∃ q, q = ys[k] := ⟨_, rfl⟩
        rw [← hp] at p0 p1
        rw [← hq] at q1 q2
        have HP := Lib.hid hp
        have HQ := Lib.hid hq
        clear hp hq
        by_cases hpq : p = q
        · subst hpq
          go_wp2_with fail
          go_quiet (fail)
          go_wp2_with fail
          go_roundw
          case rel =>
            refine ⟨k + 1, by omega, by go_num, bel_drewN hh.out _, fun j hj hj2 hjk => ?_⟩
            by_cases hjk2 : j = k
            · subst hjk2; rw [← HP.out, ← HQ.out]
            · exact HV.out j hj hj2 (by omega)
          case measure => simp [intOf]; omega
        · have hne := neq_yes hpq
          have HN : Hid (decide (xs = ys) = false) := by
            show _ = _
            rw [decide_eq_false_iff_not]
            rintro rfl
            exact hpq (by rw [HP.out, HQ.out])
          clear hpq
          go_wp2_with fail
          go_quiet (fail)
          go_wp2_with fail
          go_ret
          exact ⟨by rw [HN.out]; rfl, bel_drewN hh.out _⟩
      · obtain rfl : k = xs.length := by omega
        have HN : Hid (decide (xs = ys) = true) := by
          show _ = _
          rw [decide_eq_true_eq]
          exact List.ext_getElem hl fun j hj hj2 => HV.out j hj hj2 hj
        have hend : ¬ (xs.length : Int) < (xs.length : Int) := by omega
        go_wp2_with fail
        go_ret
        exact ⟨by rw [HN.out]; rfl, hh.out⟩
  · have q0 : ((xs.length : Int) != (ys.length : Int)) = true := by rw [bne_iff_ne]; omega
    have HN : Hid (decide (xs = ys) = false) := by
      show _ = _
      rw [decide_eq_false_iff_not]
      rintro rfl
      exact hl rfl
    go_enter Tryz.func52, Tryz.ntmps52
    go_wp2_with fail
    go_ret
    exact ⟨by rw [HN.out]; rfl, Below.refl _ _⟩

set_option maxRecDepth 100000 in
set_option maxHeartbeats 1000000 in
theorem equalD (xs ys : List Dt) (a b : Option Addr) (c d : Nat) (w : World) (hx : RowD w a xs) (hy : RowD w b ys) (hlx : xs.length ≤ 140737488355328) (hly : ys.length ≤ 140737488355328) :
    Calls Tryz.prog 53 #[.slice a xs.length c, .slice b ys.length d] w fun e w' => e = .returned (.bool (decide (xs = ys))) ∧ Below w.heap.size w w' := by
  have HX := Lib.hid hx
  have HY := Lib.hid hy
  have hli : (xs.length : Int) ≤ 140737488355328 := by omega
  clear hx hy hlx hly
  by_cases hl : xs.length = ys.length
  · have q0 : ((xs.length : Int) != (ys.length : Int)) = false := by rw [bne_eq_false_iff_eq]; omega
    go_enter Tryz.func53, Tryz.ntmps53
    go_wp2_with fail
    go_loopw [5, 13] (fun _ i wr => ∃ k : Nat, k ≤ xs.length ∧ i = .int .i64 k ∧ Hid (Below w.heap.size w wr) ∧ Hid (∀ j (hj : j < xs.length) (hj2 : j < ys.length), j < k → xs[j] = ys[j])) (fun _ i _ => xs.length - (intOf i).toNat)
    case atStart => exact ⟨0, Nat.zero_le _, rfl, Below.refl _ _, fun j _ _ h => by omega⟩
    case round =>
      obtain ⟨k, hk, rfl, hh, HV⟩ := hrel
      by_cases hlt : k < xs.length
      · have hlt2 : k < ys.length := by omega
        obtain ⟨b1, o1, rfl, p0, p1⟩ := HX.out.get hh.out k hlt
        obtain ⟨b2, o2, rfl, q1, q2⟩ := HY.out.get hh.out k hlt2
        obtain ⟨p, hp⟩ : ∃ p, p = xs[k] := ⟨_, rfl⟩
        obtain ⟨q, hq⟩ : ∃ q, q = ys[k] := ⟨_, rfl⟩
        rw [← hp] at p0 p1
        rw [← hq] at q1 q2
        have HP := Lib.hid hp
        have HQ := Lib.hid hq
        clear hp hq
        by_cases hpq : p = q
        · subst hpq
          go_wp2_with fail
          go_quiet (fail)
          go_wp2_with fail
          go_roundw
          case rel =>
            refine ⟨k + 1, by omega, by go_num, bel_drewN hh.out _, fun j hj hj2 hjk => ?_⟩
            by_cases hjk2 : j = k
            · subst hjk2; rw [← HP.out, ← HQ.out]
            · exact HV.out j hj hj2 (by omega)
          case measure => simp [intOf]; omega
        · have hne := neq_yes hpq
          have HN : Hid (decide (xs = ys) = false) := by
            show _ = _
            rw [decide_eq_false_iff_not]
            rintro rfl
            exact hpq (by rw [HP.out, HQ.out])
          clear hpq
          go_wp2_with fail
          go_quiet (fail)
          go_wp2_with fail
          go_ret
          exact ⟨by rw [HN.out]; rfl, bel_drewN hh.out _⟩
      · obtain rfl : k = xs.length := by omega
        have HN : Hid (decide (xs = ys) = true) := by
          show _ = _
          rw [decide_eq_true_eq]
          exact List.ext_getElem hl fun j hj hj2 => HV.out j hj hj2 hj
        have hend : ¬ (xs.length : Int) < (xs.length : Int) := by omega
        go_wp2_with fail
        go_ret
        exact ⟨by rw [HN.out]; rfl, hh.out⟩
  · have q0 : ((xs.length : Int) != (ys.length : Int)) = true := by rw [bne_iff_ne]; omega
    have HN : Hid (decide (xs = ys) = false) := by
      show _ = _
      rw [decide_eq_false_iff_not]
      rintro rfl
      exact hl rfl
    go_enter Tryz.func53, Tryz.ntmps53
    go_wp2_with fail
    go_ret
    exact ⟨by rw [HN.out]; rfl, Below.refl _ _⟩

set_option maxRecDepth 100000 in
set_option maxHeartbeats 1000000 in
theorem equal_any (xs ys us vs : List Dt) (a b p q : Option Addr) (n m j k : Nat) (w : World) (hx : RowD w a xs) (hy : RowD w b ys) (hu : RowD w p us) (hv : RowD w q vs) (hlx : xs.length ≤ 1000000) (hly : ys.length ≤ 1000000) (hlu : us.length ≤ 1000000) (hlv : vs.length ≤ 1000000) :
    Calls Tryz.prog 30 #[cv (.slice a xs.length n) (.slice b ys.length m), cv (.slice p us.length j) (.slice q vs.length k)] w fun e w' => e = .returned (.bool (decide ((xs, ys) = (us, vs)))) ∧ Below w.heap.size w w' := by
  have H1 := Lib.hid (fun w h1 h2 => equalV xs us a p n j w h1 h2 (by omega) (by omega))
  have H2 := Lib.hid (fun w h1 h2 => equalD ys vs b q m k w h1 h2 (by omega) (by omega))
  have HE : Hid (decide ((xs, ys) = (us, vs)) = (decide (xs = us) && decide (ys = vs))) := by
    show _ = _
    rw [Bool.eq_iff_iff]
    simp
  have HB := Lib.hid (bel_box w (cbox (.slice a xs.length n) (.slice b ys.length m)))
  have HT := Lib.hid (two_new w (.slice a xs.length n) (.slice b ys.length m))
  have HX := Lib.hid (hx.keep HB.out)
  have HY := Lib.hid (hy.keep HB.out)
  have HU := Lib.hid (hu.keep HB.out)
  have HV := Lib.hid (hv.keep HB.out)
  clear hx hy hu hv hlx hly hlu hlv
  generalize decide ((xs, ys) = (us, vs)) = R at *
  generalize decide (xs = us) = e1 at *
  generalize decide (ys = vs) = e2 at *
  go_enter Tryz.func30, Tryz.ntmps30
  go_wp2_with fail
  have hsz : (w.alloc (cbox (.slice a xs.length n) (.slice b ys.length m))).heap.size = w.heap.size + 1 := by simp
  generalize w.alloc (cbox (.slice a xs.length n) (.slice b ys.length m)) = w1 at *
  have hb := bel_box w1 (cbox (.slice p us.length j) (.slice q vs.length k))
  have HS := Lib.hid (two_new w1 (.slice p us.length j) (.slice q vs.length k))
  rw [hsz] at HS
  replace HT := Lib.hid (HT.out.keep hb)
  replace HX := Lib.hid (HX.out.keep hb)
  replace HY := Lib.hid (HY.out.keep hb)
  replace HU := Lib.hid (HU.out.keep hb)
  replace HV := Lib.hid (HV.out.keep hb)
  replace HB := bel_tr HB hb
  clear hb hsz
  generalize w1.alloc (cbox (.slice p us.length j) (.slice q vs.length k)) = w2 at *
  have k0 := HT.out.1
  have k1 := HT.out.2
  have k2 := HS.out.1
  have k3 := HS.out.2
  go_wp2_with fail
  refine (H1.out _ HX.out HU.out).mono ?_
  rintro e w3 ⟨rfl, hb⟩
  replace HT := Lib.hid (HT.out.keep hb)
  replace HS := Lib.hid (HS.out.keep hb)
  replace HY := Lib.hid (HY.out.keep hb)
  replace HV := Lib.hid (HV.out.keep hb)
  replace HB := bel_tr HB hb
  clear hb H1 k0 k1 k2 k3
  have k1 := HT.out.2
  have k3 := HS.out.2
  rcases e1 with _ | _
  · have hE := HE.out
    subst hE
    clear HE
    go_wp2_with fail
    go_ret
    exact ⟨rfl, HB.out⟩
  · go_wp2_with fail
    refine (H2.out _ HY.out HV.out).mono ?_
    rintro e w4 ⟨rfl, hb⟩
    replace HB := bel_tr HB hb
    clear hb H2 k1 k3
    have hE := HE.out
    subst hE
    clear HE
    go_wp2_with fail
    go_ret
    exact ⟨by simp, HB.out⟩

end Go.Proofs.YtgopkffgljiblaaGreat.F
end

/-
  Whether a dot is in a context: the program's and the reference's.
-/
section
namespace Go.Proofs.YtgopkffgljiblaaGreat.F
set_option linter.unusedVariables false
open Go.RowKit V Go.Sort D

/-- A box with a dot. -/
def Bd (g : Nat) (x y : Int) (w : World) : Prop := w.cell? ⟨g, 0, none⟩ = some (.int .i64 x) ∧ w.cell? ⟨g, 1, none⟩ = some (.int .i64 y)
theorem Bd.keep {w w' : World} {g : Nat} {x y : Int} (h : Bd g x y w) (hb : Below w.heap.size w w') : Bd g x y w' :=
  ⟨(hb.cell (p := ⟨g, 0, none⟩) (lt_of_cell h.1)).trans h.1, (hb.cell (p := ⟨g, 1, none⟩) (lt_of_cell h.2)).trans h.2⟩

end Go.Proofs.YtgopkffgljiblaaGreat.F
end

/-
  Whether all dots are valid; which contexts are: the reference's.
-/
section
namespace Go.Proofs.YtgopkffgljiblaaGreat.F
set_option linter.unusedVariables false
open Go.RowKit V Go.Sort D

theorem all_here {l : List Dt} {k : Nat} {p : Dt → Bool} (hk : k < l.length) (h : p l[k] = false) : l.all p = false := by
  rw [List.all_eq_false]; exact ⟨l[k], List.getElem_mem hk, by rw [h]; simp⟩
theorem all_away {l : List Dt} {p : Dt → Bool} (h : ∀ j (hj : j < l.length), p l[j] = true) : l.all p = true := by
  rw [List.all_eq_true]
  intro x hx
  obtain ⟨j, hj, rfl⟩ := List.mem_iff_getElem.1 hx
  exact h j hj
end Go.Proofs.YtgopkffgljiblaaGreat.F
end
end

/-
  Counters, near, Compact, as the program does them.
-/
section
/-
  The program's counters of a vector, and the question whether a dot is near.
-/
section
namespace Go.Proofs.YtgopkffgljiblaaGreat.F
set_option linter.unusedVariables false
open Go.RowKit V Go.Sort D
open E (Cm upd Vd getV vd_cons get_none hasV)

theorem zero_cm6 (w : World) : Cm (w.alloc (Obj.cells Tryz.zeroCells100 100)) w.heap.size (fun _ => 0) := by
  have e : Tryz.zeroCells100 = Array.replicate 65 (.int .i64 0) := by kernel_rfl
  rw [e]
  intro i hi
  have hh : (w.alloc (.cells (Array.replicate 65 (.int .i64 0)) 100)).heap[w.heap.size]? = some (.cells (Array.replicate 65 (.int .i64 0)) 100 (0, 0)) := by show (w.heap.push _)[w.heap.size]? = _; simp
  constructor
  · simp only [World.cell?, hh]
    rw [if_neg (by simp)]
    simp [hi]
  · unfold World.frozen?
    rw [show (⟨w.heap.size, i, none⟩ : Addr).block = w.heap.size from rfl, hh]
    simp
theorem ix_cn6 (g n : Nat) (z : Int) (hz : z = (n : Int)) (hn : n < 65) : ∀ w, (Instr.indexAt 100 (.pointer (some ⟨g, 0, none⟩)) (.int .i64 z)).run Tryz.prog w = .ok (.pointer (some ⟨g, n, none⟩)) w := by
  intro w
  subst hz
  have hk2 : (n : Int) < 65 := by omega
  go_simp
/-- The counters of the dots of a list, the last one of each replica. -/
def cntF (l : List Dt) : Nat → Int := l.foldl (fun f d => upd f d.1.toNat d.2) fun _ => 0
theorem cnt_take {l : List Dt} {k : Nat} (h : k < l.length) : cntF (l.take (k + 1)) = upd (cntF (l.take k)) l[k].1.toNat l[k].2 := by
  unfold cntF
  rw [List.take_succ_eq_append_getElem h, List.foldl_append]
  rfl
theorem cnt_fold : ∀ (l : List Dt) (f : Nat → Int), Vd l → ∀ i : Nat, (l.foldl (fun f d => upd f d.1.toNat d.2) f) i = if getV l i = 0 then f i else getV l i
  | [], f, _, i => by simp [getV]
  | d :: t, f, hv, i => by
    have h := vd_cons.1 hv
    have hd := valid_iff.1 h.1
    rw [List.foldl_cons, cnt_fold t _ h.2.2 i, getV]
    by_cases e : d.1 = (i : Int)
    · have e2 : i = d.1.toNat := by omega
      have hn : getV t i = 0 := get_none fun x hx => by have := h.2.1 x hx; omega
      rw [if_pos hn, if_pos e, if_neg (by omega)]
      unfold upd
      rw [if_pos e2]
    · rw [if_neg e]
      have h5 : upd f d.1.toNat d.2 i = f i := if_neg (fun e2 => e (by omega))
      rw [h5]
theorem cnt_get {l : List Dt} (hv : Vd l) (i : Nat) : cntF l i = getV l i := by
  unfold cntF
  rw [cnt_fold l _ hv i]
  split
  · rename_i h; exact h.symm
  · rfl

set_option maxRecDepth 100000 in
set_option maxHeartbeats 1000000 in
theorem countersOf_any (xs : List Dt) (a : Option Addr) (n : Nat) (w : World) (hv : Vd xs) (hx : RowD w a xs) (hlx : xs.length ≤ 1000000) :
    Calls Tryz.prog 49 #[.slice a xs.length n] w fun e w' => ∃ g, e = .returned (.pointer (some ⟨g, 0, none⟩)) ∧ ∃ f, Cm w' g f ∧ (∀ i : Nat, f i = getV xs i) ∧ w.heap.size ≤ g ∧ Below w.heap.size w w' := by
  have HX := Lib.hid hx
  have hli : (xs.length : Int) ≤ 1000000 := by omega
  have HVd := Lib.hid (fun k (hk : k < xs.length) => valid_iff.1 (hv.1 xs[k] (List.getElem_mem hk)))
  have HG : Hid (∀ i : Nat, cntF xs i = getV xs i) := fun i => cnt_get hv i
  clear hv hx hlx
  go_enter Tryz.func49, Tryz.ntmps49
  go_wp2_with fail
  have hC := zero_cm6 w
  have hB : Below w.heap.size w (w.alloc (Obj.cells Tryz.zeroCells100 100)) := (Below.refl _ _).alloc (Nat.le_refl _) _
  generalize w.alloc (Obj.cells Tryz.zeroCells100 100) = w1 at *
  have HC := Lib.hid hC
  have HB := Lib.hid hB
  clear hC hB
  go_loopw [5, 8] (fun _ i wr => ∃ (k : Nat), k ≤ xs.length ∧ i = .int .i64 (k : Int) ∧ Hid (Below w.heap.size w wr) ∧ Hid (Cm wr w.heap.size (cntF (xs.take k)))) (fun _ i _ => xs.length - (intOf i).toNat)
  case atStart => exact ⟨0, Nat.zero_le _, rfl, HB, HC⟩
  case round =>
    obtain ⟨k, hk, rfl, hh, HO⟩ := hrel
    by_cases hlt : k < xs.length
    · have hi1 : (k : Int) < (xs.length : Int) := by omega
      obtain ⟨b1, o1, rfl, p0, p1⟩ := HX.out.get hh.out k hlt
      have HF : Hid (cntF (xs.take (k + 1)) = upd (cntF (xs.take k)) xs[k].1.toNat xs[k].2) := cnt_take hlt
      have hvi := HVd.out k hlt
      obtain ⟨p, hp⟩ : ∃ p, p = xs[k] := ⟨_, rfl⟩
      rw [← hp] at p0 p1 HF hvi
      clear hp
      generalize cntF (xs.take k) = f at *
      obtain ⟨z, y⟩ := p
      obtain ⟨q, rfl⟩ : ∃ q : Nat, z = (q : Int) := ⟨z.toNat, by simp only at hvi; omega⟩
      have hn : q < 65 := by simp only at hvi; omega
      simp only [Int.toNat_natCast] at HF
      clear hvi
      have hix := ix_cn6 w.heap.size q (q : Int) rfl hn
      have hBa : Below wr.heap.size wr (wr.alloc (Obj.cells #[.int .i64 (q : Int), .int .i64 y] 48)) := (Below.refl _ _).alloc (Nat.le_refl _) _
      have HO1 := Lib.hid (HO.out.keep hBa)
      have HB1 := bel_tr hh hBa
      have q0 := (HO1.out q hn).1
      have q1 := (HO1.out q hn).2
      clear hBa
      go_wp2_with fail
      go_roundw
      case rel => exact ⟨k + 1, by omega, by go_num, (HB1.out.setCell (p := ⟨w.heap.size, q, none⟩) (Nat.le_refl _) _), by show Cm _ _ _; rw [HF.out]; exact HO1.out.set hn _⟩
      case measure => simp [intOf]; omega
    · obtain rfl : k = xs.length := by omega
      have hi1 : ¬ (xs.length : Int) < (xs.length : Int) := by omega
      rw [List.take_length] at HO
      go_wp2_with fail
      go_ret
      exact ⟨_, rfl, cntF xs, HO.out, HG.out, Nat.le_refl _, hh.out⟩

set_option maxRecDepth 100000 in
set_option maxHeartbeats 1000000 in
theorem near_any (d : Dt) (f : Nat → Int) (u : Int) (g B : Nat) (w : World) (hu : f d.1.toNat = u) (hd : 0 ≤ d.1 ∧ d.1 ≤ 64) (hf : 0 ≤ u ∧ u ≤ 4294967295) (hC : Cm w g f) (hb : w.cell? ⟨B, 0, none⟩ = some (.pointer (some ⟨g, 0, none⟩))) :
    Calls Tryz.prog 75 #[dv d, .pointer (some ⟨B, 0, none⟩)] w fun e w' => e = .returned (.bool (decide (d.2 ≤ u + 1))) ∧ Below w.heap.size w w' := by
  obtain ⟨z, y⟩ := d
  obtain ⟨q, rfl⟩ : ∃ q : Nat, z = (q : Int) := ⟨z.toNat, by simp only at hd; omega⟩
  have hn : q < 65 := by simp only at hd; omega
  have hix := ix_cn6 g q (q : Int) rfl hn
  have hB := bel_box w (.cells #[.int .i64 (q : Int), .int .i64 y] 48)
  have c0 := (hC.keep hB q hn).1
  have c1 := (hB.cell (p := ⟨B, 0, none⟩) (lt_of_cell hb)).trans hb
  simp only [Int.toNat_natCast] at hu
  rw [hu] at c0
  have hw : IntKind.i64.wrap (u + 1) = u + 1 := by
    have h1 := hf.1
    have h2 := hf.2
    simp [IntKind.wrap, IntKind.signed, IntKind.bits]
    omega
  have k0 : (w.alloc (.cells #[.int .i64 (q : Int), .int .i64 y] 48)).cell? ⟨w.heap.size, 0, none⟩ = some (.int .i64 (q : Int)) := by go_simp
  have k1 : (w.alloc (.cells #[.int .i64 (q : Int), .int .i64 y] 48)).cell? ⟨w.heap.size, 1, none⟩ = some (.int .i64 y) := by go_simp
  have HB := Lib.hid hB
  have HF := Lib.hid hf
  clear hd hC hb hB hf hu
  go_enter Tryz.func75, Tryz.ntmps75
  go_wp2_with fail
  generalize w.alloc (.cells #[.int .i64 (q : Int), .int .i64 y] 48) = w1 at *
  go_quiet (fail)
  go_wp2_with fail
  go_ret
  exact ⟨rfl, bel_drewN HB.out _⟩

theorem enters_near : ∀ args w, (callFunc 75 args).run Tryz.prog w = .ok (.enter 75 args) w := enters_of Tryz.func75 (by kernel_rfl) rfl
set_option maxRecDepth 100000 in
theorem nearTo_any (g : Nat) (w : World) : Calls Tryz.prog 48 #[.pointer (some ⟨g, 0, none⟩)] w fun e w' => e = .returned (.func (.func 75) #[] #[.pointer (some ⟨w.heap.size, 0, none⟩)]) ∧ w'.cell? ⟨w.heap.size, 0, none⟩ = some (.pointer (some ⟨g, 0, none⟩)) ∧ Below w.heap.size w w' := by
  go_enter Tryz.func48, Tryz.ntmps48
  go_wp2_with fail
  go_ret
  refine ⟨rfl, ?_, bel_box _ _⟩
  go_simp
theorem OD.kb {w w' : World} {base : Nat} {E : TypeId} {v : Value} {l : List Dt} {row : Option Nat} (h : OD w base E v l) (hg : w.grownBy w' row) (hne : ∀ k, v.ownBlock = some k → row ≠ some k) : OD w' base E v l := by
  refine h.keep hg ?_
  rcases hv : v.ownBlock with _ | k
  · exact .inl rfl
  · exact .inr fun e => hne k hv e.symm

theorem nilV : ∀ (w : World) (a : Option Addr) (n c n' c' : Nat), (binOp .eql 23 (.slice a n c) (.slice none n' c')).run Tryz.prog w = .ok (.bool a.isNone) w := fun w a n c n' c' => Lib.run_eql_slice_nil w _ _ a n c n' c' Tryz.underlying23
set_option maxRecDepth 100000 in
set_option maxHeartbeats 1000000 in
theorem cloneV (l : List Dt) (a : Option Addr) (c : Nat) (w : World) (hrow : RowD w a l) (hnil : a = none → c = 0) (hlen : l.length ≤ 1000000) :
    Calls Tryz.prog 65 #[.slice a l.length c] w fun e w' => ∃ v, e = .returned v ∧ OD w' w.heap.size E v l ∧ Below w.heap.size w w' := by
  have HR := Lib.hid hrow
  have HL := Lib.hid hlen
  rcases a with _ | ad
  · have hl : l = [] := by
      rcases hrow with h | ⟨_, _, e, _⟩
      · exact h
      · cases e
    subst hl
    clear hrow hlen hnil
    have q := nilV
    go_enter Tryz.func65, Tryz.ntmps65
    go_wp2_with fail
    go_ret
    exact ⟨_, rfl, OD.nil _ _ _, Below.refl _ _⟩
  · clear hrow hlen
    have q := nilV
    have HN := Lib.hid hnil
    clear hnil
    have HO : Hid (OD (w.alloc (.cells #[] 48)) w.heap.size E (.slice (some ⟨w.heap.size, 0, none⟩) 0 0) []) := World.ownsRow_made (base := w.heap.size) (size := 2) (e := 48) w #[] 0 (Nat.le_refl _) (Nat.zero_le _) rfl
    have HB : Hid (Below w.heap.size w (w.alloc (.cells #[] 48))) := (Below.refl _ _).alloc (Nat.le_refl _) _
    go_enter Tryz.func65, Tryz.ntmps65
    go_wp2_with (at_builtin; refine wpList_appD rfl _ _ _ rfl Tryz.underlying23 infoD _ _ rfl HO.out (some ad) l c rfl (HR.out.keep HB.out) HN.out (by have := HL.out; simp; omega) HB.out.size ?_)
    intro v' w' ho hg _
    have HO2 : Hid (OD w' w.heap.size E v' l) := ho
    have HB2 := Lib.hid (HB.out.grown hg HB.out.size (fun k hk => (HO.out.lt k hk).1))
    clear ho hg
    go_wp2_with fail
    go_ret
    exact ⟨_, rfl, HO2.out, HB2.out⟩
end Go.Proofs.YtgopkffgljiblaaGreat.F
end

/-
  The program's pass over a cloud.
-/
section
namespace Go.Proofs.YtgopkffgljiblaaGreat.F
set_option linter.unusedVariables false
open Go.RowKit V Go.Sort D
open E (Cm upd Vd getV vd_cons get_none hasV get_ge)

/-- Two cells that may be written. -/
def Wc (w : World) (g : Nat) : Prop := ∀ i, i < 2 → (∃ v, w.cell? ⟨g, i, none⟩ = some v) ∧ w.frozen? ⟨g, i, none⟩ = false
/-- What stands below the rows of the pass: the box, the room for the result, the counters, the question. -/
structure Kc (h g b base : Nat) (x y : Value) (f : Nat → Int) (w : World) : Prop where
  o1 : h + 1 < g
  o2 : g < b
  o3 : b < base
  o4 : base ≤ w.heap.size
  bx : Bc w h x y
  rs : Wc w (h + 1)
  cm : Cm w g f
  nr : w.cell? ⟨b, 0, none⟩ = some (.pointer (some ⟨g, 0, none⟩))
section
variable {h g b base : Nat} {x y : Value} {f : Nat → Int} {w w' : World}
theorem Kc.keep (k : Kc h g b base x y f w) (hb : Below base w w') : Kc h g b base x y f w' := by
  have h1 := k.o1
  have h2 := k.o2
  have h3 := k.o3
  exact {
    o1 := h1
    o2 := h2
    o3 := h3
    o4 := Nat.le_trans k.o4 hb.size
    bx := ⟨(hb.cell (p := ⟨h, 0, none⟩) (by show h < base; omega)).trans k.bx.1, (hb.cell (p := ⟨h, 1, none⟩) (by show h < base; omega)).trans k.bx.2⟩
    rs := fun i hi => by
      obtain ⟨⟨v, hv⟩, hf⟩ := k.rs i hi
      exact ⟨⟨v, (hb.cell (p := ⟨h + 1, i, none⟩) (by show h + 1 < base; omega)).trans hv⟩, (hb.frozen (p := ⟨h + 1, i, none⟩) (by show h + 1 < base; omega)).trans hf⟩
    cm := fun i hi => ⟨(hb.cell (p := ⟨g, i, none⟩) (by show g < base; omega)).trans (k.cm i hi).1, (hb.frozen (p := ⟨g, i, none⟩) (by show g < base; omega)).trans (k.cm i hi).2⟩
    nr := (hb.cell (p := ⟨b, 0, none⟩) (by show b < base; omega)).trans k.nr }
theorem Kc.set (k : Kc h g b base x y f w) {n : Nat} (hn : n < 65) (z : Int) : Kc h g b base x y (upd f n z) (w.setCell ⟨g, n, none⟩ (.int .i64 z)) := by
  have h1 := k.o1
  have h2 := k.o2
  have h3 := k.o3
  exact {
    o1 := h1
    o2 := h2
    o3 := h3
    o4 := by have := k.o4; simpa [World.setCell] using this
    bx := ⟨(World.cell?_setCell_other _ _ _ _ (by first | (simp; done) | (simp; omega))).trans k.bx.1, (World.cell?_setCell_other _ _ _ _ (by first | (simp; done) | (simp; omega))).trans k.bx.2⟩
    rs := fun i hi => by
      obtain ⟨⟨v, hv⟩, hf⟩ := k.rs i hi
      exact ⟨⟨v, (World.cell?_setCell_other _ _ _ _ (by first | (simp; done) | (simp; omega))).trans hv⟩, by rw [World.frozen?_setCell]; exact hf⟩
    cm := k.cm.set hn z
    nr := (World.cell?_setCell_other _ _ _ _ (by first | (simp; done) | (simp; omega))).trans k.nr }
end

theorem get_le {v : List Dt} (hv : Vd v) (r : Int) : getV v r ≤ 4294967295 := by
  rcases Int.lt_or_le 0 (getV v r) with h | h
  · exact (valid_iff.1 (hv.1 _ (E.get_pos hv h))).2.2.2
  · omega
/-- Two rows that are not the same one. -/
def Apt (u v : Value) : Prop := ∀ g, u.ownBlock = some g → v.ownBlock ≠ some g
theorem Apt.symm {u v : Value} (h : Apt u v) : Apt v u := fun g hv hu => h g hu hv
theorem Apt.none (u : Value) : Apt u (.slice none 0 0) := fun g _ h => by cases h
theorem Apt.grew {w : World} {u v v' : Value} (h : Apt u v) (hg : G.Grew w v v') (hu : ∀ g, u.ownBlock = some g → g < w.heap.size) : Apt u v' := fun g hg1 hg2 => by
  rcases hg with e | e
  · exact h g hg1 (by rw [← e]; exact hg2)
  · rw [e] at hg2
    cases hg2
    have := hu _ hg1
    omega

theorem put_two {w : World} {h : Nat} {x y : Value} (k : Wc w h) : Bc ((w.setCell ⟨h, 0, none⟩ x).setCell ⟨h, 1, none⟩ y) h x y := by
  obtain ⟨⟨u, r0⟩, r1⟩ := k 0 (by omega)
  obtain ⟨⟨v, r2⟩, r3⟩ := k 1 (by omega)
  constructor
  · rw [World.cell?_setCell_other _ _ _ _ (by simp)]
    exact World.cell?_setCell_same' _ _ _ (by rw [r0]; rfl)
  · exact World.cell?_setCell_same' _ _ _ (by rw [World.cell?_setCell_other _ _ _ _ (by simp), r2]; rfl)
theorem OD.set {w : World} {base : Nat} {v : Value} {l : List Dt} (h : OD w base E v l) (g i : Nat) (z : Value) (hg : g < base) : OD (w.setCell ⟨g, i, none⟩ z) base E v l :=
  OD.kb h (gb_setCell w g i z) fun k hk e => by cases e; have := (h.lt _ hk).1; omega

set_option maxRecDepth 100000 in
set_option maxHeartbeats 2000000 in
theorem compacted_any (xs ys : List Dt) (a b : Option Addr) (n m : Nat) (w : World) (hv : Vc (xs, ys)) (hx : RowD w a xs) (hy : RowD w b ys) (hna : a = none → n = 0) (hlx : xs.length ≤ 900000) (hly : ys.length ≤ 900000) :
    Calls Tryz.prog 44 #[cv (.slice a xs.length n) (.slice b ys.length m)] w fun e w' => ∃ x y, e = .returned (cv x y) ∧ OD w' w.heap.size E x (compC (xs, ys)).1 ∧ OD w' w.heap.size E y (compC (xs, ys)).2 ∧ Below w.heap.size w w' := by
  have HIv := Lib.hid (fun k hk => inv_all hv.1 hv.2.2 k hk)
  have HEo := Lib.hid (end_of hv.1 hv.2.2)
  have HEr := Lib.hid (end_rest xs ys)
  have HVy : Hid (∀ k (hk : k < ys.length), validR ys[k] = true) := fun k hk => hv.2.2 _ (List.getElem_mem hk)
  have HCo := Lib.hid (fun w h => countersOf_any xs a n w hv.1 h (by omega))
  have HCl := Lib.hid (fun w h => cloneV xs a n w h hna (by omega))
  have HLx := Lib.hid hlx
  have HLy := Lib.hid hly
  have HX := Lib.hid hx
  have HY := Lib.hid hy
  have HY0 := Lib.hid hy
  have hlj : (ys.length : Int) ≤ 900000 := by omega
  generalize compC (xs, ys) = C at *
  have HB := Lib.hid (bel_box w (cbox (.slice a xs.length n) (.slice b ys.length m)))
  have HT := Lib.hid (two_new w (.slice a xs.length n) (.slice b ys.length m))
  clear hv hx hy hna hlx hly
  go_enter Tryz.func44, Tryz.ntmps44
  go_wp2_with fail
  have hb := bel_box (w.alloc (cbox (.slice a xs.length n) (.slice b ys.length m))) (cbox (.slice none 0 0) (.slice none 0 0))
  have HWc : Hid (Wc ((w.alloc (cbox (.slice a xs.length n) (.slice b ys.length m))).alloc (cbox (.slice none 0 0) (.slice none 0 0))) (w.heap.size + 1)) := by
    intro i hi
    rcases i with _ | _ | i
    · exact ⟨⟨_, by go_simp; rfl⟩, by go_simp⟩
    · exact ⟨⟨_, by go_simp; rfl⟩, by go_simp⟩
    · omega
  have hsz : ((w.alloc (cbox (.slice a xs.length n) (.slice b ys.length m))).alloc (cbox (.slice none 0 0) (.slice none 0 0))).heap.size = w.heap.size + 2 := by simp
  replace HT := Lib.hid (HT.out.keep hb)
  replace HB := bel_tr HB hb
  clear hb
  generalize (w.alloc (cbox (.slice a xs.length n) (.slice b ys.length m))).alloc (cbox (.slice none 0 0) (.slice none 0 0)) = w1 at *
  replace HX := Lib.hid (HX.out.keep HB.out)
  replace HY := Lib.hid (HY.out.keep HB.out)
  refine (HCo.out _ HX.out).mono ?_
  rintro e w2 ⟨g, rfl, f, hcm, hf, hge, hb⟩
  have HCm := Lib.hid hcm
  have HF := Lib.hid hf
  have HG : Hid (w.heap.size + 1 < g) := by show _ < _; omega
  have HGl := Lib.hid hcm.lt
  replace HT := Lib.hid (HT.out.keep hb)
  replace HX := Lib.hid (HX.out.keep hb)
  replace HY := Lib.hid (HY.out.keep hb)
  have HWc2 : Hid (Wc w2 (w.heap.size + 1)) := fun i hi => by
    obtain ⟨⟨v, hv⟩, hf⟩ := HWc.out i hi
    exact ⟨⟨v, (hb.cell (p := ⟨w.heap.size + 1, i, none⟩) (by show w.heap.size + 1 < _; omega)).trans hv⟩, (hb.frozen (p := ⟨w.heap.size + 1, i, none⟩) (by show w.heap.size + 1 < _; omega)).trans hf⟩
  replace HB := bel_tr HB hb
  clear hcm hf hge hb HCo HWc hsz
  go_wp2_with fail
  refine (nearTo_any g w2).mono ?_
  rintro e w3 ⟨rfl, hnr, hb⟩
  have HN := Lib.hid hnr
  replace HT := Lib.hid (HT.out.keep hb)
  replace HX := Lib.hid (HX.out.keep hb)
  replace HY := Lib.hid (HY.out.keep hb)
  replace HCm := Lib.hid (HCm.out.keep hb)
  have HWc3 : Hid (Wc w3 (w.heap.size + 1)) := fun i hi => by
    obtain ⟨⟨v, hv⟩, hf⟩ := HWc2.out i hi
    have h1 := HGl.out
    have h2 := HG.out
    exact ⟨⟨v, (hb.cell (p := ⟨w.heap.size + 1, i, none⟩) (by show w.heap.size + 1 < _; omega)).trans hv⟩, (hb.frozen (p := ⟨w.heap.size + 1, i, none⟩) (by show w.heap.size + 1 < _; omega)).trans hf⟩
  have HN2 : Hid (w2.heap.size < w3.heap.size) := lt_of_cell hnr
  replace HB := bel_tr HB hb
  have HK : Hid (Kc w.heap.size g w2.heap.size w3.heap.size (.slice a xs.length n) (.slice b ys.length m) f w3) := {
    o1 := HG.out
    o2 := HGl.out
    o3 := HN2.out
    o4 := Nat.le_refl _
    bx := HT.out
    rs := HWc3.out
    cm := HCm.out
    nr := HN.out }
  clear hnr hb HWc2 HWc3 HCm HN HT HG HGl HN2
  generalize w2.heap.size = B at *
  have k0 := HK.out.bx.1
  go_wp2_with fail
  refine (HCl.out _ HX.out).mono ?_
  rintro e w4 ⟨v4, rfl, ho, hb⟩
  have HO := Lib.hid ho
  replace HY := Lib.hid (HY.out.keep hb)
  replace HK := Lib.hid (HK.out.keep hb)
  replace HB := bel_tr HB hb
  clear ho hb HCl k0
  have k1 := HK.out.bx.2
  go_wp2_with fail
  clear k1 HX
  have HF0 : Hid (∀ i : Nat, f i = getV (stK xs ys 0).1.1 i) := HF.out
  have HO0 : Hid (OD w4 w3.heap.size E v4 (stK xs ys 0).2) := HO.out
  have HU0 : Hid (OD w4 w3.heap.size E (.slice none 0 0) (stK xs ys 0).1.2) := OD.nil _ _ _
  clear HF HO
  generalize w3.heap.size = base at *
  go_loopw [5, 6, 8, 22] (fun v u _ i wr => ∃ k : Nat, k ≤ ys.length ∧ i = .int .i64 (k : Int) ∧ Hid (∃ f, (∀ i : Nat, f i = getV (stK xs ys k).1.1 i) ∧ Kc w.heap.size g B base (.slice a xs.length n) (.slice b ys.length m) f wr) ∧ Hid (Below w.heap.size w wr) ∧ Hid (OD wr base E v (stK xs ys k).2) ∧ Hid (OD wr base E u (stK xs ys k).1.2) ∧ Hid (Apt v u)) (fun _ _ _ i _ => ys.length - (intOf i).toNat)
  case atStart => exact ⟨0, Nat.zero_le _, rfl, ⟨f, HF0.out, HK.out⟩, HB, HO0, HU0, Apt.none _⟩
  case round =>
    obtain ⟨k, hk, rfl, hKf, hh, HO, HU, HA⟩ := hrel
    clear HF0 HO0 HU0 HK HB
    obtain ⟨f2, hf2, hK2⟩ := hKf.out
    have HK := Lib.hid hK2
    have HF := Lib.hid hf2
    clear hKf hf2 hK2
    by_cases hlt : k < ys.length
    · have hi1 : (k : Int) < (ys.length : Int) := by omega
      obtain ⟨b1, o1, rfl, p0, p1⟩ := HY0.out.get hh.out k hlt
      have HIk := HIv.out k hk
      have hvp := HVy.out k hlt
      have HNd := Lib.hid (near_dec (v := (stK xs ys k).1.1) hvp)
      have HNg := Lib.hid (fun h => near_get HIk hlt hvp h)
      have HNn := Lib.hid (fun h => stK_near (v := xs) hlt h)
      have HNf := Lib.hid (fun h => stK_far (v := xs) hlt h)
      have hge := get_ge HIk.vd ys[k].1
      have hle := get_le HIk.vd ys[k].1
      have HBl := Lib.hid HIk.bl
      have HRl := Lib.hid HIk.rl
      obtain ⟨p, hp⟩ : ∃ p, p = ys[k] := ⟨_, rfl⟩
      rw [← hp] at p0 p1 hvp HNd HNg HNn HNf hge hle
      clear hp HIk
      have hvi := valid_iff.1 hvp
      obtain ⟨z, y⟩ := p
      obtain ⟨q, rfl⟩ : ∃ q : Nat, z = (q : Int) := ⟨z.toNat, by simp only at hvi; omega⟩
      have hfq := HF.out q
      simp only at hge hle HNd HNg hvi
      rw [← hfq] at hge hle HNd
      obtain ⟨u, hu⟩ : ∃ u, u = f2 q := ⟨_, rfl⟩
      rw [← hu] at hge hle HNd
      have hBa : Below wr.heap.size wr (wr.alloc (Obj.cells #[.int .i64 (q : Int), .int .i64 y] 48)) := (Below.refl _ _).alloc (Nat.le_refl _) _
      have HBs := Lib.hid HK.out.o4
      have HK1 := Lib.hid (HK.out.keep (hBa.mono HK.out.o4))
      have HO1 := Lib.hid (HO.out.below hBa)
      have HU1 := Lib.hid (HU.out.below hBa)
      have HB1 := bel_tr hh hBa
      have HNr := Lib.hid (near_any ((q : Int), y) f2 u g B (wr.alloc (Obj.cells #[.int .i64 (q : Int), .int .i64 y] 48)) (by simp only [Int.toNat_natCast]; exact hu.symm) ⟨by simp only; omega, by simp only; omega⟩ ⟨hge, hle⟩ HK1.out.cm HK1.out.nr)
      have HD1 : Hid (Bd wr.heap.size (q : Int) y (wr.alloc (Obj.cells #[.int .i64 (q : Int), .int .i64 y] 48))) := by refine ⟨?_, ?_⟩ <;> go_simp
      have hn : q < 65 := by omega
      have HUv : Hid (u = f2 q) := hu
      clear hu hfq hBa hvi hvp hge hle
      have eg := enters_near
      go_wp2_with fail
      generalize wr.alloc (Obj.cells #[.int .i64 (q : Int), .int .i64 y] 48) = w5 at *
      refine HNr.out.mono ?_
      rintro e w6 ⟨rfl, hb⟩
      replace HK1 := Lib.hid (HK1.out.keep (hb.mono HK1.out.o4))
      replace HO1 := Lib.hid (HO1.out.below hb)
      replace HU1 := Lib.hid (HU1.out.below hb)
      replace HD1 := Lib.hid (HD1.out.keep hb)
      replace HB1 := bel_tr HB1 hb
      clear hb HNr eg p0 p1
      have k0 := HD1.out.1
      have k1 := HD1.out.2
      rcases hny : decide (y ≤ u + 1) with _ | _
      · have hnf := HNf.out (HNd.out.trans hny)
        have HL1 : Hid ((stK xs ys k).1.2.length ≤ 900000) := by show _ ≤ _; have := HRl.out; have := HLy.out; omega
        have HF2 : Hid (∀ i : Nat, f2 i = getV (stK xs ys (k + 1)).1.1 i) := fun i => by rw [hnf.2.2]; exact HF.out i
        have HV2 : Hid ((stK xs ys (k + 1)).2 = (stK xs ys k).2) := hnf.2.1
        have HR2 : Hid ((stK xs ys (k + 1)).1.2 = (stK xs ys k).1.2 ++ [((q : Int), y)]) := hnf.1
        clear hnf hny HNf HNn HNg HNd
        have hBa := bel_box w6 (Obj.cells #[.int .i64 (q : Int), .int .i64 y] 48)
        have HBs6 := Lib.hid HK1.out.o4
        go_wp2_with (at_builtin; refine wpList_appD rfl _ _ _ rfl Tryz.underlying22 infoD _ _ rfl (HU1.out.below hBa) (some ⟨w6.heap.size, 0, none⟩) [((q : Int), y)] 1 rfl (lit_one w6 ((q : Int), y) _) (fun h => by cases h) (by have := HL1.out; simp; omega) (by have := HBs6.out; simp; omega) ?_)
        intro v7 w7 ho hg hgr
        have HU7 : Hid (OD w7 base E v7 ((stK xs ys k).1.2 ++ [((q : Int), y)])) := ho
        have hlt6 : base ≤ (w6.alloc (Obj.cells #[.int .i64 (q : Int), .int .i64 y] 48)).heap.size := by have := HBs6.out; simp; omega
        have hb7 : Below base (w6.alloc (Obj.cells #[.int .i64 (q : Int), .int .i64 y] 48)) w7 := (Below.refl _ _).grown hg hlt6 (fun j hj => (HU1.out.lt j hj).1)
        have HK7 := Lib.hid ((HK1.out.keep (hBa.mono HBs6.out)).keep hb7)
        have HO7 : Hid (OD w7 base E u5 (stK xs ys k).2) := OD.kb (HO1.out.below hBa) hg fun j hj e => HA.out j hj e
        have HA7 : Hid (Apt u5 v7) := HA.out.grew hgr fun j hj => by have := (HO1.out.lt j hj).2; simp; omega
        have HB7 : Hid (Below w.heap.size w w7) := HB1.out.trans ((hBa.mono HB1.out.size).trans (hb7.mono (by have := HK1.out.o1; have := HK1.out.o2; have := HK1.out.o3; omega)))
        clear ho hg hgr hlt6 hb7 hBa k0 k1
        go_wp2_with fail
        go_roundw
        case rel => exact ⟨k + 1, by omega, by go_num, ⟨f2, HF2.out, HK7.out⟩, HB7, by show OD _ _ _ _ _; rw [HV2.out]; exact HO7.out, by show OD _ _ _ _ _; rw [HR2.out]; exact HU7.out, HA7⟩
        case measure => simp [intOf]; omega
      · have hnt := HNd.out.trans hny
        have hnn := HNn.out hnt
        have hng := HNg.out hnt
        have HL1 : Hid ((stK xs ys k).2.length ≤ 1800000) := by show _ ≤ _; have := HBl.out; have := HLx.out; have := HLy.out; omega
        have HF2 : Hid (∀ i : Nat, upd f2 q (max u y) i = getV (stK xs ys (k + 1)).1.1 i) := fun i => by
          rw [hng]
          unfold upd
          by_cases e : i = q
          · subst e
            rw [if_pos rfl, if_pos rfl, ← HF.out, HUv.out]
          · rw [if_neg e, if_neg (by omega)]
            exact HF.out i
        have HR2 : Hid ((stK xs ys (k + 1)).1.2 = (stK xs ys k).1.2) := hnn.1
        have HV2 : Hid ((stK xs ys (k + 1)).2 = (stK xs ys k).2 ++ [((q : Int), y)]) := hnn.2
        clear hnt hnn hng hny HNf HNn HNg HNd k0 k1
        have hix := ix_cn6 g q (q : Int) rfl hn
        have H0 := Lib.hid (fun w2 (h : Bd wr.heap.size (q : Int) y w2) => load_int (w := w2) h.1)
        have H1 := Lib.hid (fun w2 (h : Bd wr.heap.size (q : Int) y w2) => load_int (w := w2) h.2)
        have HS : Hid (Bd wr.heap.size (q : Int) y w6.drew) := HD1.out
        go_wp2_with fail
        refine Sch.wp_region_tree (Bd wr.heap.size (q : Int) y) (.take 0 (.take 1 (.take 2 (.take 3 (.take 4 (.take 5 (.take 9 (.take 10 (.two 6 (.take 7 (.two 8 (.two 11 (.one 12 (.take 13 (.one 14 .done))) 12 (.one 11 (.take 13 (.one 14 .done)))) 12 (.one 8 (.one 11 (.take 13 (.one 14 .done)))))) 12 (.one 6 (.take 7 (.one 8 (.one 11 (.take 13 (.one 14 .done))))))))))))))) (by kernel_rfl) (by kernel_rfl) HS.out ?_
        have hdr : Below w6.heap.size w6 w6.drew := (Below.refl _ _).drew
        have HK2 := Lib.hid (HK1.out.keep (hdr.mono HK1.out.o4))
        have HO2 := Lib.hid (HO1.out.below hdr)
        have HU2 := Lib.hid (HU1.out.below hdr)
        have HB2 : Hid (Below w.heap.size w w6.drew) := HB1.out.drew
        have HZ : Hid (wr.heap.size < w6.drew.heap.size) := lt_of_cell HD1.out.1
        clear hdr HK1 HO1 HU1 HB1 HD1
        generalize w6.drew = w7 at *
        have q0 : w7.cell? ⟨g, q, none⟩ = some (.int .i64 u) := by rw [HUv.out]; exact (HK2.out.cm q hn).1
        have q1 : w7.frozen? ⟨g, q, none⟩ = false := (HK2.out.cm q hn).2
        repeat (first
          | (refine tree_load _ _ _ _ _ rfl rfl rfl rfl (by first | exact H0.out | exact H1.out) rfl ?_; simp only [Act.put, List.setIfInBounds_toArray, List.set_cons_zero, List.set_cons_succ])
          | (refine Sch.tree_q rfl rfl (fun K hK => ?_); go_big_quiet_op; (first | refine hK _ ?_ | refine ⟨_, fun _ _ => rfl, hK _ ?_⟩); clear hK K))
        have HS2 : Hid (∀ z, Bd wr.heap.size (q : Int) y (w7.setCell ⟨g, q, none⟩ (.int .i64 z))) := fun z => by
          have h1 := HK2.out.o2
          have h2 := HK2.out.o3
          have h3 := HBs.out
          constructor
          · rw [World.cell?_setCell_other _ _ _ _ (by first | (simp; done) | (simp; omega))]; exact HS.out.1
          · rw [World.cell?_setCell_other _ _ _ _ (by first | (simp; done) | (simp; omega))]; exact HS.out.2
        have HEnd : Hid (∀ z, z = max u y → ∀ W, W = w7.setCell ⟨g, q, none⟩ (.int .i64 z) → Kc w.heap.size g B base (.slice a xs.length n) (.slice (some ⟨b1, o1, none⟩) ys.length m) (upd f2 q (max u y)) W ∧ OD W base E u5 (stK xs ys k).2 ∧ OD W base E u6 (stK xs ys k).1.2 ∧ Below w.heap.size w W ∧ Bd wr.heap.size (q : Int) y W) := by
          rintro z hz W rfl
          subst hz
          have h2 := HK2.out.o2
          have h3 := HK2.out.o3
          have h1 := HK2.out.o1
          exact ⟨HK2.out.set hn _, OD.set HO2.out g q _ (by omega), OD.set HU2.out g q _ (by omega), HB2.out.setCell (p := ⟨g, q, none⟩) (by show _ ≤ g; omega) _, HS2.out _⟩
        by_cases hmx : y ≤ u
        · have hz : u = max u y := by omega
          have HM := Lib.hid (HEnd.out u hz)
          clear hz HEnd
          refine Sch.tree_two ?_ ?_
          · refine Sch.tree_e rfl rfl (fun K hK => ?_)
            go_wp2_with fail
            refine hK _ _ HS.out ?_
            clear hK K
            refine Sch.tree_q rfl rfl (fun K hK => ?_)
            go_big_quiet_op
            first | refine hK _ ?_ | refine ⟨_, fun _ _ => rfl, hK _ ?_⟩
            clear hK K
            refine Sch.tree_two ?_ ?_
            · refine Sch.tree_e rfl rfl (fun K hK => ?_)
              go_wp2_with fail
              refine hK _ _ HS.out ?_
              clear hK K
              refine Sch.tree_two ?_ ?_
              · refine Sch.tree_e rfl rfl (fun K hK => ?_)
                go_wp2_with fail
                refine hK _ _ HS.out ?_
                clear hK K
                refine Sch.tree_e rfl rfl (fun K hK => ?_)
                go_wp2_with fail
                refine hK _ _ HS.out ?_
                clear hK K
                refine Sch.tree_q rfl rfl (fun K hK => ?_)
                go_big_quiet_op
                first | refine hK _ ?_ | refine ⟨_, fun _ _ => rfl, hK _ ?_⟩
                clear hK K
                refine Sch.tree_e rfl rfl (fun K hK => ?_)
                go_wp2_with fail
                refine hK _ _ (HS2.out _) ?_
                clear hK K
                refine Sch.tree_n ?_
                generalize hW : w7.setCell ⟨g, q, none⟩ (.int .i64 u) = W at *
                obtain ⟨hk8, ho8, hu8, hb8, hd8⟩ := HM.out W rfl
                have HK8 := Lib.hid hk8
                have HO8 := Lib.hid ho8
                have HU8 := Lib.hid hu8
                have HB8 := Lib.hid hb8
                have k0 := hd8.1
                have k1 := hd8.2
                have hBa := bel_box W (Obj.cells #[.int .i64 (q : Int), .int .i64 y] 48)
                have HBs8 := Lib.hid HK8.out.o4
                clear hW hk8 ho8 hu8 hb8 hd8 q0 q1 HM
                go_wp2_with (at_builtin; refine wpList_appD rfl _ _ _ rfl Tryz.underlying23 infoD _ _ rfl (HO8.out.below hBa) (some ⟨W.heap.size, 0, none⟩) [((q : Int), y)] 1 rfl (lit_one W ((q : Int), y) _) (fun h => by cases h) (by have := HL1.out; simp; omega) (by have := HBs8.out; simp; omega) ?_)
                intro v9 w9 ho hg hgr
                have HO9 : Hid (OD w9 base E v9 ((stK xs ys k).2 ++ [((q : Int), y)])) := ho
                have hlt6 : base ≤ (W.alloc (Obj.cells #[.int .i64 (q : Int), .int .i64 y] 48)).heap.size := by have := HBs8.out; simp; omega
                have hb9 : Below base (W.alloc (Obj.cells #[.int .i64 (q : Int), .int .i64 y] 48)) w9 := (Below.refl _ _).grown hg hlt6 (fun j hj => (HO8.out.lt j hj).1)
                have HK9 := Lib.hid ((HK8.out.keep (hBa.mono HBs8.out)).keep hb9)
                have HU9 : Hid (OD w9 base E u6 (stK xs ys k).1.2) := OD.kb (HU8.out.below hBa) hg fun j hj e => HA.out.symm j hj e
                have HA9 : Hid (Apt v9 u6) := (HA.out.symm.grew hgr fun j hj => by have := (HU8.out.lt j hj).2; simp; omega).symm
                have HB9 : Hid (Below w.heap.size w w9) := HB8.out.trans ((hBa.mono HB8.out.size).trans (hb9.mono (by have := HK8.out.o1; have := HK8.out.o2; have := HK8.out.o3; omega)))
                clear ho hg hgr hlt6 hb9 hBa k0 k1
                go_wp2_with fail
                go_roundw
                case rel => exact ⟨k + 1, by omega, by go_num, ⟨_, HF2.out, HK9.out⟩, HB9, by show OD _ _ _ _ _; rw [HV2.out]; exact HO9.out, by show OD _ _ _ _ _; rw [HR2.out]; exact HU9.out, HA9⟩
                case measure => simp [intOf]; omega
              · refine Sch.tree_e rfl rfl (fun K hK => ?_)
                go_wp2_with fail
                refine hK _ _ HS.out ?_
                clear hK K
                refine Sch.tree_e rfl rfl (fun K hK => ?_)
                go_wp2_with fail
                refine hK _ _ HS.out ?_
                clear hK K
                refine Sch.tree_q rfl rfl (fun K hK => ?_)
                go_big_quiet_op
                first | refine hK _ ?_ | refine ⟨_, fun _ _ => rfl, hK _ ?_⟩
                clear hK K
                refine Sch.tree_e rfl rfl (fun K hK => ?_)
                go_wp2_with fail
                refine hK _ _ (HS2.out _) ?_
                clear hK K
                refine Sch.tree_n ?_
                generalize hW : w7.setCell ⟨g, q, none⟩ (.int .i64 u) = W at *
                obtain ⟨hk8, ho8, hu8, hb8, hd8⟩ := HM.out W rfl
                have HK8 := Lib.hid hk8
                have HO8 := Lib.hid ho8
                have HU8 := Lib.hid hu8
                have HB8 := Lib.hid hb8
                have k0 := hd8.1
                have k1 := hd8.2
                have hBa := bel_box W (Obj.cells #[.int .i64 (q : Int), .int .i64 y] 48)
                have HBs8 := Lib.hid HK8.out.o4
                clear hW hk8 ho8 hu8 hb8 hd8 q0 q1 HM
                go_wp2_with (at_builtin; refine wpList_appD rfl _ _ _ rfl Tryz.underlying23 infoD _ _ rfl (HO8.out.below hBa) (some ⟨W.heap.size, 0, none⟩) [((q : Int), y)] 1 rfl (lit_one W ((q : Int), y) _) (fun h => by cases h) (by have := HL1.out; simp; omega) (by have := HBs8.out; simp; omega) ?_)
                intro v9 w9 ho hg hgr
                have HO9 : Hid (OD w9 base E v9 ((stK xs ys k).2 ++ [((q : Int), y)])) := ho
                have hlt6 : base ≤ (W.alloc (Obj.cells #[.int .i64 (q : Int), .int .i64 y] 48)).heap.size := by have := HBs8.out; simp; omega
                have hb9 : Below base (W.alloc (Obj.cells #[.int .i64 (q : Int), .int .i64 y] 48)) w9 := (Below.refl _ _).grown hg hlt6 (fun j hj => (HO8.out.lt j hj).1)
                have HK9 := Lib.hid ((HK8.out.keep (hBa.mono HBs8.out)).keep hb9)
                have HU9 : Hid (OD w9 base E u6 (stK xs ys k).1.2) := OD.kb (HU8.out.below hBa) hg fun j hj e => HA.out.symm j hj e
                have HA9 : Hid (Apt v9 u6) := (HA.out.symm.grew hgr fun j hj => by have := (HU8.out.lt j hj).2; simp; omega).symm
                have HB9 : Hid (Below w.heap.size w w9) := HB8.out.trans ((hBa.mono HB8.out.size).trans (hb9.mono (by have := HK8.out.o1; have := HK8.out.o2; have := HK8.out.o3; omega)))
                clear ho hg hgr hlt6 hb9 hBa k0 k1
                go_wp2_with fail
                go_roundw
                case rel => exact ⟨k + 1, by omega, by go_num, ⟨_, HF2.out, HK9.out⟩, HB9, by show OD _ _ _ _ _; rw [HV2.out]; exact HO9.out, by show OD _ _ _ _ _; rw [HR2.out]; exact HU9.out, HA9⟩
                case measure => simp [intOf]; omega
            · refine Sch.tree_e rfl rfl (fun K hK => ?_)
              go_wp2_with fail
              refine hK _ _ HS.out ?_
              clear hK K
              refine Sch.tree_e rfl rfl (fun K hK => ?_)
              go_wp2_with fail
              refine hK _ _ HS.out ?_
              clear hK K
              refine Sch.tree_e rfl rfl (fun K hK => ?_)
              go_wp2_with fail
              refine hK _ _ HS.out ?_
              clear hK K
              refine Sch.tree_q rfl rfl (fun K hK => ?_)
              go_big_quiet_op
              first | refine hK _ ?_ | refine ⟨_, fun _ _ => rfl, hK _ ?_⟩
              clear hK K
              refine Sch.tree_e rfl rfl (fun K hK => ?_)
              go_wp2_with fail
              refine hK _ _ (HS2.out _) ?_
              clear hK K
              refine Sch.tree_n ?_
              generalize hW : w7.setCell ⟨g, q, none⟩ (.int .i64 u) = W at *
              obtain ⟨hk8, ho8, hu8, hb8, hd8⟩ := HM.out W rfl
              have HK8 := Lib.hid hk8
              have HO8 := Lib.hid ho8
              have HU8 := Lib.hid hu8
              have HB8 := Lib.hid hb8
              have k0 := hd8.1
              have k1 := hd8.2
              have hBa := bel_box W (Obj.cells #[.int .i64 (q : Int), .int .i64 y] 48)
              have HBs8 := Lib.hid HK8.out.o4
              clear hW hk8 ho8 hu8 hb8 hd8 q0 q1 HM
              go_wp2_with (at_builtin; refine wpList_appD rfl _ _ _ rfl Tryz.underlying23 infoD _ _ rfl (HO8.out.below hBa) (some ⟨W.heap.size, 0, none⟩) [((q : Int), y)] 1 rfl (lit_one W ((q : Int), y) _) (fun h => by cases h) (by have := HL1.out; simp; omega) (by have := HBs8.out; simp; omega) ?_)
              intro v9 w9 ho hg hgr
              have HO9 : Hid (OD w9 base E v9 ((stK xs ys k).2 ++ [((q : Int), y)])) := ho
              have hlt6 : base ≤ (W.alloc (Obj.cells #[.int .i64 (q : Int), .int .i64 y] 48)).heap.size := by have := HBs8.out; simp; omega
              have hb9 : Below base (W.alloc (Obj.cells #[.int .i64 (q : Int), .int .i64 y] 48)) w9 := (Below.refl _ _).grown hg hlt6 (fun j hj => (HO8.out.lt j hj).1)
              have HK9 := Lib.hid ((HK8.out.keep (hBa.mono HBs8.out)).keep hb9)
              have HU9 : Hid (OD w9 base E u6 (stK xs ys k).1.2) := OD.kb (HU8.out.below hBa) hg fun j hj e => HA.out.symm j hj e
              have HA9 : Hid (Apt v9 u6) := (HA.out.symm.grew hgr fun j hj => by have := (HU8.out.lt j hj).2; simp; omega).symm
              have HB9 : Hid (Below w.heap.size w w9) := HB8.out.trans ((hBa.mono HB8.out.size).trans (hb9.mono (by have := HK8.out.o1; have := HK8.out.o2; have := HK8.out.o3; omega)))
              clear ho hg hgr hlt6 hb9 hBa k0 k1
              go_wp2_with fail
              go_roundw
              case rel => exact ⟨k + 1, by omega, by go_num, ⟨_, HF2.out, HK9.out⟩, HB9, by show OD _ _ _ _ _; rw [HV2.out]; exact HO9.out, by show OD _ _ _ _ _; rw [HR2.out]; exact HU9.out, HA9⟩
              case measure => simp [intOf]; omega
          · refine Sch.tree_e rfl rfl (fun K hK => ?_)
            go_wp2_with fail
            refine hK _ _ HS.out ?_
            clear hK K
            refine Sch.tree_e rfl rfl (fun K hK => ?_)
            go_wp2_with fail
            refine hK _ _ HS.out ?_
            clear hK K
            refine Sch.tree_q rfl rfl (fun K hK => ?_)
            go_big_quiet_op
            first | refine hK _ ?_ | refine ⟨_, fun _ _ => rfl, hK _ ?_⟩
            clear hK K
            refine Sch.tree_e rfl rfl (fun K hK => ?_)
            go_wp2_with fail
            refine hK _ _ HS.out ?_
            clear hK K
            refine Sch.tree_e rfl rfl (fun K hK => ?_)
            go_wp2_with fail
            refine hK _ _ HS.out ?_
            clear hK K
            refine Sch.tree_q rfl rfl (fun K hK => ?_)
            go_big_quiet_op
            first | refine hK _ ?_ | refine ⟨_, fun _ _ => rfl, hK _ ?_⟩
            clear hK K
            refine Sch.tree_e rfl rfl (fun K hK => ?_)
            go_wp2_with fail
            refine hK _ _ (HS2.out _) ?_
            clear hK K
            refine Sch.tree_n ?_
            generalize hW : w7.setCell ⟨g, q, none⟩ (.int .i64 u) = W at *
            obtain ⟨hk8, ho8, hu8, hb8, hd8⟩ := HM.out W rfl
            have HK8 := Lib.hid hk8
            have HO8 := Lib.hid ho8
            have HU8 := Lib.hid hu8
            have HB8 := Lib.hid hb8
            have k0 := hd8.1
            have k1 := hd8.2
            have hBa := bel_box W (Obj.cells #[.int .i64 (q : Int), .int .i64 y] 48)
            have HBs8 := Lib.hid HK8.out.o4
            clear hW hk8 ho8 hu8 hb8 hd8 q0 q1 HM
            go_wp2_with (at_builtin; refine wpList_appD rfl _ _ _ rfl Tryz.underlying23 infoD _ _ rfl (HO8.out.below hBa) (some ⟨W.heap.size, 0, none⟩) [((q : Int), y)] 1 rfl (lit_one W ((q : Int), y) _) (fun h => by cases h) (by have := HL1.out; simp; omega) (by have := HBs8.out; simp; omega) ?_)
            intro v9 w9 ho hg hgr
            have HO9 : Hid (OD w9 base E v9 ((stK xs ys k).2 ++ [((q : Int), y)])) := ho
            have hlt6 : base ≤ (W.alloc (Obj.cells #[.int .i64 (q : Int), .int .i64 y] 48)).heap.size := by have := HBs8.out; simp; omega
            have hb9 : Below base (W.alloc (Obj.cells #[.int .i64 (q : Int), .int .i64 y] 48)) w9 := (Below.refl _ _).grown hg hlt6 (fun j hj => (HO8.out.lt j hj).1)
            have HK9 := Lib.hid ((HK8.out.keep (hBa.mono HBs8.out)).keep hb9)
            have HU9 : Hid (OD w9 base E u6 (stK xs ys k).1.2) := OD.kb (HU8.out.below hBa) hg fun j hj e => HA.out.symm j hj e
            have HA9 : Hid (Apt v9 u6) := (HA.out.symm.grew hgr fun j hj => by have := (HU8.out.lt j hj).2; simp; omega).symm
            have HB9 : Hid (Below w.heap.size w w9) := HB8.out.trans ((hBa.mono HB8.out.size).trans (hb9.mono (by have := HK8.out.o1; have := HK8.out.o2; have := HK8.out.o3; omega)))
            clear ho hg hgr hlt6 hb9 hBa k0 k1
            go_wp2_with fail
            go_roundw
            case rel => exact ⟨k + 1, by omega, by go_num, ⟨_, HF2.out, HK9.out⟩, HB9, by show OD _ _ _ _ _; rw [HV2.out]; exact HO9.out, by show OD _ _ _ _ _; rw [HR2.out]; exact HU9.out, HA9⟩
            case measure => simp [intOf]; omega
        · have hz : y = max u y := by omega
          have hmx2 : u < y := by omega
          have HM := Lib.hid (HEnd.out y hz)
          clear hz HEnd
          refine Sch.tree_two ?_ ?_
          · refine Sch.tree_e rfl rfl (fun K hK => ?_)
            go_wp2_with fail
            refine hK _ _ HS.out ?_
            clear hK K
            refine Sch.tree_q rfl rfl (fun K hK => ?_)
            go_big_quiet_op
            first | refine hK _ ?_ | refine ⟨_, fun _ _ => rfl, hK _ ?_⟩
            clear hK K
            refine Sch.tree_two ?_ ?_
            · refine Sch.tree_e rfl rfl (fun K hK => ?_)
              go_wp2_with fail
              refine hK _ _ HS.out ?_
              clear hK K
              refine Sch.tree_two ?_ ?_
              · refine Sch.tree_e rfl rfl (fun K hK => ?_)
                go_wp2_with fail
                refine hK _ _ HS.out ?_
                clear hK K
                refine Sch.tree_e rfl rfl (fun K hK => ?_)
                go_wp2_with fail
                refine hK _ _ HS.out ?_
                clear hK K
                refine Sch.tree_q rfl rfl (fun K hK => ?_)
                go_big_quiet_op
                first | refine hK _ ?_ | refine ⟨_, fun _ _ => rfl, hK _ ?_⟩
                clear hK K
                refine Sch.tree_e rfl rfl (fun K hK => ?_)
                go_wp2_with fail
                refine hK _ _ (HS2.out _) ?_
                clear hK K
                refine Sch.tree_n ?_
                generalize hW : w7.setCell ⟨g, q, none⟩ (.int .i64 y) = W at *
                obtain ⟨hk8, ho8, hu8, hb8, hd8⟩ := HM.out W rfl
                have HK8 := Lib.hid hk8
                have HO8 := Lib.hid ho8
                have HU8 := Lib.hid hu8
                have HB8 := Lib.hid hb8
                have k0 := hd8.1
                have k1 := hd8.2
                have hBa := bel_box W (Obj.cells #[.int .i64 (q : Int), .int .i64 y] 48)
                have HBs8 := Lib.hid HK8.out.o4
                clear hW hk8 ho8 hu8 hb8 hd8 q0 q1 HM
                go_wp2_with (at_builtin; refine wpList_appD rfl _ _ _ rfl Tryz.underlying23 infoD _ _ rfl (HO8.out.below hBa) (some ⟨W.heap.size, 0, none⟩) [((q : Int), y)] 1 rfl (lit_one W ((q : Int), y) _) (fun h => by cases h) (by have := HL1.out; simp; omega) (by have := HBs8.out; simp; omega) ?_)
                intro v9 w9 ho hg hgr
                have HO9 : Hid (OD w9 base E v9 ((stK xs ys k).2 ++ [((q : Int), y)])) := ho
                have hlt6 : base ≤ (W.alloc (Obj.cells #[.int .i64 (q : Int), .int .i64 y] 48)).heap.size := by have := HBs8.out; simp; omega
                have hb9 : Below base (W.alloc (Obj.cells #[.int .i64 (q : Int), .int .i64 y] 48)) w9 := (Below.refl _ _).grown hg hlt6 (fun j hj => (HO8.out.lt j hj).1)
                have HK9 := Lib.hid ((HK8.out.keep (hBa.mono HBs8.out)).keep hb9)
                have HU9 : Hid (OD w9 base E u6 (stK xs ys k).1.2) := OD.kb (HU8.out.below hBa) hg fun j hj e => HA.out.symm j hj e
                have HA9 : Hid (Apt v9 u6) := (HA.out.symm.grew hgr fun j hj => by have := (HU8.out.lt j hj).2; simp; omega).symm
                have HB9 : Hid (Below w.heap.size w w9) := HB8.out.trans ((hBa.mono HB8.out.size).trans (hb9.mono (by have := HK8.out.o1; have := HK8.out.o2; have := HK8.out.o3; omega)))
                clear ho hg hgr hlt6 hb9 hBa k0 k1
                go_wp2_with fail
                go_roundw
                case rel => exact ⟨k + 1, by omega, by go_num, ⟨_, HF2.out, HK9.out⟩, HB9, by show OD _ _ _ _ _; rw [HV2.out]; exact HO9.out, by show OD _ _ _ _ _; rw [HR2.out]; exact HU9.out, HA9⟩
                case measure => simp [intOf]; omega
              · refine Sch.tree_e rfl rfl (fun K hK => ?_)
                go_wp2_with fail
                refine hK _ _ HS.out ?_
                clear hK K
                refine Sch.tree_e rfl rfl (fun K hK => ?_)
                go_wp2_with fail
                refine hK _ _ HS.out ?_
                clear hK K
                refine Sch.tree_q rfl rfl (fun K hK => ?_)
                go_big_quiet_op
                first | refine hK _ ?_ | refine ⟨_, fun _ _ => rfl, hK _ ?_⟩
                clear hK K
                refine Sch.tree_e rfl rfl (fun K hK => ?_)
                go_wp2_with fail
                refine hK _ _ (HS2.out _) ?_
                clear hK K
                refine Sch.tree_n ?_
                generalize hW : w7.setCell ⟨g, q, none⟩ (.int .i64 y) = W at *
                obtain ⟨hk8, ho8, hu8, hb8, hd8⟩ := HM.out W rfl
                have HK8 := Lib.hid hk8
                have HO8 := Lib.hid ho8
                have HU8 := Lib.hid hu8
                have HB8 := Lib.hid hb8
                have k0 := hd8.1
                have k1 := hd8.2
                have hBa := bel_box W (Obj.cells #[.int .i64 (q : Int), .int .i64 y] 48)
                have HBs8 := Lib.hid HK8.out.o4
                clear hW hk8 ho8 hu8 hb8 hd8 q0 q1 HM
                go_wp2_with (at_builtin; refine wpList_appD rfl _ _ _ rfl Tryz.underlying23 infoD _ _ rfl (HO8.out.below hBa) (some ⟨W.heap.size, 0, none⟩) [((q : Int), y)] 1 rfl (lit_one W ((q : Int), y) _) (fun h => by cases h) (by have := HL1.out; simp; omega) (by have := HBs8.out; simp; omega) ?_)
                intro v9 w9 ho hg hgr
                have HO9 : Hid (OD w9 base E v9 ((stK xs ys k).2 ++ [((q : Int), y)])) := ho
                have hlt6 : base ≤ (W.alloc (Obj.cells #[.int .i64 (q : Int), .int .i64 y] 48)).heap.size := by have := HBs8.out; simp; omega
                have hb9 : Below base (W.alloc (Obj.cells #[.int .i64 (q : Int), .int .i64 y] 48)) w9 := (Below.refl _ _).grown hg hlt6 (fun j hj => (HO8.out.lt j hj).1)
                have HK9 := Lib.hid ((HK8.out.keep (hBa.mono HBs8.out)).keep hb9)
                have HU9 : Hid (OD w9 base E u6 (stK xs ys k).1.2) := OD.kb (HU8.out.below hBa) hg fun j hj e => HA.out.symm j hj e
                have HA9 : Hid (Apt v9 u6) := (HA.out.symm.grew hgr fun j hj => by have := (HU8.out.lt j hj).2; simp; omega).symm
                have HB9 : Hid (Below w.heap.size w w9) := HB8.out.trans ((hBa.mono HB8.out.size).trans (hb9.mono (by have := HK8.out.o1; have := HK8.out.o2; have := HK8.out.o3; omega)))
                clear ho hg hgr hlt6 hb9 hBa k0 k1
                go_wp2_with fail
                go_roundw
                case rel => exact ⟨k + 1, by omega, by go_num, ⟨_, HF2.out, HK9.out⟩, HB9, by show OD _ _ _ _ _; rw [HV2.out]; exact HO9.out, by show OD _ _ _ _ _; rw [HR2.out]; exact HU9.out, HA9⟩
                case measure => simp [intOf]; omega
            · refine Sch.tree_e rfl rfl (fun K hK => ?_)
              go_wp2_with fail
              refine hK _ _ HS.out ?_
              clear hK K
              refine Sch.tree_e rfl rfl (fun K hK => ?_)
              go_wp2_with fail
              refine hK _ _ HS.out ?_
              clear hK K
              refine Sch.tree_e rfl rfl (fun K hK => ?_)
              go_wp2_with fail
              refine hK _ _ HS.out ?_
              clear hK K
              refine Sch.tree_q rfl rfl (fun K hK => ?_)
              go_big_quiet_op
              first | refine hK _ ?_ | refine ⟨_, fun _ _ => rfl, hK _ ?_⟩
              clear hK K
              refine Sch.tree_e rfl rfl (fun K hK => ?_)
              go_wp2_with fail
              refine hK _ _ (HS2.out _) ?_
              clear hK K
              refine Sch.tree_n ?_
              generalize hW : w7.setCell ⟨g, q, none⟩ (.int .i64 y) = W at *
              obtain ⟨hk8, ho8, hu8, hb8, hd8⟩ := HM.out W rfl
              have HK8 := Lib.hid hk8
              have HO8 := Lib.hid ho8
              have HU8 := Lib.hid hu8
              have HB8 := Lib.hid hb8
              have k0 := hd8.1
              have k1 := hd8.2
              have hBa := bel_box W (Obj.cells #[.int .i64 (q : Int), .int .i64 y] 48)
              have HBs8 := Lib.hid HK8.out.o4
              clear hW hk8 ho8 hu8 hb8 hd8 q0 q1 HM
              go_wp2_with (at_builtin; refine wpList_appD rfl _ _ _ rfl Tryz.underlying23 infoD _ _ rfl (HO8.out.below hBa) (some ⟨W.heap.size, 0, none⟩) [((q : Int), y)] 1 rfl (lit_one W ((q : Int), y) _) (fun h => by cases h) (by have := HL1.out; simp; omega) (by have := HBs8.out; simp; omega) ?_)
              intro v9 w9 ho hg hgr
              have HO9 : Hid (OD w9 base E v9 ((stK xs ys k).2 ++ [((q : Int), y)])) := ho
              have hlt6 : base ≤ (W.alloc (Obj.cells #[.int .i64 (q : Int), .int .i64 y] 48)).heap.size := by have := HBs8.out; simp; omega
              have hb9 : Below base (W.alloc (Obj.cells #[.int .i64 (q : Int), .int .i64 y] 48)) w9 := (Below.refl _ _).grown hg hlt6 (fun j hj => (HO8.out.lt j hj).1)
              have HK9 := Lib.hid ((HK8.out.keep (hBa.mono HBs8.out)).keep hb9)
              have HU9 : Hid (OD w9 base E u6 (stK xs ys k).1.2) := OD.kb (HU8.out.below hBa) hg fun j hj e => HA.out.symm j hj e
              have HA9 : Hid (Apt v9 u6) := (HA.out.symm.grew hgr fun j hj => by have := (HU8.out.lt j hj).2; simp; omega).symm
              have HB9 : Hid (Below w.heap.size w w9) := HB8.out.trans ((hBa.mono HB8.out.size).trans (hb9.mono (by have := HK8.out.o1; have := HK8.out.o2; have := HK8.out.o3; omega)))
              clear ho hg hgr hlt6 hb9 hBa k0 k1
              go_wp2_with fail
              go_roundw
              case rel => exact ⟨k + 1, by omega, by go_num, ⟨_, HF2.out, HK9.out⟩, HB9, by show OD _ _ _ _ _; rw [HV2.out]; exact HO9.out, by show OD _ _ _ _ _; rw [HR2.out]; exact HU9.out, HA9⟩
              case measure => simp [intOf]; omega
          · refine Sch.tree_e rfl rfl (fun K hK => ?_)
            go_wp2_with fail
            refine hK _ _ HS.out ?_
            clear hK K
            refine Sch.tree_e rfl rfl (fun K hK => ?_)
            go_wp2_with fail
            refine hK _ _ HS.out ?_
            clear hK K
            refine Sch.tree_q rfl rfl (fun K hK => ?_)
            go_big_quiet_op
            first | refine hK _ ?_ | refine ⟨_, fun _ _ => rfl, hK _ ?_⟩
            clear hK K
            refine Sch.tree_e rfl rfl (fun K hK => ?_)
            go_wp2_with fail
            refine hK _ _ HS.out ?_
            clear hK K
            refine Sch.tree_e rfl rfl (fun K hK => ?_)
            go_wp2_with fail
            refine hK _ _ HS.out ?_
            clear hK K
            refine Sch.tree_q rfl rfl (fun K hK => ?_)
            go_big_quiet_op
            first | refine hK _ ?_ | refine ⟨_, fun _ _ => rfl, hK _ ?_⟩
            clear hK K
            refine Sch.tree_e rfl rfl (fun K hK => ?_)
            go_wp2_with fail
            refine hK _ _ (HS2.out _) ?_
            clear hK K
            refine Sch.tree_n ?_
            generalize hW : w7.setCell ⟨g, q, none⟩ (.int .i64 y) = W at *
            obtain ⟨hk8, ho8, hu8, hb8, hd8⟩ := HM.out W rfl
            have HK8 := Lib.hid hk8
            have HO8 := Lib.hid ho8
            have HU8 := Lib.hid hu8
            have HB8 := Lib.hid hb8
            have k0 := hd8.1
            have k1 := hd8.2
            have hBa := bel_box W (Obj.cells #[.int .i64 (q : Int), .int .i64 y] 48)
            have HBs8 := Lib.hid HK8.out.o4
            clear hW hk8 ho8 hu8 hb8 hd8 q0 q1 HM
            go_wp2_with (at_builtin; refine wpList_appD rfl _ _ _ rfl Tryz.underlying23 infoD _ _ rfl (HO8.out.below hBa) (some ⟨W.heap.size, 0, none⟩) [((q : Int), y)] 1 rfl (lit_one W ((q : Int), y) _) (fun h => by cases h) (by have := HL1.out; simp; omega) (by have := HBs8.out; simp; omega) ?_)
            intro v9 w9 ho hg hgr
            have HO9 : Hid (OD w9 base E v9 ((stK xs ys k).2 ++ [((q : Int), y)])) := ho
            have hlt6 : base ≤ (W.alloc (Obj.cells #[.int .i64 (q : Int), .int .i64 y] 48)).heap.size := by have := HBs8.out; simp; omega
            have hb9 : Below base (W.alloc (Obj.cells #[.int .i64 (q : Int), .int .i64 y] 48)) w9 := (Below.refl _ _).grown hg hlt6 (fun j hj => (HO8.out.lt j hj).1)
            have HK9 := Lib.hid ((HK8.out.keep (hBa.mono HBs8.out)).keep hb9)
            have HU9 : Hid (OD w9 base E u6 (stK xs ys k).1.2) := OD.kb (HU8.out.below hBa) hg fun j hj e => HA.out.symm j hj e
            have HA9 : Hid (Apt v9 u6) := (HA.out.symm.grew hgr fun j hj => by have := (HU8.out.lt j hj).2; simp; omega).symm
            have HB9 : Hid (Below w.heap.size w w9) := HB8.out.trans ((hBa.mono HB8.out.size).trans (hb9.mono (by have := HK8.out.o1; have := HK8.out.o2; have := HK8.out.o3; omega)))
            clear ho hg hgr hlt6 hb9 hBa k0 k1
            go_wp2_with fail
            go_roundw
            case rel => exact ⟨k + 1, by omega, by go_num, ⟨_, HF2.out, HK9.out⟩, HB9, by show OD _ _ _ _ _; rw [HV2.out]; exact HO9.out, by show OD _ _ _ _ _; rw [HR2.out]; exact HU9.out, HA9⟩
            case measure => simp [intOf]; omega
    · obtain rfl : k = ys.length := by omega
      have hi1 : ¬ (ys.length : Int) < (ys.length : Int) := by omega
      have HIk := HIv.out ys.length (Nat.le_refl _)
      have HBl := Lib.hid HIk.bl
      obtain ⟨a2, c2, rfl, hr, -⟩ := HO.out.row
      have HOf := Lib.hid (E.of_any (stK xs ys ys.length).2 a2 c2 wr hr (by have := HBl.out; have := HLx.out; have := HLy.out; omega))
      rw [HEo.out] at HOf
      rw [HEr.out] at HU
      obtain ⟨a3, c3, rfl, -⟩ := HU.out.row
      have HBs := Lib.hid HK.out.o4
      have HBo := Lib.hid (show w.heap.size ≤ base from by have := HK.out.o1; have := HK.out.o2; have := HK.out.o3; omega)
      clear HIk hr HBl
      go_wp2_with fail
      refine HOf.out.mono ?_
      rintro e w5 ⟨v, rfl, ho, hb⟩
      have HX5 : Hid (OD w5 base E v C.1) := ho.mono fun k hk => Nat.le_trans HBs.out (ho.lt k hk).1
      have HY5 : Hid (OD w5 base E (.slice a3 C.2.length c3) C.2) := HU.out.below hb
      have HK5 := Lib.hid (HK.out.keep (hb.mono HBs.out))
      have HB5 := bel_tr hh hb
      obtain ⟨a4, c4, rfl, -⟩ := ho.row
      obtain ⟨⟨u0, r0⟩, r1⟩ := HK5.out.rs 0 (by omega)
      obtain ⟨⟨u1, r2⟩, r3⟩ := HK5.out.rs 1 (by omega)
      have HP := Lib.hid (put_two (x := .slice a4 C.1.length c4) (y := .slice a3 C.2.length c3) HK5.out.rs)
      have hlb : w.heap.size + 1 < base := by have := HK5.out.o1; have := HK5.out.o2; have := HK5.out.o3; omega
      have HX6 := Lib.hid (OD.set (OD.set HX5.out (w.heap.size + 1) 0 (.slice a4 C.1.length c4) hlb) (w.heap.size + 1) 1 (.slice a3 C.2.length c3) hlb)
      have HY6 := Lib.hid (OD.set (OD.set HY5.out (w.heap.size + 1) 0 (.slice a4 C.1.length c4) hlb) (w.heap.size + 1) 1 (.slice a3 C.2.length c3) hlb)
      have HB6 : Hid (Below w.heap.size w ((w5.setCell ⟨w.heap.size + 1, 0, none⟩ (.slice a4 C.1.length c4)).setCell ⟨w.heap.size + 1, 1, none⟩ (.slice a3 C.2.length c3))) := (HB5.out.setCell (p := ⟨w.heap.size + 1, 0, none⟩) (by show _ ≤ w.heap.size + 1; omega) _).setCell (p := ⟨w.heap.size + 1, 1, none⟩) (by show _ ≤ w.heap.size + 1; omega) _
      clear ho hb HOf
      go_wp2_with fail
      generalize (w5.setCell ⟨w.heap.size + 1, 0, none⟩ (.slice a4 C.1.length c4)).setCell ⟨w.heap.size + 1, 1, none⟩ (.slice a3 C.2.length c3) = W at *
      have q0 := HP.out.1
      have q1 := HP.out.2
      (try simp only [Exit.inBlock, Exit.then])
      refine bodyPost_ret (v := cv (.slice a4 C.1.length c4) (.slice a3 C.2.length c3)) (by rw [results_cell1 (fn := Tryz.f44) (p := 2) (ty := 25) rfl]; go_simp) rfl ?_
      exact ⟨_, _, rfl, HX6.out.mono fun k hk => Nat.le_trans (by omega) (HX6.out.lt k hk).1, HY6.out.mono fun k hk => Nat.le_trans (by omega) (HY6.out.lt k hk).1, HB6.out⟩
end Go.Proofs.YtgopkffgljiblaaGreat.F
end
end
