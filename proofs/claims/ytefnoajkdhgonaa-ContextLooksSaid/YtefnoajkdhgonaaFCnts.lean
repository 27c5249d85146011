/-
  Counters, near, Compact, as the program does them.
-/
import Derived.Test.YtefnoajkdhgonaaFVals
import Derived.Test.YtefnoajkdhgonaaEOf

/-
  The program's counters of a vector, and the question whether a dot is near.
-/
section
namespace Go.Proofs.Ytefnoajkdhgonaa.F
set_option linter.unusedVariables false
open Go.RowKit V Go.Sort D
open E (Cm upd Vd getV vd_cons get_none hasV)

theorem zero_cm6 (w : World) : Cm (w.alloc (Obj.cells Try.zeroCells85 85)) w.heap.size (fun _ => 0) := by
  have e : Try.zeroCells85 = Array.replicate 65 (.int .i64 0) := by kernel_rfl
  rw [e]
  intro i hi
  have hh : (w.alloc (.cells (Array.replicate 65 (.int .i64 0)) 85)).heap[w.heap.size]? = some (.cells (Array.replicate 65 (.int .i64 0)) 85 (0, 0)) := by show (w.heap.push _)[w.heap.size]? = _; simp
  constructor
  · simp only [World.cell?, hh]
    rw [if_neg (by simp)]
    simp [hi]
  · unfold World.frozen?
    rw [show (⟨w.heap.size, i, none⟩ : Addr).block = w.heap.size from rfl, hh]
    simp
theorem ix_cn6 (g n : Nat) (z : Int) (hz : z = (n : Int)) (hn : n < 65) : ∀ w, (Instr.indexAt 85 (.pointer (some ⟨g, 0, none⟩)) (.int .i64 z)).run Try.prog w = .ok (.pointer (some ⟨g, n, none⟩)) w := by
  intro w
  subst hz
  have hk2 : (n : Int) < 65 := by omega
  go_simp
/-- The counters of the dots of a list, the last one of each replica. -/
def cntF (l : List Dt) : Nat → Int := l.foldl (fun f d => upd f d.1.toNat d.2) fun _ => 0
theorem cnt_take {l : List Dt} {k : Nat} (h : k < l.length) : cntF (l.take (k + 1)) = upd (cntF (l.take k)) l[k].1.toNat l[k].2 := by
  unfold cntF
  rw [List.take_succ_eq_append_getElem h, List.foldl_append]
  rfl
theorem cnt_fold : ∀ (l : List Dt) (f : Nat → Int), Vd l → ∀ i : Nat, (l.foldl (fun f d => upd f d.1.toNat d.2) f) i = if getV l i = 0 then f i else getV l i
  | [], f, _, i => by simp [getV]
  | d :: t, f, hv, i => by
    have h := vd_cons.1 hv
    have hd := valid_iff.1 h.1
    rw [List.foldl_cons, cnt_fold t _ h.2.2 i, getV]
    by_cases e : d.1 = (i : Int)
    · have e2 : i = d.1.toNat := by omega
      have hn : getV t i = 0 := get_none fun x hx => by have := h.2.1 x hx; omega
      rw [if_pos hn, if_pos e, if_neg (by omega)]
      unfold upd
      rw [if_pos e2]
    · rw [if_neg e]
      have h5 : upd f d.1.toNat d.2 i = f i := if_neg (fun e2 => e (by omega))
      rw [h5]
theorem cnt_get {l : List Dt} (hv : Vd l) (i : Nat) : cntF l i = getV l i := by
  unfold cntF
  rw [cnt_fold l _ hv i]
  split
  · rename_i h; exact h.symm
  · rfl

set_option maxRecDepth 100000 in
set_option maxHeartbeats 1000000 in
theorem countersOf_any (xs : List Dt) (a : Option Addr) (n : Nat) (w : World) (hv : Vd xs) (hx : RowD w a xs) (hlx : xs.length ≤ 1000000) :
    Calls Try.prog 49 #[.slice a xs.length n] w fun e w' => ∃ g, e = .returned (.pointer (some ⟨g, 0, none⟩)) ∧ ∃ f, Cm w' g f ∧ (∀ i : Nat, f i = getV xs i) ∧ w.heap.size ≤ g ∧ Below w.heap.size w w' := by
  have HX := Lib.hid hx
  have hli : (xs.length : Int) ≤ 1000000 := by omega
  have HVd := Lib.hid (fun k (hk : k < xs.length) => valid_iff.1 (hv.1 xs[k] (List.getElem_mem hk)))
  have HG : Hid (∀ i : Nat, cntF xs i = getV xs i) := fun i => cnt_get hv i
  clear hv hx hlx
  go_enter Try.func49, Try.ntmps49
  go_wp2_with fail
  have hC := zero_cm6 w
  have hB : Below w.heap.size w (w.alloc (Obj.cells Try.zeroCells85 85)) := (Below.refl _ _).alloc (Nat.le_refl _) _
  generalize w.alloc (Obj.cells Try.zeroCells85 85) = w1 at *
  have HC := Lib.hid hC
  have HB := Lib.hid hB
  clear hC hB
  go_loopw [5, 8] (fun _ i wr => ∃ (k : Nat), k ≤ xs.length ∧ i = .int .i64 (k : Int) ∧ Hid (Below w.heap.size w wr) ∧ Hid (Cm wr w.heap.size (cntF (xs.take k)))) (fun _ i _ => xs.length - (intOf i).toNat)
  case atStart => exact ⟨0, Nat.zero_le _, rfl, HB, HC⟩
  case round =>
    obtain ⟨k, hk, rfl, hh, HO⟩ := hrel
    by_cases hlt : k < xs.length
    · have hi1 : (k : Int) < (xs.length : Int) := by omega
      obtain ⟨b1, o1, rfl, p0, p1⟩ := HX.out.get hh.out k hlt
      have HF : Hid (cntF (xs.take (k + 1)) = upd (cntF (xs.take k)) xs[k].1.toNat xs[k].2) := cnt_take hlt
      have hvi := HVd.out k hlt
      obtain ⟨p, hp⟩ : ∃ p, p = xs[k] := ⟨_, rfl⟩
      rw [← hp] at p0 p1 HF hvi
      clear hp
      generalize cntF (xs.take k) = f at *
      obtain ⟨z, y⟩ := p
      obtain ⟨q, rfl⟩ : ∃ q : Nat, z = (q : Int) := ⟨z.toNat, by simp only at hvi; omega⟩
      have hn : q < 65 := by simp only at hvi; omega
      simp only [Int.toNat_natCast] at HF
      clear hvi
      have hix := ix_cn6 w.heap.size q (q : Int) rfl hn
      have hBa : Below wr.heap.size wr (wr.alloc (Obj.cells #[.int .i64 (q : Int), .int .i64 y] 38)) := (Below.refl _ _).alloc (Nat.le_refl _) _
      have HO1 := Lib.hid (HO.out.keep hBa)
      have HB1 := bel_tr hh hBa
      have q0 := (HO1.out q hn).1
      have q1 := (HO1.out q hn).2
      clear hBa
      go_wp2_with fail
      go_roundw
      case rel => exact ⟨k + 1, by omega, by go_num, (HB1.out.setCell (p := ⟨w.heap.size, q, none⟩) (Nat.le_refl _) _), by show Cm _ _ _; rw [HF.out]; exact HO1.out.set hn _⟩
      case measure => simp [intOf]; omega
    · obtain rfl : k = xs.length := by omega
      have hi1 : ¬ (xs.length : Int) < (xs.length : Int) := by omega
      rw [List.take_length] at HO
      go_wp2_with fail
      go_ret
      exact ⟨_, rfl, cntF xs, HO.out, HG.out, Nat.le_refl _, hh.out⟩

set_option maxRecDepth 100000 in
set_option maxHeartbeats 1000000 in
theorem near_any (d : Dt) (f : Nat → Int) (u : Int) (g B : Nat) (w : World) (hu : f d.1.toNat = u) (hd : 0 ≤ d.1 ∧ d.1 ≤ 64) (hf : 0 ≤ u ∧ u ≤ 4294967295) (hC : Cm w g f) (hb : w.cell? ⟨B, 0, none⟩ = some (.pointer (some ⟨g, 0, none⟩))) :
    Calls Try.prog 74 #[dv d, .pointer (some ⟨B, 0, none⟩)] w fun e w' => e = .returned (.bool (decide (d.2 ≤ u + 1))) ∧ Below w.heap.size w w' := by
  obtain ⟨z, y⟩ := d
  obtain ⟨q, rfl⟩ : ∃ q : Nat, z = (q : Int) := ⟨z.toNat, by simp only at hd; omega⟩
  have hn : q < 65 := by simp only at hd; omega
  have hix := ix_cn6 g q (q : Int) rfl hn
  have hB := bel_box w (.cells #[.int .i64 (q : Int), .int .i64 y] 38)
  have c0 := (hC.keep hB q hn).1
  have c1 := (hB.cell (p := ⟨B, 0, none⟩) (lt_of_cell hb)).trans hb
  simp only [Int.toNat_natCast] at hu
  rw [hu] at c0
  have hw : IntKind.i64.wrap (u + 1) = u + 1 := by
    have h1 := hf.1
    have h2 := hf.2
    simp [IntKind.wrap, IntKind.signed, IntKind.bits]
    omega
  have k0 : (w.alloc (.cells #[.int .i64 (q : Int), .int .i64 y] 38)).cell? ⟨w.heap.size, 0, none⟩ = some (.int .i64 (q : Int)) := by go_simp
  have k1 : (w.alloc (.cells #[.int .i64 (q : Int), .int .i64 y] 38)).cell? ⟨w.heap.size, 1, none⟩ = some (.int .i64 y) := by go_simp
  have HB := Lib.hid hB
  have HF := Lib.hid hf
  clear hd hC hb hB hf hu
  go_enter Try.func74, Try.ntmps74
  go_wp2_with fail
  generalize w.alloc (.cells #[.int .i64 (q : Int), .int .i64 y] 38) = w1 at *
  go_quiet (fail)
  go_wp2_with fail
  go_ret
  exact ⟨rfl, bel_drewN HB.out _⟩

theorem enters_near : ∀ args w, (callFunc 74 args).run Try.prog w = .ok (.enter 74 args) w := enters_of Try.func74 (by kernel_rfl) rfl
set_option maxRecDepth 100000 in
theorem nearTo_any (g : Nat) (w : World) : Calls Try.prog 48 #[.pointer (some ⟨g, 0, none⟩)] w fun e w' => e = .returned (.func (.func 74) #[] #[.pointer (some ⟨w.heap.size, 0, none⟩)]) ∧ w'.cell? ⟨w.heap.size, 0, none⟩ = some (.pointer (some ⟨g, 0, none⟩)) ∧ Below w.heap.size w w' := by
  go_enter Try.func48, Try.ntmps48
  go_wp2_with fail
  go_ret
  refine ⟨rfl, ?_, bel_box _ _⟩
  go_simp
theorem OD.kb {w w' : World} {base : Nat} {E : TypeId} {v : Value} {l : List Dt} {row : Option Nat} (h : OD w base E v l) (hg : w.grownBy w' row) (hne : ∀ k, v.ownBlock = some k → row ≠ some k) : OD w' base E v l := by
  refine h.keep hg ?_
  rcases hv : v.ownBlock with _ | k
  · exact .inl rfl
  · exact .inr fun e => hne k hv e.symm

theorem nilV : ∀ (w : World) (a : Option Addr) (n c n' c' : Nat), (binOp .eql 23 (.slice a n c) (.slice none n' c')).run Try.prog w = .ok (.bool a.isNone) w := fun w a n c n' c' => Lib.run_eql_slice_nil w _ _ a n c n' c' Try.underlying23
set_option maxRecDepth 100000 in
set_option maxHeartbeats 1000000 in
theorem cloneV (l : List Dt) (a : Option Addr) (c : Nat) (w : World) (hrow : RowD w a l) (hnil : a = none → c = 0) (hlen : l.length ≤ 1000000) :
    Calls Try.prog 76 #[.slice a l.length c] w fun e w' => ∃ v, e = .returned v ∧ OD w' w.heap.size E v l ∧ Below w.heap.size w w' := by
  have HR := Lib.hid hrow
  have HL := Lib.hid hlen
  rcases a with _ | ad
  · have hl : l = [] := by
      rcases hrow with h | ⟨_, _, e, _⟩
      · exact h
      · cases e
    subst hl
    clear hrow hlen hnil
    have q := nilV
    go_enter Try.func76, Try.ntmps76
    go_wp2_with fail
    go_ret
    exact ⟨_, rfl, OD.nil _ _ _, Below.refl _ _⟩
  · clear hrow hlen
    have q := nilV
    have HN := Lib.hid hnil
    clear hnil
    have HO : Hid (OD (w.alloc (.cells #[] 38)) w.heap.size E (.slice (some ⟨w.heap.size, 0, none⟩) 0 0) []) := World.ownsRow_made (base := w.heap.size) (size := 2) (e := 38) w #[] 0 (Nat.le_refl _) (Nat.zero_le _) rfl
    have HB : Hid (Below w.heap.size w (w.alloc (.cells #[] 38))) := (Below.refl _ _).alloc (Nat.le_refl _) _
    go_enter Try.func76, Try.ntmps76
    go_wp2_with (at_builtin; refine wpList_appD rfl _ _ _ rfl Try.underlying23 infoD _ _ rfl HO.out (some ad) l c rfl (HR.out.keep HB.out) HN.out (by have := HL.out; simp; omega) HB.out.size ?_)
    intro v' w' ho hg _
    have HO2 : Hid (OD w' w.heap.size E v' l) := ho
    have HB2 := Lib.hid (HB.out.grown hg HB.out.size (fun k hk => (HO.out.lt k hk).1))
    clear ho hg
    go_wp2_with fail
    go_ret
    exact ⟨_, rfl, HO2.out, HB2.out⟩
end Go.Proofs.Ytefnoajkdhgonaa.F
end

/-
  The program's pass over a cloud.
-/
section
namespace Go.Proofs.Ytefnoajkdhgonaa.F
set_option linter.unusedVariables false
open Go.RowKit V Go.Sort D
open E (Cm upd Vd getV vd_cons get_none hasV get_ge)

/-- Two cells that may be written. -/
def Wc (w : World) (g : Nat) : Prop := ∀ i, i < 2 → (∃ v, w.cell? ⟨g, i, none⟩ = some v) ∧ w.frozen? ⟨g, i, none⟩ = false
/-- What stands below the rows of the pass: the box, the room for the result, the counters, the question. -/
structure Kc (h g b base : Nat) (x y : Value) (f : Nat → Int) (w : World) : Prop where
  o1 : h + 1 < g
  o2 : g < b
  o3 : b < base
  o4 : base ≤ w.heap.size
  bx : Bc w h x y
  rs : Wc w (h + 1)
  cm : Cm w g f
  nr : w.cell? ⟨b, 0, none⟩ = some (.pointer (some ⟨g, 0, none⟩))
section
variable {h g b base : Nat} {x y : Value} {f : Nat → Int} {w w' : World}
theorem Kc.keep (k : Kc h g b base x y f w) (hb : Below base w w') : Kc h g b base x y f w' := by
  have h1 := k.o1
  have h2 := k.o2
  have h3 := k.o3
  exact {
    o1 := h1
    o2 := h2
    o3 := h3
    o4 := Nat.le_trans k.o4 hb.size
    bx := ⟨(hb.cell (p := ⟨h, 0, none⟩) (by show h < base; omega)).trans k.bx.1, (hb.cell (p := ⟨h, 1, none⟩) (by show h < base; omega)).trans k.bx.2⟩
    rs := fun i hi => by
      obtain ⟨⟨v, hv⟩, hf⟩ := k.rs i hi
      exact ⟨⟨v, (hb.cell (p := ⟨h + 1, i, none⟩) (by show h + 1 < base; omega)).trans hv⟩, (hb.frozen (p := ⟨h + 1, i, none⟩) (by show h + 1 < base; omega)).trans hf⟩
    cm := fun i hi => ⟨(hb.cell (p := ⟨g, i, none⟩) (by show g < base; omega)).trans (k.cm i hi).1, (hb.frozen (p := ⟨g, i, none⟩) (by show g < base; omega)).trans (k.cm i hi).2⟩
    nr := (hb.cell (p := ⟨b, 0, none⟩) (by show b < base; omega)).trans k.nr }
theorem Kc.set (k : Kc h g b base x y f w) {n : Nat} (hn : n < 65) (z : Int) : Kc h g b base x y (upd f n z) (w.setCell ⟨g, n, none⟩ (.int .i64 z)) := by
  have h1 := k.o1
  have h2 := k.o2
  have h3 := k.o3
  exact {
    o1 := h1
    o2 := h2
    o3 := h3
    o4 := by have := k.o4; simpa [World.setCell] using this
    bx := ⟨(World.cell?_setCell_other _ _ _ _ (by first | (simp; done) | (simp; omega))).trans k.bx.1, (World.cell?_setCell_other _ _ _ _ (by first | (simp; done) | (simp; omega))).trans k.bx.2⟩
    rs := fun i hi => by
      obtain ⟨⟨v, hv⟩, hf⟩ := k.rs i hi
      exact ⟨⟨v, (World.cell?_setCell_other _ _ _ _ (by first | (simp; done) | (simp; omega))).trans hv⟩, by rw [World.frozen?_setCell]; exact hf⟩
    cm := k.cm.set hn z
    nr := (World.cell?_setCell_other _ _ _ _ (by first | (simp; done) | (simp; omega))).trans k.nr }
end

theorem get_le {v : List Dt} (hv : Vd v) (r : Int) : getV v r ≤ 4294967295 := by
  rcases Int.lt_or_le 0 (getV v r) with h | h
  · exact (valid_iff.1 (hv.1 _ (E.get_pos hv h))).2.2.2
  · omega
/-- Two rows that are not the same one. -/
def Apt (u v : Value) : Prop := ∀ g, u.ownBlock = some g → v.ownBlock ≠ some g
theorem Apt.symm {u v : Value} (h : Apt u v) : Apt v u := fun g hv hu => h g hu hv
theorem Apt.none (u : Value) : Apt u (.slice none 0 0) := fun g _ h => by cases h
theorem Apt.grew {w : World} {u v v' : Value} (h : Apt u v) (hg : G.Grew w v v') (hu : ∀ g, u.ownBlock = some g → g < w.heap.size) : Apt u v' := fun g hg1 hg2 => by
  rcases hg with e | e
  · exact h g hg1 (by rw [← e]; exact hg2)
  · rw [e] at hg2
    cases hg2
    have := hu _ hg1
    omega

theorem put_two {w : World} {h : Nat} {x y : Value} (k : Wc w h) : Bc ((w.setCell ⟨h, 0, none⟩ x).setCell ⟨h, 1, none⟩ y) h x y := by
  obtain ⟨⟨u, r0⟩, r1⟩ := k 0 (by omega)
  obtain ⟨⟨v, r2⟩, r3⟩ := k 1 (by omega)
  constructor
  · rw [World.cell?_setCell_other _ _ _ _ (by simp)]
    exact World.cell?_setCell_same' _ _ _ (by rw [r0]; rfl)
  · exact World.cell?_setCell_same' _ _ _ (by rw [World.cell?_setCell_other _ _ _ _ (by simp), r2]; rfl)
theorem OD.set {w : World} {base : Nat} {v : Value} {l : List Dt} (h : OD w base E v l) (g i : Nat) (z : Value) (hg : g < base) : OD (w.setCell ⟨g, i, none⟩ z) base E v l :=
  OD.kb h (gb_setCell w g i z) fun k hk e => by cases e; have := (h.lt _ hk).1; omega

set_option maxRecDepth 100000 in
set_option maxHeartbeats 2000000 in
theorem compacted_any (xs ys : List Dt) (a b : Option Addr) (n m : Nat) (w : World) (hv : Vc (xs, ys)) (hx : RowD w a xs) (hy : RowD w b ys) (hna : a = none → n = 0) (hlx : xs.length ≤ 900000) (hly : ys.length ≤ 900000) :
    Calls Try.prog 55 #[cv (.slice a xs.length n) (.slice b ys.length m)] w fun e w' => ∃ x y, e = .returned (cv x y) ∧ OD w' w.heap.size E x (compC (xs, ys)).1 ∧ OD w' w.heap.size E y (compC (xs, ys)).2 ∧ Below w.heap.size w w' := by
  have HIv := Lib.hid (fun k hk => inv_all hv.1 hv.2.2 k hk)
  have HEo := Lib.hid (end_of hv.1 hv.2.2)
  have HEr := Lib.hid (end_rest xs ys)
  have HVy : Hid (∀ k (hk : k < ys.length), validR ys[k] = true) := fun k hk => hv.2.2 _ (List.getElem_mem hk)
  have HCo := Lib.hid (fun w h => countersOf_any xs a n w hv.1 h (by omega))
  have HCl := Lib.hid (fun w h => cloneV xs a n w h hna (by omega))
  have HLx := Lib.hid hlx
  have HLy := Lib.hid hly
  have HX := Lib.hid hx
  have HY := Lib.hid hy
  have HY0 := Lib.hid hy
  have hlj : (ys.length : Int) ≤ 900000 := by omega
  generalize compC (xs, ys) = C at *
  have HB := Lib.hid (bel_box w (cbox (.slice a xs.length n) (.slice b ys.length m)))
  have HT := Lib.hid (two_new w (.slice a xs.length n) (.slice b ys.length m))
  clear hv hx hy hna hlx hly
  go_enter Try.func55, Try.ntmps55
  go_wp2_with fail
  have hb := bel_box (w.alloc (cbox (.slice a xs.length n) (.slice b ys.length m))) (cbox (.slice none 0 0) (.slice none 0 0))
  have HWc : Hid (Wc ((w.alloc (cbox (.slice a xs.length n) (.slice b ys.length m))).alloc (cbox (.slice none 0 0) (.slice none 0 0))) (w.heap.size + 1)) := by
    intro i hi
    rcases i with _ | _ | i
    · exact ⟨⟨_, by go_simp; rfl⟩, by go_simp⟩
    · exact ⟨⟨_, by go_simp; rfl⟩, by go_simp⟩
    · omega
  have hsz : ((w.alloc (cbox (.slice a xs.length n) (.slice b ys.length m))).alloc (cbox (.slice none 0 0) (.slice none 0 0))).heap.size = w.heap.size + 2 := by simp
  replace HT := Lib.hid (HT.out.keep hb)
  replace HB := bel_tr HB hb
  clear hb
  generalize (w.alloc (cbox (.slice a xs.length n) (.slice b ys.length m))).alloc (cbox (.slice none 0 0) (.slice none 0 0)) = w1 at *
  replace HX := Lib.hid (HX.out.keep HB.out)
  replace HY := Lib.hid (HY.out.keep HB.out)
  refine (HCo.out _ HX.out).mono ?_
  rintro e w2 ⟨g, rfl, f, hcm, hf, hge, hb⟩
  have HCm := Lib.hid hcm
  have HF := Lib.hid hf
  have HG : Hid (w.heap.size + 1 < g) := by show _ < _; omega
  have HGl := Lib.hid hcm.lt
  replace HT := Lib.hid (HT.out.keep hb)
  replace HX := Lib.hid (HX.out.keep hb)
  replace HY := Lib.hid (HY.out.keep hb)
  have HWc2 : Hid (Wc w2 (w.heap.size + 1)) := fun i hi => by
    obtain ⟨⟨v, hv⟩, hf⟩ := HWc.out i hi
    exact ⟨⟨v, (hb.cell (p := ⟨w.heap.size + 1, i, none⟩) (by show w.heap.size + 1 < _; omega)).trans hv⟩, (hb.frozen (p := ⟨w.heap.size + 1, i, none⟩) (by show w.heap.size + 1 < _; omega)).trans hf⟩
  replace HB := bel_tr HB hb
  clear hcm hf hge hb HCo HWc hsz
  go_wp2_with fail
  refine (nearTo_any g w2).mono ?_
  rintro e w3 ⟨rfl, hnr, hb⟩
  have HN := Lib.hid hnr
  replace HT := Lib.hid (HT.out.keep hb)
  replace HX := Lib.hid (HX.out.keep hb)
  replace HY := Lib.hid (HY.out.keep hb)
  replace HCm := Lib.hid (HCm.out.keep hb)
  have HWc3 : Hid (Wc w3 (w.heap.size + 1)) := fun i hi => by
    obtain ⟨⟨v, hv⟩, hf⟩ := HWc2.out i hi
    have h1 := HGl.out
    have h2 := HG.out
    exact ⟨⟨v, (hb.cell (p := ⟨w.heap.size + 1, i, none⟩) (by show w.heap.size + 1 < _; omega)).trans hv⟩, (hb.frozen (p := ⟨w.heap.size + 1, i, none⟩) (by show w.heap.size + 1 < _; omega)).trans hf⟩
  have HN2 : Hid (w2.heap.size < w3.heap.size) := lt_of_cell hnr
  replace HB := bel_tr HB hb
  have HK : Hid (Kc w.heap.size g w2.heap.size w3.heap.size (.slice a xs.length n) (.slice b ys.length m) f w3) := {
    o1 := HG.out
    o2 := HGl.out
    o3 := HN2.out
    o4 := Nat.le_refl _
    bx := HT.out
    rs := HWc3.out
    cm := HCm.out
    nr := HN.out }
  clear hnr hb HWc2 HWc3 HCm HN HT HG HGl HN2
  generalize w2.heap.size = B at *
  have k0 := HK.out.bx.1
  go_wp2_with fail
  refine (HCl.out _ HX.out).mono ?_
  rintro e w4 ⟨v4, rfl, ho, hb⟩
  have HO := Lib.hid ho
  replace HY := Lib.hid (HY.out.keep hb)
  replace HK := Lib.hid (HK.out.keep hb)
  replace HB := bel_tr HB hb
  clear ho hb HCl k0
  have k1 := HK.out.bx.2
  go_wp2_with fail
  clear k1 HX
  have HF0 : Hid (∀ i : Nat, f i = getV (stK xs ys 0).1.1 i) := HF.out
  have HO0 : Hid (OD w4 w3.heap.size E v4 (stK xs ys 0).2) := HO.out
  have HU0 : Hid (OD w4 w3.heap.size E (.slice none 0 0) (stK xs ys 0).1.2) := OD.nil _ _ _
  clear HF HO
  generalize w3.heap.size = base at *
  go_loopw [5, 6, 8, 22] (fun v u _ i wr => ∃ k : Nat, k ≤ ys.length ∧ i = .int .i64 (k : Int) ∧ Hid (∃ f, (∀ i : Nat, f i = getV (stK xs ys k).1.1 i) ∧ Kc w.heap.size g B base (.slice a xs.length n) (.slice b ys.length m) f wr) ∧ Hid (Below w.heap.size w wr) ∧ Hid (OD wr base E v (stK xs ys k).2) ∧ Hid (OD wr base E u (stK xs ys k).1.2) ∧ Hid (Apt v u)) (fun _ _ _ i _ => ys.length - (intOf i).toNat)
  case atStart => exact ⟨0, Nat.zero_le _, rfl, ⟨f, HF0.out, HK.out⟩, HB, HO0, HU0, Apt.none _⟩
  case round =>
    obtain ⟨k, hk, rfl, hKf, hh, HO, HU, HA⟩ := hrel
    clear HF0 HO0 HU0 HK HB
    obtain ⟨f2, hf2, hK2⟩ := hKf.out
    have HK := Lib.hid hK2
    have HF := Lib.hid hf2
    clear hKf hf2 hK2
    by_cases hlt : k < ys.length
    · have hi1 : (k : Int) < (ys.length : Int) := by omega
      obtain ⟨b1, o1, rfl, p0, p1⟩ := HY0.out.get hh.out k hlt
      have HIk := HIv.out k hk
      have hvp := HVy.out k hlt
      have HNd := Lib.hid (near_dec (v := (stK xs ys k).1.1) hvp)
      have HNg := Lib.hid (fun h => near_get HIk hlt hvp h)
      have HNn := Lib.hid (fun h => stK_near (v := xs) hlt h)
      have HNf := Lib.hid (fun h => stK_far (v := xs) hlt h)
      have hge := get_ge HIk.vd ys[k].1
      have hle := get_le HIk.vd ys[k].1
      have HBl := Lib.hid HIk.bl
      have HRl := Lib.hid HIk.rl
      obtain ⟨p, hp⟩ : ∃ p, p = ys[k] := ⟨_, rfl⟩
      rw [← hp] at p0 p1 hvp HNd HNg HNn HNf hge hle
      clear hp HIk
      have hvi := valid_iff.1 hvp
      obtain ⟨z, y⟩ := p
      obtain ⟨q, rfl⟩ : ∃ q : Nat, z = (q : Int) := ⟨z.toNat, by simp only at hvi; omega⟩
      have hfq := HF.out q
      simp only at hge hle HNd HNg hvi
      rw [← hfq] at hge hle HNd
      obtain ⟨u, hu⟩ : ∃ u, u = f2 q := ⟨_, rfl⟩
      rw [← hu] at hge hle HNd
      have hBa : Below wr.heap.size wr (wr.alloc (Obj.cells #[.int .i64 (q : Int), .int .i64 y] 38)) := (Below.refl _ _).alloc (Nat.le_refl _) _
      have HBs := Lib.hid HK.out.o4
      have HK1 := Lib.hid (HK.out.keep (hBa.mono HK.out.o4))
      have HO1 := Lib.hid (HO.out.below hBa)
      have HU1 := Lib.hid (HU.out.below hBa)
      have HB1 := bel_tr hh hBa
      have HNr := Lib.hid (near_any ((q : Int), y) f2 u g B (wr.alloc (Obj.cells #[.int .i64 (q : Int), .int .i64 y] 38)) (by simp only [Int.toNat_natCast]; exact hu.symm) ⟨by simp only; omega, by simp only; omega⟩ ⟨hge, hle⟩ HK1.out.cm HK1.out.nr)
      have HD1 : Hid (Bd wr.heap.size (q : Int) y (wr.alloc (Obj.cells #[.int .i64 (q : Int), .int .i64 y] 38))) := by refine ⟨?_, ?_⟩ <;> go_simp
      have hn : q < 65 := by omega
      have HUv : Hid (u = f2 q) := hu
      clear hu hfq hBa hvi hvp hge hle
      have eg := enters_near
      go_wp2_with fail
      generalize wr.alloc (Obj.cells #[.int .i64 (q : Int), .int .i64 y] 38) = w5 at *
      refine HNr.out.mono ?_
      rintro e w6 ⟨rfl, hb⟩
      replace HK1 := Lib.hid (HK1.out.keep (hb.mono HK1.out.o4))
      replace HO1 := Lib.hid (HO1.out.below hb)
      replace HU1 := Lib.hid (HU1.out.below hb)
      replace HD1 := Lib.hid (HD1.out.keep hb)
      replace HB1 := bel_tr HB1 hb
      clear hb HNr eg p0 p1
      have k0 := HD1.out.1
      have k1 := HD1.out.2
      rcases hny : decide (y ≤ u + 1) with _ | _
      · have hnf := HNf.out (HNd.out.trans hny)
        have HL1 : Hid ((stK xs ys k).1.2.length ≤ 900000) := by show _ ≤ _; have := HRl.out; have := HLy.out; omega
        have HF2 : Hid (∀ i : Nat, f2 i = getV (stK xs ys (k + 1)).1.1 i) := fun i => by rw [hnf.2.2]; exact HF.out i
        have HV2 : Hid ((stK xs ys (k + 1)).2 = (stK xs ys k).2) := hnf.2.1
        have HR2 : Hid ((stK xs ys (k + 1)).1.2 = (stK xs ys k).1.2 ++ [((q : Int), y)]) := hnf.1
        clear hnf hny HNf HNn HNg HNd
        have hBa := bel_box w6 (Obj.cells #[.int .i64 (q : Int), .int .i64 y] 38)
        have HBs6 := Lib.hid HK1.out.o4
        go_wp2_with (at_builtin; refine wpList_appD rfl _ _ _ rfl Try.underlying22 infoD _ _ rfl (HU1.out.below hBa) (some ⟨w6.heap.size, 0, none⟩) [((q : Int), y)] 1 rfl (lit_one w6 ((q : Int), y) _) (fun h => by cases h) (by have := HL1.out; simp; omega) (by have := HBs6.out; simp; omega) ?_)
        intro v7 w7 ho hg hgr
        have HU7 : Hid (OD w7 base E v7 ((stK xs ys k).1.2 ++ [((q : Int), y)])) := ho
        have hlt6 : base ≤ (w6.alloc (Obj.cells #[.int .i64 (q : Int), .int .i64 y] 38)).heap.size := by have := HBs6.out; simp; omega
        have hb7 : Below base (w6.alloc (Obj.cells #[.int .i64 (q : Int), .int .i64 y] 38)) w7 := (Below.refl _ _).grown hg hlt6 (fun j hj => (HU1.out.lt j hj).1)
        have HK7 := Lib.hid ((HK1.out.keep (hBa.mono HBs6.out)).keep hb7)
        have HO7 : Hid (OD w7 base E u5 (stK xs ys k).2) := OD.kb (HO1.out.below hBa) hg fun j hj e => HA.out j hj e
        have HA7 : Hid (Apt u5 v7) := HA.out.grew hgr fun j hj => by have := (HO1.out.lt j hj).2; simp; omega
        have HB7 : Hid (Below w.heap.size w w7) := HB1.out.trans ((hBa.mono HB1.out.size).trans (hb7.mono (by have := HK1.out.o1; have := HK1.out.o2; have := HK1.out.o3; omega)))
        clear ho hg hgr hlt6 hb7 hBa k0 k1
        go_wp2_with fail
        go_roundw
        case rel => exact ⟨k + 1, by omega, by go_num, ⟨f2, HF2.out, HK7.out⟩, HB7, by show OD _ _ _ _ _; rw [HV2.out]; exact HO7.out, by show OD _ _ _ _ _; rw [HR2.out]; exact HU7.out, HA7⟩
        case measure => simp [intOf]; omega
      · have hnt := HNd.out.trans hny
        have hnn := HNn.out hnt
        have hng := HNg.out hnt
        have HL1 : Hid ((stK xs ys k).2.length ≤ 1800000) := by show _ ≤ _; have := HBl.out; have := HLx.out; have := HLy.out; omega
        have HF2 : Hid (∀ i : Nat, upd f2 q (max u y) i = getV (stK xs ys (k + 1)).1.1 i) := fun i => by
          rw [hng]
          unfold upd
          by_cases e : i = q
          · subst e
            rw [if_pos rfl, if_pos rfl, ← HF.out, HUv.out]
          · rw [if_neg e, if_neg (by omega)]
            exact HF.out i
        have HR2 : Hid ((stK xs ys (k + 1)).1.2 = (stK xs ys k).1.2) := hnn.1
        have HV2 : Hid ((stK xs ys (k + 1)).2 = (stK xs ys k).2 ++ [((q : Int), y)]) := hnn.2
        clear hnt hnn hng hny HNf HNn HNg HNd k0 k1
        have hix := ix_cn6 g q (q : Int) rfl hn
        have H0 := Lib.hid (fun w2 (h : Bd wr.heap.size (q : Int) y w2) => load_int (w := w2) h.1)
        have H1 := Lib.hid (fun w2 (h : Bd wr.heap.size (q : Int) y w2) => load_int (w := w2) h.2)
        have HS : Hid (Bd wr.heap.size (q : Int) y w6.drew) := HD1.out
        go_wp2_with fail
        refine Sch.wp_region_tree (Bd wr.heap.size (q : Int) y) (.take 0 (.take 1 (.take 2 (.take 3 (.take 4 (.take 5 (.take 9 (.take 10 (.two 6 (.take 7 (.two 8 (.two 11 (.one 12 (.take 13 (.one 14 .done))) 12 (.one 11 (.take 13 (.one 14 .done)))) 12 (.one 8 (.one 11 (.take 13 (.one 14 .done)))))) 12 (.one 6 (.take 7 (.one 8 (.one 11 (.take 13 (.one 14 .done))))))))))))))) (by kernel_rfl) (by kernel_rfl) HS.out ?_
        have hdr : Below w6.heap.size w6 w6.drew := (Below.refl _ _).drew
        have HK2 := Lib.hid (HK1.out.keep (hdr.mono HK1.out.o4))
        have HO2 := Lib.hid (HO1.out.below hdr)
        have HU2 := Lib.hid (HU1.out.below hdr)
        have HB2 : Hid (Below w.heap.size w w6.drew) := HB1.out.drew
        have HZ : Hid (wr.heap.size < w6.drew.heap.size) := lt_of_cell HD1.out.1
        clear hdr HK1 HO1 HU1 HB1 HD1
        generalize w6.drew = w7 at *
        have q0 : w7.cell? ⟨g, q, none⟩ = some (.int .i64 u) := by rw [HUv.out]; exact (HK2.out.cm q hn).1
        have q1 : w7.frozen? ⟨g, q, none⟩ = false := (HK2.out.cm q hn).2
        repeat (first
          | (refine tree_load _ _ _ _ _ rfl rfl rfl rfl (by first | exact H0.out | exact H1.out) rfl ?_; simp only [Act.put, List.setIfInBounds_toArray, List.set_cons_zero, List.set_cons_succ])
          | (refine Sch.tree_q rfl rfl (fun K hK => ?_); go_big_quiet_op; (first | refine hK _ ?_ | refine ⟨_, fun _ _ => rfl, hK _ ?_⟩); clear hK K))
        have HS2 : Hid (∀ z, Bd wr.heap.size (q : Int) y (w7.setCell ⟨g, q, none⟩ (.int .i64 z))) := fun z => by
          have h1 := HK2.out.o2
          have h2 := HK2.out.o3
          have h3 := HBs.out
          constructor
          · rw [World.cell?_setCell_other _ _ _ _ (by first | (simp; done) | (simp; omega))]; exact HS.out.1
          · rw [World.cell?_setCell_other _ _ _ _ (by first | (simp; done) | (simp; omega))]; exact HS.out.2
        have HEnd : Hid (∀ z, z = max u y → ∀ W, W = w7.setCell ⟨g, q, none⟩ (.int .i64 z) → Kc w.heap.size g B base (.slice a xs.length n) (.slice (some ⟨b1, o1, none⟩) ys.length m) (upd f2 q (max u y)) W ∧ OD W base E u5 (stK xs ys k).2 ∧ OD W base E u6 (stK xs ys k).1.2 ∧ Below w.heap.size w W ∧ Bd wr.heap.size (q : Int) y W) := by
          rintro z hz W rfl
          subst hz
          have h2 := HK2.out.o2
          have h3 := HK2.out.o3
          have h1 := HK2.out.o1
          exact ⟨HK2.out.set hn _, OD.set HO2.out g q _ (by omega), OD.set HU2.out g q _ (by omega), HB2.out.setCell (p := ⟨g, q, none⟩) (by show _ ≤ g; omega) _, HS2.out _⟩
        by_cases hmx : y ≤ u
        · have hz : u = max u y := by omega
          have HM := Lib.hid (HEnd.out u hz)
          clear hz HEnd
          refine Sch.tree_two ?_ ?_
          · refine Sch.tree_e rfl rfl (fun K hK => ?_)
            go_wp2_with fail
            refine hK _ _ HS.out ?_
            clear hK K
            refine Sch.tree_q rfl rfl (fun K hK => ?_)
            go_big_quiet_op
            first | refine hK _ ?_ | refine ⟨_, fun _ _ => rfl, hK _ ?_⟩
            clear hK K
            refine Sch.tree_two ?_ ?_
            · refine Sch.tree_e rfl rfl (fun K hK => ?_)
              go_wp2_with fail
              refine hK _ _ HS.out ?_
              clear hK K
              refine Sch.tree_two ?_ ?_
              · refine Sch.tree_e rfl rfl (fun K hK => ?_)
                go_wp2_with fail
                refine hK _ _ HS.out ?_
                clear hK K
                refine Sch.tree_e rfl rfl (fun K hK => ?_)
                go_wp2_with fail
                refine hK _ _ HS.out ?_
                clear hK K
                refine Sch.tree_q rfl rfl (fun K hK => ?_)
                go_big_quiet_op
                first | refine hK _ ?_ | refine ⟨_, fun _ _ => rfl, hK _ ?_⟩
                clear hK K
                refine Sch.tree_e rfl rfl (fun K hK => ?_)
                go_wp2_with fail
                refine hK _ _ (HS2.out _) ?_
                clear hK K
                refine Sch.tree_n ?_
                generalize hW : w7.setCell ⟨g, q, none⟩ (.int .i64 u) = W at *
                obtain ⟨hk8, ho8, hu8, hb8, hd8⟩ := HM.out W rfl
                have HK8 := Lib.hid hk8
                have HO8 := Lib.hid ho8
                have HU8 := Lib.hid hu8
                have HB8 := Lib.hid hb8
                have k0 := hd8.1
                have k1 := hd8.2
                have hBa := bel_box W (Obj.cells #[.int .i64 (q : Int), .int .i64 y] 38)
                have HBs8 := Lib.hid HK8.out.o4
                clear hW hk8 ho8 hu8 hb8 hd8 q0 q1 HM
                go_wp2_with (at_builtin; refine wpList_appD rfl _ _ _ rfl Try.underlying23 infoD _ _ rfl (HO8.out.below hBa) (some ⟨W.heap.size, 0, none⟩) [((q : Int), y)] 1 rfl (lit_one W ((q : Int), y) _) (fun h => by cases h) (by have := HL1.out; simp; omega) (by have := HBs8.out; simp; omega) ?_)
                intro v9 w9 ho hg hgr
                have HO9 : Hid (OD w9 base E v9 ((stK xs ys k).2 ++ [((q : Int), y)])) := ho
                have hlt6 : base ≤ (W.alloc (Obj.cells #[.int .i64 (q : Int), .int .i64 y] 38)).heap.size := by have := HBs8.out; simp; omega
                have hb9 : Below base (W.alloc (Obj.cells #[.int .i64 (q : Int), .int .i64 y] 38)) w9 := (Below.refl _ _).grown hg hlt6 (fun j hj => (HO8.out.lt j hj).1)
                have HK9 := Lib.hid ((HK8.out.keep (hBa.mono HBs8.out)).keep hb9)
                have HU9 : Hid (OD w9 base E u6 (stK xs ys k).1.2) := OD.kb (HU8.out.below hBa) hg fun j hj e => HA.out.symm j hj e
                have HA9 : Hid (Apt v9 u6) := (HA.out.symm.grew hgr fun j hj => by have := (HU8.out.lt j hj).2; simp; omega).symm
                have HB9 : Hid (Below w.heap.size w w9) := HB8.out.trans ((hBa.mono HB8.out.size).trans (hb9.mono (by have := HK8.out.o1; have := HK8.out.o2; have := HK8.out.o3; omega)))
                clear ho hg hgr hlt6 hb9 hBa k0 k1
                go_wp2_with fail
                go_roundw
                case rel => exact ⟨k + 1, by omega, by go_num, ⟨_, HF2.out, HK9.out⟩, HB9, by show OD _ _ _ _ _; rw [HV2.out]; exact HO9.out, by show OD _ _ _ _ _; rw [HR2.out]; exact HU9.out, HA9⟩
                case measure => simp [intOf]; omega
              · refine Sch.tree_e rfl rfl (fun K hK => ?_)
                go_wp2_with fail
                refine hK _ _ HS.out ?_
                clear hK K
                refine Sch.tree_e rfl rfl (fun K hK => ?_)
                go_wp2_with fail
                refine hK _ _ HS.out ?_
                clear hK K
                refine Sch.tree_q rfl rfl (fun K hK => ?_)
                go_big_quiet_op
                first | refine hK _ ?_ | refine ⟨_, fun _ _ => rfl, hK _ ?_⟩
                clear hK K
                refine Sch.tree_e rfl rfl (fun K hK => ?_)
                go_wp2_with fail
                refine hK _ _ (HS2.out _) ?_
                clear hK K
                refine Sch.tree_n ?_
                generalize hW : w7.setCell ⟨g, q, none⟩ (.int .i64 u) = W at *
                obtain ⟨hk8, ho8, hu8, hb8, hd8⟩ := HM.out W rfl
                have HK8 := Lib.hid hk8
                have HO8 := Lib.hid ho8
                have HU8 := Lib.hid hu8
                have HB8 := Lib.hid hb8
                have k0 := hd8.1
                have k1 := hd8.2
                have hBa := bel_box W (Obj.cells #[.int .i64 (q : Int), .int .i64 y] 38)
                have HBs8 := Lib.hid HK8.out.o4
                clear hW hk8 ho8 hu8 hb8 hd8 q0 q1 HM
                go_wp2_with (at_builtin; refine wpList_appD rfl _ _ _ rfl Try.underlying23 infoD _ _ rfl (HO8.out.below hBa) (some ⟨W.heap.size, 0, none⟩) [((q : Int), y)] 1 rfl (lit_one W ((q : Int), y) _) (fun h => by cases h) (by have := HL1.out; simp; omega) (by have := HBs8.out; simp; omega) ?_)
                intro v9 w9 ho hg hgr
                have HO9 : Hid (OD w9 base E v9 ((stK xs ys k).2 ++ [((q : Int), y)])) := ho
                have hlt6 : base ≤ (W.alloc (Obj.cells #[.int .i64 (q : Int), .int .i64 y] 38)).heap.size := by have := HBs8.out; simp; omega
                have hb9 : Below base (W.alloc (Obj.cells #[.int .i64 (q : Int), .int .i64 y] 38)) w9 := (Below.refl _ _).grown hg hlt6 (fun j hj => (HO8.out.lt j hj).1)
                have HK9 := Lib.hid ((HK8.out.keep (hBa.mono HBs8.out)).keep hb9)
                have HU9 : Hid (OD w9 base E u6 (stK xs ys k).1.2) := OD.kb (HU8.out.below hBa) hg fun j hj e => HA.out.symm j hj e
                have HA9 : Hid (Apt v9 u6) := (HA.out.symm.grew hgr fun j hj => by have := (HU8.out.lt j hj).2; simp; omega).symm
                have HB9 : Hid (Below w.heap.size w w9) := HB8.out.trans ((hBa.mono HB8.out.size).trans (hb9.mono (by have := HK8.out.o1; have := HK8.out.o2; have := HK8.out.o3; omega)))
                clear ho hg hgr hlt6 hb9 hBa k0 k1
                go_wp2_with fail
                go_roundw
                case rel => exact ⟨k + 1, by omega, by go_num, ⟨_, HF2.out, HK9.out⟩, HB9, by show OD _ _ _ _ _; rw [HV2.out]; exact HO9.out, by show OD _ _ _ _ _; rw [HR2.out]; exact HU9.out, HA9⟩
                case measure => simp [intOf]; omega
            · refine Sch.tree_e rfl rfl (fun K hK => ?_)
              go_wp2_with fail
              refine hK _ _ HS.out ?_
              clear hK K
              refine Sch.tree_e rfl rfl (fun K hK => ?_)
              go_wp2_with fail
              refine hK _ _ HS.out ?_
              clear hK K
              refine Sch.tree_e rfl rfl (fun K hK => ?_)
              go_wp2_with fail
              refine hK _ _ HS.out ?_
              clear hK K
              refine Sch.tree_q rfl rfl (fun K hK => ?_)
              go_big_quiet_op
              first | refine hK _ ?_ | refine ⟨_, fun _ _ => rfl, hK _ ?_⟩
              clear hK K
              refine Sch.tree_e rfl rfl (fun K hK => ?_)
              go_wp2_with fail
              refine hK _ _ (HS2.out _) ?_
              clear hK K
              refine Sch.tree_n ?_
              generalize hW : w7.setCell ⟨g, q, none⟩ (.int .i64 u) = W at *
              obtain ⟨hk8, ho8, hu8, hb8, hd8⟩ := HM.out W rfl
              have HK8 := Lib.hid hk8
              have HO8 := Lib.hid ho8
              have HU8 := Lib.hid hu8
              have HB8 := Lib.hid hb8
              have k0 := hd8.1
              have k1 := hd8.2
              have hBa := bel_box W (Obj.cells #[.int .i64 (q : Int), .int .i64 y] 38)
              have HBs8 := Lib.hid HK8.out.o4
              clear hW hk8 ho8 hu8 hb8 hd8 q0 q1 HM
              go_wp2_with (at_builtin; refine wpList_appD rfl _ _ _ rfl Try.underlying23 infoD _ _ rfl (HO8.out.below hBa) (some ⟨W.heap.size, 0, none⟩) [((q : Int), y)] 1 rfl (lit_one W ((q : Int), y) _) (fun h => by cases h) (by have := HL1.out; simp; omega) (by have := HBs8.out; simp; omega) ?_)
              intro v9 w9 ho hg hgr
              have HO9 : Hid (OD w9 base E v9 ((stK xs ys k).2 ++ [((q : Int), y)])) := ho
              have hlt6 : base ≤ (W.alloc (Obj.cells #[.int .i64 (q : Int), .int .i64 y] 38)).heap.size := by have := HBs8.out; simp; omega
              have hb9 : Below base (W.alloc (Obj.cells #[.int .i64 (q : Int), .int .i64 y] 38)) w9 := (Below.refl _ _).grown hg hlt6 (fun j hj => (HO8.out.lt j hj).1)
              have HK9 := Lib.hid ((HK8.out.keep (hBa.mono HBs8.out)).keep hb9)
              have HU9 : Hid (OD w9 base E u6 (stK xs ys k).1.2) := OD.kb (HU8.out.below hBa) hg fun j hj e => HA.out.symm j hj e
              have HA9 : Hid (Apt v9 u6) := (HA.out.symm.grew hgr fun j hj => by have := (HU8.out.lt j hj).2; simp; omega).symm
              have HB9 : Hid (Below w.heap.size w w9) := HB8.out.trans ((hBa.mono HB8.out.size).trans (hb9.mono (by have := HK8.out.o1; have := HK8.out.o2; have := HK8.out.o3; omega)))
              clear ho hg hgr hlt6 hb9 hBa k0 k1
              go_wp2_with fail
              go_roundw
              case rel => exact ⟨k + 1, by omega, by go_num, ⟨_, HF2.out, HK9.out⟩, HB9, by show OD _ _ _ _ _; rw [HV2.out]; exact HO9.out, by show OD _ _ _ _ _; rw [HR2.out]; exact HU9.out, HA9⟩
              case measure => simp [intOf]; omega
          · refine Sch.tree_e rfl rfl (fun K hK => ?_)
            go_wp2_with fail
            refine hK _ _ HS.out ?_
            clear hK K
            refine Sch.tree_e rfl rfl (fun K hK => ?_)
            go_wp2_with fail
            refine hK _ _ HS.out ?_
            clear hK K
            refine Sch.tree_q rfl rfl (fun K hK => ?_)
            go_big_quiet_op
            first | refine hK _ ?_ | refine ⟨_, fun _ _ => rfl, hK _ ?_⟩
            clear hK K
            refine Sch.tree_e rfl rfl (fun K hK => ?_)
            go_wp2_with fail
            refine hK _ _ HS.out ?_
            clear hK K
            refine Sch.tree_e rfl rfl (fun K hK => ?_)
            go_wp2_with fail
            refine hK _ _ HS.out ?_
            clear hK K
            refine Sch.tree_q rfl rfl (fun K hK => ?_)
            go_big_quiet_op
            first | refine hK _ ?_ | refine ⟨_, fun _ _ => rfl, hK _ ?_⟩
            clear hK K
            refine Sch.tree_e rfl rfl (fun K hK => ?_)
            go_wp2_with fail
            refine hK _ _ (HS2.out _) ?_
            clear hK K
            refine Sch.tree_n ?_
            generalize hW : w7.setCell ⟨g, q, none⟩ (.int .i64 u) = W at *
            obtain ⟨hk8, ho8, hu8, hb8, hd8⟩ := HM.out W rfl
            have HK8 := Lib.hid hk8
            have HO8 := Lib.hid ho8
            have HU8 := Lib.hid hu8
            have HB8 := Lib.hid hb8
            have k0 := hd8.1
            have k1 := hd8.2
            have hBa := bel_box W (Obj.cells #[.int .i64 (q : Int), .int .i64 y] 38)
            have HBs8 := Lib.hid HK8.out.o4
            clear hW hk8 ho8 hu8 hb8 hd8 q0 q1 HM
            go_wp2_with (at_builtin; refine wpList_appD rfl _ _ _ rfl Try.underlying23 infoD _ _ rfl (HO8.out.below hBa) (some ⟨W.heap.size, 0, none⟩) [((q : Int), y)] 1 rfl (lit_one W ((q : Int), y) _) (fun h => by cases h) (by have := HL1.out; simp; omega) (by have := HBs8.out; simp; omega) ?_)
            intro v9 w9 ho hg hgr
            have HO9 : Hid (OD w9 base E v9 ((stK xs ys k).2 ++ [((q : Int), y)])) := ho
            have hlt6 : base ≤ (W.alloc (Obj.cells #[.int .i64 (q : Int), .int .i64 y] 38)).heap.size := by have := HBs8.out; simp; omega
            have hb9 : Below base (W.alloc (Obj.cells #[.int .i64 (q : Int), .int .i64 y] 38)) w9 := (Below.refl _ _).grown hg hlt6 (fun j hj => (HO8.out.lt j hj).1)
            have HK9 := Lib.hid ((HK8.out.keep (hBa.mono HBs8.out)).keep hb9)
            have HU9 : Hid (OD w9 base E u6 (stK xs ys k).1.2) := OD.kb (HU8.out.below hBa) hg fun j hj e => HA.out.symm j hj e
            have HA9 : Hid (Apt v9 u6) := (HA.out.symm.grew hgr fun j hj => by have := (HU8.out.lt j hj).2; simp; omega).symm
            have HB9 : Hid (Below w.heap.size w w9) := HB8.out.trans ((hBa.mono HB8.out.size).trans (hb9.mono (by have := HK8.out.o1; have := HK8.out.o2; have := HK8.out.o3; omega)))
            clear ho hg hgr hlt6 hb9 hBa k0 k1
            go_wp2_with fail
            go_roundw
            case rel => exact ⟨k + 1, by omega, by go_num, ⟨_, HF2.out, HK9.out⟩, HB9, by show OD _ _ _ _ _; rw [HV2.out]; exact HO9.out, by show OD _ _ _ _ _; rw [HR2.out]; exact HU9.out, HA9⟩
            case measure => simp [intOf]; omega
        · have hz : y = max u y := by omega
          have hmx2 : u < y := by omega
          have HM := Lib.hid (HEnd.out y hz)
          clear hz HEnd
          refine Sch.tree_two ?_ ?_
          · refine Sch.tree_e rfl rfl (fun K hK => ?_)
            go_wp2_with fail
            refine hK _ _ HS.out ?_
            clear hK K
            refine Sch.tree_q rfl rfl (fun K hK => ?_)
            go_big_quiet_op
            first | refine hK _ ?_ | refine ⟨_, fun _ _ => rfl, hK _ ?_⟩
            clear hK K
            refine Sch.tree_two ?_ ?_
            · refine Sch.tree_e rfl rfl (fun K hK => ?_)
              go_wp2_with fail
              refine hK _ _ HS.out ?_
              clear hK K
              refine Sch.tree_two ?_ ?_
              · refine Sch.tree_e rfl rfl (fun K hK => ?_)
                go_wp2_with fail
                refine hK _ _ HS.out ?_
                clear hK K
                refine Sch.tree_e rfl rfl (fun K hK => ?_)
                go_wp2_with fail
                refine hK _ _ HS.out ?_
                clear hK K
                refine Sch.tree_q rfl rfl (fun K hK => ?_)
                go_big_quiet_op
                first | refine hK _ ?_ | refine ⟨_, fun _ _ => rfl, hK _ ?_⟩
                clear hK K
                refine Sch.tree_e rfl rfl (fun K hK => ?_)
                go_wp2_with fail
                refine hK _ _ (HS2.out _) ?_
                clear hK K
                refine Sch.tree_n ?_
                generalize hW : w7.setCell ⟨g, q, none⟩ (.int .i64 y) = W at *
                obtain ⟨hk8, ho8, hu8, hb8, hd8⟩ := HM.out W rfl
                have HK8 := Lib.hid hk8
                have HO8 := Lib.hid ho8
                have HU8 := Lib.hid hu8
                have HB8 := Lib.hid hb8
                have k0 := hd8.1
                have k1 := hd8.2
                have hBa := bel_box W (Obj.cells #[.int .i64 (q : Int), .int .i64 y] 38)
                have HBs8 := Lib.hid HK8.out.o4
                clear hW hk8 ho8 hu8 hb8 hd8 q0 q1 HM
                go_wp2_with (at_builtin; refine wpList_appD rfl _ _ _ rfl Try.underlying23 infoD _ _ rfl (HO8.out.below hBa) (some ⟨W.heap.size, 0, none⟩) [((q : Int), y)] 1 rfl (lit_one W ((q : Int), y) _) (fun h => by cases h) (by have := HL1.out; simp; omega) (by have := HBs8.out; simp; omega) ?_)
                intro v9 w9 ho hg hgr
                have HO9 : Hid (OD w9 base E v9 ((stK xs ys k).2 ++ [((q : Int), y)])) := ho
                have hlt6 : base ≤ (W.alloc (Obj.cells #[.int .i64 (q : Int), .int .i64 y] 38)).heap.size := by have := HBs8.out; simp; omega
                have hb9 : Below base (W.alloc (Obj.cells #[.int .i64 (q : Int), .int .i64 y] 38)) w9 := (Below.refl _ _).grown hg hlt6 (fun j hj => (HO8.out.lt j hj).1)
                have HK9 := Lib.hid ((HK8.out.keep (hBa.mono HBs8.out)).keep hb9)
                have HU9 : Hid (OD w9 base E u6 (stK xs ys k).1.2) := OD.kb (HU8.out.below hBa) hg fun j hj e => HA.out.symm j hj e
                have HA9 : Hid (Apt v9 u6) := (HA.out.symm.grew hgr fun j hj => by have := (HU8.out.lt j hj).2; simp; omega).symm
                have HB9 : Hid (Below w.heap.size w w9) := HB8.out.trans ((hBa.mono HB8.out.size).trans (hb9.mono (by have := HK8.out.o1; have := HK8.out.o2; have := HK8.out.o3; omega)))
                clear ho hg hgr hlt6 hb9 hBa k0 k1
                go_wp2_with fail
                go_roundw
                case rel => exact ⟨k + 1, by omega, by go_num, ⟨_, HF2.out, HK9.out⟩, HB9, by show OD _ _ _ _ _; rw [HV2.out]; exact HO9.out, by show OD _ _ _ _ _; rw [HR2.out]; exact HU9.out, HA9⟩
                case measure => simp [intOf]; omega
              · refine Sch.tree_e rfl rfl (fun K hK => ?_)
                go_wp2_with fail
                refine hK _ _ HS.out ?_
                clear hK K
                refine Sch.tree_e rfl rfl (fun K hK => ?_)
                go_wp2_with fail
                refine hK _ _ HS.out ?_
                clear hK K
                refine Sch.tree_q rfl rfl (fun K hK => ?_)
                go_big_quiet_op
                first | refine hK _ ?_ | refine ⟨_, fun _ _ => rfl, hK _ ?_⟩
                clear hK K
                refine Sch.tree_e rfl rfl (fun K hK => ?_)
                go_wp2_with fail
                refine hK _ _ (HS2.out _) ?_
                clear hK K
                refine Sch.tree_n ?_
                generalize hW : w7.setCell ⟨g, q, none⟩ (.int .i64 y) = W at *
                obtain ⟨hk8, ho8, hu8, hb8, hd8⟩ := HM.out W rfl
                have HK8 := Lib.hid hk8
                have HO8 := Lib.hid ho8
                have HU8 := Lib.hid hu8
                have HB8 := Lib.hid hb8
                have k0 := hd8.1
                have k1 := hd8.2
                have hBa := bel_box W (Obj.cells #[.int .i64 (q : Int), .int .i64 y] 38)
                have HBs8 := Lib.hid HK8.out.o4
                clear hW hk8 ho8 hu8 hb8 hd8 q0 q1 HM
                go_wp2_with (at_builtin; refine wpList_appD rfl _ _ _ rfl Try.underlying23 infoD _ _ rfl (HO8.out.below hBa) (some ⟨W.heap.size, 0, none⟩) [((q : Int), y)] 1 rfl (lit_one W ((q : Int), y) _) (fun h => by cases h) (by have := HL1.out; simp; omega) (by have := HBs8.out; simp; omega) ?_)
                intro v9 w9 ho hg hgr
                have HO9 : Hid (OD w9 base E v9 ((stK xs ys k).2 ++ [((q : Int), y)])) := ho
                have hlt6 : base ≤ (W.alloc (Obj.cells #[.int .i64 (q : Int), .int .i64 y] 38)).heap.size := by have := HBs8.out; simp; omega
                have hb9 : Below base (W.alloc (Obj.cells #[.int .i64 (q : Int), .int .i64 y] 38)) w9 := (Below.refl _ _).grown hg hlt6 (fun j hj => (HO8.out.lt j hj).1)
                have HK9 := Lib.hid ((HK8.out.keep (hBa.mono HBs8.out)).keep hb9)
                have HU9 : Hid (OD w9 base E u6 (stK xs ys k).1.2) := OD.kb (HU8.out.below hBa) hg fun j hj e => HA.out.symm j hj e
                have HA9 : Hid (Apt v9 u6) := (HA.out.symm.grew hgr fun j hj => by have := (HU8.out.lt j hj).2; simp; omega).symm
                have HB9 : Hid (Below w.heap.size w w9) := HB8.out.trans ((hBa.mono HB8.out.size).trans (hb9.mono (by have := HK8.out.o1; have := HK8.out.o2; have := HK8.out.o3; omega)))
                clear ho hg hgr hlt6 hb9 hBa k0 k1
                go_wp2_with fail
                go_roundw
                case rel => exact ⟨k + 1, by omega, by go_num, ⟨_, HF2.out, HK9.out⟩, HB9, by show OD _ _ _ _ _; rw [HV2.out]; exact HO9.out, by show OD _ _ _ _ _; rw [HR2.out]; exact HU9.out, HA9⟩
                case measure => simp [intOf]; omega
            · refine Sch.tree_e rfl rfl (fun K hK => ?_)
              go_wp2_with fail
              refine hK _ _ HS.out ?_
              clear hK K
              refine Sch.tree_e rfl rfl (fun K hK => ?_)
              go_wp2_with fail
              refine hK _ _ HS.out ?_
              clear hK K
              refine Sch.tree_e rfl rfl (fun K hK => ?_)
              go_wp2_with fail
              refine hK _ _ HS.out ?_
              clear hK K
              refine Sch.tree_q rfl rfl (fun K hK => ?_)
              go_big_quiet_op
              first | refine hK _ ?_ | refine ⟨_, fun _ _ => rfl, hK _ ?_⟩
              clear hK K
              refine Sch.tree_e rfl rfl (fun K hK => ?_)
              go_wp2_with fail
              refine hK _ _ (HS2.out _) ?_
              clear hK K
              refine Sch.tree_n ?_
              generalize hW : w7.setCell ⟨g, q, none⟩ (.int .i64 y) = W at *
              obtain ⟨hk8, ho8, hu8, hb8, hd8⟩ := HM.out W rfl
              have HK8 := Lib.hid hk8
              have HO8 := Lib.hid ho8
              have HU8 := Lib.hid hu8
              have HB8 := Lib.hid hb8
              have k0 := hd8.1
              have k1 := hd8.2
              have hBa := bel_box W (Obj.cells #[.int .i64 (q : Int), .int .i64 y] 38)
              have HBs8 := Lib.hid HK8.out.o4
              clear hW hk8 ho8 hu8 hb8 hd8 q0 q1 HM
              go_wp2_with (at_builtin; refine wpList_appD rfl _ _ _ rfl Try.underlying23 infoD _ _ rfl (HO8.out.below hBa) (some ⟨W.heap.size, 0, none⟩) [((q : Int), y)] 1 rfl (lit_one W ((q : Int), y) _) (fun h => by cases h) (by have := HL1.out; simp; omega) (by have := HBs8.out; simp; omega) ?_)
              intro v9 w9 ho hg hgr
              have HO9 : Hid (OD w9 base E v9 ((stK xs ys k).2 ++ [((q : Int), y)])) := ho
              have hlt6 : base ≤ (W.alloc (Obj.cells #[.int .i64 (q : Int), .int .i64 y] 38)).heap.size := by have := HBs8.out; simp; omega
              have hb9 : Below base (W.alloc (Obj.cells #[.int .i64 (q : Int), .int .i64 y] 38)) w9 := (Below.refl _ _).grown hg hlt6 (fun j hj => (HO8.out.lt j hj).1)
              have HK9 := Lib.hid ((HK8.out.keep (hBa.mono HBs8.out)).keep hb9)
              have HU9 : Hid (OD w9 base E u6 (stK xs ys k).1.2) := OD.kb (HU8.out.below hBa) hg fun j hj e => HA.out.symm j hj e
              have HA9 : Hid (Apt v9 u6) := (HA.out.symm.grew hgr fun j hj => by have := (HU8.out.lt j hj).2; simp; omega).symm
              have HB9 : Hid (Below w.heap.size w w9) := HB8.out.trans ((hBa.mono HB8.out.size).trans (hb9.mono (by have := HK8.out.o1; have := HK8.out.o2; have := HK8.out.o3; omega)))
              clear ho hg hgr hlt6 hb9 hBa k0 k1
              go_wp2_with fail
              go_roundw
              case rel => exact ⟨k + 1, by omega, by go_num, ⟨_, HF2.out, HK9.out⟩, HB9, by show OD _ _ _ _ _; rw [HV2.out]; exact HO9.out, by show OD _ _ _ _ _; rw [HR2.out]; exact HU9.out, HA9⟩
              case measure => simp [intOf]; omega
          · refine Sch.tree_e rfl rfl (fun K hK => ?_)
            go_wp2_with fail
            refine hK _ _ HS.out ?_
            clear hK K
            refine Sch.tree_e rfl rfl (fun K hK => ?_)
            go_wp2_with fail
            refine hK _ _ HS.out ?_
            clear hK K
            refine Sch.tree_q rfl rfl (fun K hK => ?_)
            go_big_quiet_op
            first | refine hK _ ?_ | refine ⟨_, fun _ _ => rfl, hK _ ?_⟩
            clear hK K
            refine Sch.tree_e rfl rfl (fun K hK => ?_)
            go_wp2_with fail
            refine hK _ _ HS.out ?_
            clear hK K
            refine Sch.tree_e rfl rfl (fun K hK => ?_)
            go_wp2_with fail
            refine hK _ _ HS.out ?_
            clear hK K
            refine Sch.tree_q rfl rfl (fun K hK => ?_)
            go_big_quiet_op
            first | refine hK _ ?_ | refine ⟨_, fun _ _ => rfl, hK _ ?_⟩
            clear hK K
            refine Sch.tree_e rfl rfl (fun K hK => ?_)
            go_wp2_with fail
            refine hK _ _ (HS2.out _) ?_
            clear hK K
            refine Sch.tree_n ?_
            generalize hW : w7.setCell ⟨g, q, none⟩ (.int .i64 y) = W at *
            obtain ⟨hk8, ho8, hu8, hb8, hd8⟩ := HM.out W rfl
            have HK8 := Lib.hid hk8
            have HO8 := Lib.hid ho8
            have HU8 := Lib.hid hu8
            have HB8 := Lib.hid hb8
            have k0 := hd8.1
            have k1 := hd8.2
            have hBa := bel_box W (Obj.cells #[.int .i64 (q : Int), .int .i64 y] 38)
            have HBs8 := Lib.hid HK8.out.o4
            clear hW hk8 ho8 hu8 hb8 hd8 q0 q1 HM
            go_wp2_with (at_builtin; refine wpList_appD rfl _ _ _ rfl Try.underlying23 infoD _ _ rfl (HO8.out.below hBa) (some ⟨W.heap.size, 0, none⟩) [((q : Int), y)] 1 rfl (lit_one W ((q : Int), y) _) (fun h => by cases h) (by have := HL1.out; simp; omega) (by have := HBs8.out; simp; omega) ?_)
            intro v9 w9 ho hg hgr
            have HO9 : Hid (OD w9 base E v9 ((stK xs ys k).2 ++ [((q : Int), y)])) := ho
            have hlt6 : base ≤ (W.alloc (Obj.cells #[.int .i64 (q : Int), .int .i64 y] 38)).heap.size := by have := HBs8.out; simp; omega
            have hb9 : Below base (W.alloc (Obj.cells #[.int .i64 (q : Int), .int .i64 y] 38)) w9 := (Below.refl _ _).grown hg hlt6 (fun j hj => (HO8.out.lt j hj).1)
            have HK9 := Lib.hid ((HK8.out.keep (hBa.mono HBs8.out)).keep hb9)
            have HU9 : Hid (OD w9 base E u6 (stK xs ys k).1.2) := OD.kb (HU8.out.below hBa) hg fun j hj e => HA.out.symm j hj e
            have HA9 : Hid (Apt v9 u6) := (HA.out.symm.grew hgr fun j hj => by have := (HU8.out.lt j hj).2; simp; omega).symm
            have HB9 : Hid (Below w.heap.size w w9) := HB8.out.trans ((hBa.mono HB8.out.size).trans (hb9.mono (by have := HK8.out.o1; have := HK8.out.o2; have := HK8.out.o3; omega)))
            clear ho hg hgr hlt6 hb9 hBa k0 k1
            go_wp2_with fail
            go_roundw
            case rel => exact ⟨k + 1, by omega, by go_num, ⟨_, HF2.out, HK9.out⟩, HB9, by show OD _ _ _ _ _; rw [HV2.out]; exact HO9.out, by show OD _ _ _ _ _; rw [HR2.out]; exact HU9.out, HA9⟩
            case measure => simp [intOf]; omega
    · obtain rfl : k = ys.length := by omega
      have hi1 : ¬ (ys.length : Int) < (ys.length : Int) := by omega
      have HIk := HIv.out ys.length (Nat.le_refl _)
      have HBl := Lib.hid HIk.bl
      obtain ⟨a2, c2, rfl, hr, -⟩ := HO.out.row
      have HOf := Lib.hid (E.of_any (stK xs ys ys.length).2 a2 c2 wr hr (by have := HBl.out; have := HLx.out; have := HLy.out; omega))
      rw [HEo.out] at HOf
      rw [HEr.out] at HU
      obtain ⟨a3, c3, rfl, -⟩ := HU.out.row
      have HBs := Lib.hid HK.out.o4
      have HBo := Lib.hid (show w.heap.size ≤ base from by have := HK.out.o1; have := HK.out.o2; have := HK.out.o3; omega)
      clear HIk hr HBl
      go_wp2_with fail
      refine HOf.out.mono ?_
      rintro e w5 ⟨v, rfl, ho, hb⟩
      have HX5 : Hid (OD w5 base E v C.1) := ho.mono fun k hk => Nat.le_trans HBs.out (ho.lt k hk).1
      have HY5 : Hid (OD w5 base E (.slice a3 C.2.length c3) C.2) := HU.out.below hb
      have HK5 := Lib.hid (HK.out.keep (hb.mono HBs.out))
      have HB5 := bel_tr hh hb
      obtain ⟨a4, c4, rfl, -⟩ := ho.row
      obtain ⟨⟨u0, r0⟩, r1⟩ := HK5.out.rs 0 (by omega)
      obtain ⟨⟨u1, r2⟩, r3⟩ := HK5.out.rs 1 (by omega)
      have HP := Lib.hid (put_two (x := .slice a4 C.1.length c4) (y := .slice a3 C.2.length c3) HK5.out.rs)
      have hlb : w.heap.size + 1 < base := by have := HK5.out.o1; have := HK5.out.o2; have := HK5.out.o3; omega
      have HX6 := Lib.hid (OD.set (OD.set HX5.out (w.heap.size + 1) 0 (.slice a4 C.1.length c4) hlb) (w.heap.size + 1) 1 (.slice a3 C.2.length c3) hlb)
      have HY6 := Lib.hid (OD.set (OD.set HY5.out (w.heap.size + 1) 0 (.slice a4 C.1.length c4) hlb) (w.heap.size + 1) 1 (.slice a3 C.2.length c3) hlb)
      have HB6 : Hid (Below w.heap.size w ((w5.setCell ⟨w.heap.size + 1, 0, none⟩ (.slice a4 C.1.length c4)).setCell ⟨w.heap.size + 1, 1, none⟩ (.slice a3 C.2.length c3))) := (HB5.out.setCell (p := ⟨w.heap.size + 1, 0, none⟩) (by show _ ≤ w.heap.size + 1; omega) _).setCell (p := ⟨w.heap.size + 1, 1, none⟩) (by show _ ≤ w.heap.size + 1; omega) _
      clear ho hb HOf
      go_wp2_with fail
      generalize (w5.setCell ⟨w.heap.size + 1, 0, none⟩ (.slice a4 C.1.length c4)).setCell ⟨w.heap.size + 1, 1, none⟩ (.slice a3 C.2.length c3) = W at *
      have q0 := HP.out.1
      have q1 := HP.out.2
      (try simp only [Exit.inBlock, Exit.then])
      refine bodyPost_ret (v := cv (.slice a4 C.1.length c4) (.slice a3 C.2.length c3)) (by rw [results_cell1 (fn := Try.f55) (p := 2) (ty := 25) rfl]; go_simp) rfl ?_
      exact ⟨_, _, rfl, HX6.out.mono fun k hk => Nat.le_trans (by omega) (HX6.out.lt k hk).1, HY6.out.mono fun k hk => Nat.le_trans (by omega) (HY6.out.lt k hk).1, HB6.out⟩
end Go.Proofs.Ytefnoajkdhgonaa.F
end
