/-
  Layer 16's references: Context, Of.
-/
import Derived.Test.YtgopkffgljiblaaGreatDgC
namespace Go.Proofs.YtgopkffgljiblaaGreat.Dg
set_option linter.unusedVariables false
open Go.RowKit V Go.Sort D Nd Qs Jn
open E (SV getV)
open F (Ct cv cbox Bc Apt)
attribute [local irreducible] Sch.heldN Sch.stepV Sch.stepE

/-- A block of two slices, all of it. -/
def Cb (w : World) (g : Nat) (x y : Value) : Prop := w.heap[g]? = some (.cells #[x, y] 25 (0, 0))
section
variable {w w' : World} {g : Nat} {x y : Value}
theorem cb_new (w : World) (x y : Value) : Cb (w.alloc (cbox x y)) w.heap.size x y := by
  show (w.heap.push _)[w.heap.size]? = _
  simp
theorem Cb.lt (h : Cb w g x y) : g < w.heap.size := (Array.getElem?_eq_some_iff.1 h).1
theorem Cb.c0 (h : Cb w g x y) : w.cell? ⟨g, 0, none⟩ = some x := by unfold Cb at h; simp [World.cell?, h]
theorem Cb.c1 (h : Cb w g x y) : w.cell? ⟨g, 1, none⟩ = some y := by unfold Cb at h; simp [World.cell?, h]
theorem Cb.fr (h : Cb w g x y) (o : Nat) : w.frozen? ⟨g, o, none⟩ = false := by unfold Cb at h; simp [World.frozen?, h]
theorem Cb.of_heap (h : Cb w g x y) (hh : w'.heap[g]? = w.heap[g]?) : Cb w' g x y := by unfold Cb at *; rw [hh, h]
theorem Cb.keep (h : Cb w g x y) (hb : Below w.heap.size w w') : Cb w' g x y := h.of_heap (hb.block g h.lt)
theorem Cb.gb {r : Option Nat} (h : Cb w g x y) (hg : w.grownBy w' r) (hne : some g ≠ r) : Cb w' g x y := h.of_heap (hg.block g h.lt hne)
theorem Cb.set0 (h : Cb w g x y) (z : Value) : Cb (w.setCell ⟨g, 0, none⟩ z) g z y := by
  unfold Cb at *
  simp [World.setCell, Array.getElem?_modify, h]
theorem Cb.set1 (h : Cb w g x y) (z : Value) : Cb (w.setCell ⟨g, 1, none⟩ z) g x z := by
  unfold Cb at *
  simp [World.setCell, Array.getElem?_modify, h]
end
/-- What a reference holds that makes a context: the result's box, the context's box, its two rows. -/
structure Bs (w0 w : World) (x y : Value) (X Y : List Dt) : Prop where
  bel : Below w0.heap.size w0 w
  res : F.Wc w w0.heap.size
  box : Cb w (w0.heap.size + 1) x y
  xs : OD w (w0.heap.size + 2) D.E x X
  ys : OD w (w0.heap.size + 2) D.E y Y
  apt : Apt y x
section
variable {w0 w w' : World} {x y : Value} {X Y : List Dt}
theorem Bs.keep (h : Bs w0 w x y X Y) (hb : Below w.heap.size w w') : Bs w0 w' x y X Y := ⟨h.bel.trans (hb.mono h.bel.size), h.res.keep hb, h.box.keep hb, h.xs.below hb, h.ys.below hb, h.apt⟩
theorem Bs.far0 (h : Bs w0 w x y X Y) : some (w0.heap.size + 1) ≠ x.ownBlock := fun e => by have := (h.xs.lt _ e.symm).1; omega
theorem Bs.far1 (h : Bs w0 w x y X Y) : some (w0.heap.size + 1) ≠ y.ownBlock := fun e => by have := (h.ys.lt _ e.symm).1; omega
theorem Bs.set (h : Bs w0 w x y X Y) (i : Nat) (z : Value) : Below w0.heap.size w0 (w.setCell ⟨w0.heap.size + 1, i, none⟩ z) ∧ F.Wc (w.setCell ⟨w0.heap.size + 1, i, none⟩ z) w0.heap.size ∧ OD (w.setCell ⟨w0.heap.size + 1, i, none⟩ z) (w0.heap.size + 2) D.E x X ∧ OD (w.setCell ⟨w0.heap.size + 1, i, none⟩ z) (w0.heap.size + 2) D.E y Y :=
  ⟨h.bel.setCell (p := ⟨w0.heap.size + 1, i, none⟩) (by show w0.heap.size ≤ w0.heap.size + 1; omega) _, wc_gb h.res (gb_setCell _ _ _ _) (by simp), F.OD.set h.xs _ _ _ (by omega), F.OD.set h.ys _ _ _ (by omega)⟩
/-- The first row has grown. -/
theorem Bs.grow0 {x' : Value} {X' : List Dt} (h : Bs w0 w x y X Y) (ho : OD w' (w0.heap.size + 2) D.E x' X') (hg : w.grownBy w' x.ownBlock) (hgr : G.Grew w x x') : Cb w' (w0.heap.size + 1) x y ∧ Below w0.heap.size w0 w' ∧ Bs w0 (w'.setCell ⟨w0.heap.size + 1, 0, none⟩ x') x' y X' Y := by
  have hl : w0.heap.size + 2 ≤ w.heap.size := by have := h.box.lt; omega
  have hb : Cb w' (w0.heap.size + 1) x y := h.box.gb hg h.far0
  have hy : OD w' (w0.heap.size + 2) D.E y Y := F.OD.kb h.ys hg fun k hk e => h.apt k hk e
  have hw : F.Wc w' w0.heap.size := wc_gb h.res hg (fun e => by have := (h.xs.lt _ e.symm).1; omega)
  have hbl : Below w0.heap.size w0 w' := h.bel.grown hg (by omega) (fun k hk => by have := (h.xs.lt _ hk).1; omega)
  have ha : Apt y x' := h.apt.grew hgr fun k hk => (h.ys.lt k hk).2
  refine ⟨hb, hbl, hbl.setCell (p := ⟨w0.heap.size + 1, 0, none⟩) (by show w0.heap.size ≤ w0.heap.size + 1; omega) _, wc_gb hw (gb_setCell _ _ _ _) (by simp), hb.set0 x', F.OD.set ho _ _ _ (by omega), F.OD.set hy _ _ _ (by omega), ha⟩
/-- The second row has grown. -/
theorem Bs.grow1 {y' : Value} {Y' : List Dt} (h : Bs w0 w x y X Y) (ho : OD w' (w0.heap.size + 2) D.E y' Y') (hg : w.grownBy w' y.ownBlock) (hgr : G.Grew w y y') : Cb w' (w0.heap.size + 1) x y ∧ Below w0.heap.size w0 w' ∧ Bs w0 (w'.setCell ⟨w0.heap.size + 1, 1, none⟩ y') x y' X Y' := by
  have hl : w0.heap.size + 2 ≤ w.heap.size := by have := h.box.lt; omega
  have hb : Cb w' (w0.heap.size + 1) x y := h.box.gb hg h.far1
  have hx : OD w' (w0.heap.size + 2) D.E x X := F.OD.kb h.xs hg fun k hk e => h.apt k e hk
  have hw : F.Wc w' w0.heap.size := wc_gb h.res hg (fun e => by have := (h.ys.lt _ e.symm).1; omega)
  have hbl : Below w0.heap.size w0 w' := h.bel.grown hg (by omega) (fun k hk => by have := (h.ys.lt _ hk).1; omega)
  have ha : Apt y' x := (h.apt.symm.grew hgr fun k hk => (h.xs.lt k hk).2).symm
  refine ⟨hb, hbl, hbl.setCell (p := ⟨w0.heap.size + 1, 1, none⟩) (by show w0.heap.size ≤ w0.heap.size + 1; omega) _, wc_gb hw (gb_setCell _ _ _ _) (by simp), hb.set1 y', F.OD.set hx _ _ _ (by omega), F.OD.set ho _ _ _ (by omega), ha⟩
theorem bs_new (w0 : World) : Bs w0 ((w0.alloc (cbox (.slice none 0 0) (.slice none 0 0))).alloc (cbox (.slice none 0 0) (.slice none 0 0))) (.slice none 0 0) (.slice none 0 0) [] [] := by
  have h1 := cb_new (w0.alloc (cbox (.slice none 0 0) (.slice none 0 0))) (.slice none 0 0) (.slice none 0 0)
  rw [show (w0.alloc (cbox (.slice none 0 0) (.slice none 0 0))).heap.size = w0.heap.size + 1 by simp] at h1
  exact ⟨(bel_box _ _).alloc (by simp) _, (F.wc_new w0).keep (bel_box _ _), h1, OD.nil _ _ _, OD.nil _ _ _, Apt.none _⟩
end
/-- The context's first slice, and a dot of a row. -/
def Sg (g : Nat) (x : Value) (b o : Nat) (d : Dt) (w : World) : Prop := w.cell? ⟨g, 0, none⟩ = some x ∧ w.cell? ⟨b, o, none⟩ = some (.int .i64 d.1) ∧ w.cell? ⟨b, o + 1, none⟩ = some (.int .i64 d.2)
theorem Sg.keep {g : Nat} {x : Value} {b o : Nat} {d : Dt} {w w' : World} (h : Sg g x b o d w) (hb : Below w.heap.size w w') : Sg g x b o d w' :=
  ⟨(hb.cell (p := ⟨_, _, none⟩) (lt_of_cell h.1)).trans h.1, (hb.cell (p := ⟨_, _, none⟩) (lt_of_cell h.2.1)).trans h.2.1, (hb.cell (p := ⟨_, _, none⟩) (lt_of_cell h.2.2)).trans h.2.2⟩
theorem load_vec {w : World} {g o : Nat} {x : Value} (h : w.cell? ⟨g, o, none⟩ = some x) : (Instr.loadAt 23 (.pointer (some ⟨g, o, none⟩))).run Tryz.prog w = .ok x w := by go_simp
theorem load_dts {w : World} {g o : Nat} {x : Value} (h : w.cell? ⟨g, o, none⟩ = some x) : (Instr.loadAt 22 (.pointer (some ⟨g, o, none⟩))).run Tryz.prog w = .ok x w := by go_simp
theorem Sg.v {g : Nat} {x : Value} {b o : Nat} {d : Dt} : ∀ w, Sg g x b o d w → (Instr.loadAt 23 (.pointer (some ⟨g, 0, none⟩))).run Tryz.prog w = .ok x w := fun w h => load_vec h.1
theorem Sg.l0 {g : Nat} {x : Value} {b o : Nat} {d : Dt} : ∀ w, Sg g x b o d w → (Instr.loadAt 3 (.pointer (some ⟨b, o, none⟩))).run Tryz.prog w = .ok (.int .i64 d.1) w := fun w h => load_int h.2.1
theorem Sg.l1 {g : Nat} {x : Value} {b o : Nat} {d : Dt} : ∀ w, Sg g x b o d w → (Instr.loadAt 3 (.pointer (some ⟨b, o + 1, none⟩))).run Tryz.prog w = .ok (.int .i64 d.2) w := fun w h => load_int h.2.2
/-- A dot of a row. -/
def Sd (b o : Nat) (d : Dt) (w : World) : Prop := w.cell? ⟨b, o, none⟩ = some (.int .i64 d.1) ∧ w.cell? ⟨b, o + 1, none⟩ = some (.int .i64 d.2)
theorem Sd.keep {b o : Nat} {d : Dt} {w w' : World} (h : Sd b o d w) (hb : Below w.heap.size w w') : Sd b o d w' :=
  ⟨(hb.cell (p := ⟨_, _, none⟩) (lt_of_cell h.1)).trans h.1, (hb.cell (p := ⟨_, _, none⟩) (lt_of_cell h.2)).trans h.2⟩
theorem sd_at {w : World} {b o : Nat} {l : List Dt} (h : RowD w (some ⟨b, o, none⟩) l) (k : Nat) (hk : k < l.length) : Sd b (o + k * 2) l[k] w := by
  obtain ⟨b', o', e, h0, h1⟩ := h.get (Below.refl _ _) k hk
  cases e
  exact ⟨h0, h1⟩
theorem Sd.l {b o : Nat} {d : Dt} : ∀ w, Sd b o d w → (Instr.loadAt 48 (.pointer (some ⟨b, o, none⟩))).run Tryz.prog w = .ok (dv d) w := fun w h => load_dot h.1 h.2
theorem wp_appD {P : Program} {w : World} {x : Oper} {a : Act} {K : Act → World → Prop} {Q : Exit → Act → World → Prop} (s y : Operand) (T : TypeId)
    (ho : x.op = .call { callee := .builtin .append, args := #[s, y], argTypes := #[T, T] })
    {base : Nat} {E : TypeId} (hT : P.underlying T = some (.slice E)) (hinfo : (P.info? E).map (fun i => (i.zero, i.size, i.bytes)) = some (some (.agg #[.int .i64 0, .int .i64 0]), 2, 16))
    (v : Value) (l : List Dt) (hs : a.eval s = v) (h : OD w base E v l) (ad : Option Addr) (m : List Dt) (c n : Nat) (hn : n = m.length) (hx : a.eval y = .slice ad n c) (hrow : RowD w ad m) (hnil : ad = none → c = 0)
    (hlen : l.length + m.length ≤ 8796093022208) (hbase : base ≤ w.heap.size)
    (hk : ∀ v' w', OD w' base E v' (l ++ m) → w.grownBy w' v.ownBlock → G.Grew w v v' → K (a.put x.dst v') w') : x.wp P a w K Q := by
  subst hn
  obtain ⟨v', w', hr, h2, h3, h4⟩ := run_appD hT hinfo h x.type ad m c hrow hnil hlen hbase
  unfold Oper.wp execOp
  simp only [ho, resolve, invoke, builtin, Sem.run_bind, Sem.run_pure, Result.andThen_ok, List.map_toArray, List.map_cons, List.map_nil, hs, hx, hr]
  exact hk _ _ h2 h3 h4
theorem wrap_mid {z : Int} (h1 : 0 ≤ z) (h2 : z ≤ 1000000000000) : IntKind.i64.wrap z = z := by simp [IntKind.wrap, IntKind.bits, IntKind.signed]; omega
theorem cnt_bound (r : Int) : ∀ (t : List Dt) (n : Int), n ≤ t.foldl (cntR r) n ∧ t.foldl (cntR r) n ≤ n + (t.length : Int)
  | [], n => ⟨Int.le_refl _, by simp⟩
  | x :: t, n => by
    rw [List.foldl_cons, List.length_cons]
    obtain ⟨h1, h2⟩ := cnt_bound r t (cntR r n x)
    have : n ≤ cntR r n x ∧ cntR r n x ≤ n + 1 := by unfold cntR; split <;> omega
    omega
theorem cnt_take {r : Int} {m : List Dt} {j : Nat} (hj : j < m.length) : (m.take (j + 1)).foldl (cntR r) 0 = cntR r ((m.take j).foldl (cntR r) 0) m[j] := by
  rw [List.take_add_one, List.getElem?_eq_getElem hj, List.foldl_append]
  rfl
theorem filt_take {m : List Dt} {p : Dt → Bool} {j : Nat} (hj : j < m.length) : (m.take (j + 1)).filter p = if p m[j] = true then (m.take j).filter p ++ [m[j]] else (m.take j).filter p := by
  rw [List.take_add_one, List.getElem?_eq_getElem hj, List.filter_append]
  show _ ++ [m[j]].filter p = _
  rw [List.filter_cons]
  split
  · rfl
  · simp
set_option maxRecDepth 100000 in
set_option maxHeartbeats 4000000 in
theorem ctx_ref (m : List Dt) (C : Ct) (hC : F.Vc C) (hcnt : ∀ r : Int, 1 ≤ r → r ≤ 64 → m.foldl (cntR r) 0 = getV C.1 r) (hcl : m.filter (fun x => decide (getV C.1 x.1 < x.2)) = C.2) (a : Option Addr) (c : Nat) (w : World) (hx : RowD w a m) (hlm : m.length ≤ 300000) :
    Calls Tryz.prog 40 #[.slice a m.length c] w fun e w' => ∃ x y, e = .returned (cv x y) ∧ F.Ov w' w.heap.size x y C ∧ Below w.heap.size w w' := by
  have HX := Lib.hid hx
  have hli : (m.length : Int) ≤ 300000 := by omega
  have HLn := Lib.hid hlm
  have HV0 : Hid (vecK C.1 0 = []) := rfl
  have HV64 : Hid (vecK C.1 64 = C.1) := vecK_all hC.1
  have HVs := Lib.hid (fun k => vecK_step C.1 k)
  have HVl : Hid (∀ k, k ≤ 64 → (vecK C.1 k).length ≤ 64) := fun k hk => by
    unfold vecK
    have := List.length_filterMap_le (fun (i : Nat) => if 0 < E.getV C.1 ((i : Int) + 1) then some ((i : Int) + 1, E.getV C.1 ((i : Int) + 1)) else none) (List.range k)
    rw [List.length_range] at this
    omega
  have HCn := Lib.hid hcnt
  have HCl := Lib.hid hcl
  have HGe := Lib.hid (fun r => E.get_ge hC.1 r)
  have HGt := Lib.hid (fun r => getV_top hC.1 r)
  have HLs := Lib.hid (fun (a : Option Addr) (c : Nat) (w : World) (r : Int) (h : RowD w a C.1) => last_ref C.1 r a c w h (by have := E.vd_len hC.1; omega))
  have HN := Lib.hid (bs_new w)
  obtain ⟨vk, hvk⟩ : ∃ vk : Nat → List Dt, vk = vecK C.1 := ⟨_, rfl⟩
  rw [← hvk] at HV0 HV64 HVs HVl
  clear hx hlm hcnt hcl hvk hC
  go_enter Tryz.func40, Tryz.ntmps40
  go_wp2_with fail
  generalize (w.alloc (cbox (.slice none 0 0) (.slice none 0 0))).alloc (cbox (.slice none 0 0) (.slice none 0 0)) = w1 at *
  go_loopw [4, 5, 6] (fun rep _ _ wr => ∃ (k : Nat) (x : Value), k ≤ 64 ∧ rep = .int .i64 ((k : Int) + 1) ∧ Hid (Bs w wr x (.slice none 0 0) (vk k) [])) (fun rep _ _ _ => 65 - (intOf rep).toNat)
  case atStart => exact ⟨0, _, Nat.zero_le _, rfl, (by show Bs _ _ _ _ (vk 0) _; rw [HV0.out]; exact HN.out)⟩
  case round =>
    obtain ⟨k, x, hk, rfl, HS⟩ := hrel
    obtain ⟨wo, hwo⟩ : ∃ wo, wo = wr := ⟨_, rfl⟩
    subst hwo
    by_cases hlt : k < 64
    · have hi0 : (k : Int) + 1 ≤ 64 := by omega
      obtain ⟨cf, hcf⟩ : ∃ cf : Nat → Int, cf = fun j => (m.take j).foldl (cntR ((k : Int) + 1)) 0 := ⟨_, rfl⟩
      have HF0 : Hid (cf 0 = 0) := by show _ = _; rw [hcf]; rfl
      have HFs : Hid (∀ j (hj : j < m.length), cf (j + 1) = cntR ((k : Int) + 1) (cf j) m[j]) := fun j hj => by rw [hcf]; exact cnt_take hj
      have HFb : Hid (∀ j, 0 ≤ cf j ∧ cf j ≤ 300000) := fun j => by
        rw [hcf]
        have h1 := cnt_bound ((k : Int) + 1) (m.take j) 0
        have h3 : (m.take j).length ≤ m.length := by rw [List.length_take]; omega
        have h4 := HLn.out
        show 0 ≤ (m.take j).foldl _ _ ∧ (m.take j).foldl _ _ ≤ _
        omega
      have HFn : Hid (cf m.length = getV C.1 ((k : Int) + 1)) := by
        show _ = _
        rw [hcf]
        show (m.take m.length).foldl _ _ = _
        rw [List.take_length]
        exact HCn.out _ (by omega) (by omega)
      clear hcf
      go_wp2_with fail
      go_loopw [5, 6] (fun n i wr => ∃ j : Nat, j ≤ m.length ∧ i = .int .i64 (j : Int) ∧ n = .int .i64 (cf j) ∧ wr = wo) (fun _ i _ => m.length - (intOf i).toNat)
      case atStart => exact ⟨0, Nat.zero_le _, rfl, by rw [HF0.out], rfl⟩
      case round =>
        obtain ⟨j, hj, rfl, rfl, rfl⟩ := hrel
        by_cases hlj : j < m.length
        · have hj0 : (j : Int) < (m.length : Int) := by omega
          obtain ⟨b1, o1, rfl, c0, c1⟩ := HX.out.get HS.out.bel j hlj
          have HSt := Lib.hid (HFs.out j hlj)
          obtain ⟨q, hq⟩ : ∃ q, q = m[j] := ⟨_, rfl⟩
          rw [← hq] at c0 c1 HSt
          clear hq
          have hwr : IntKind.i64.wrap (cf j + 1) = cf j + 1 := by have := HFb.out j; exact wrap_mid (by omega) (by omega)
          obtain ⟨q1, q2⟩ := q
          simp only at c0 c1
          by_cases h1 : q1 = (k : Int) + 1
          · have e1 : (q1 == (k : Int) + 1) = true := by rw [h1]; exact beq_self_eq_true _
            by_cases h2 : q2 = cf j + 1
            · have e2 : (q2 == cf j + 1) = true := by rw [h2]; exact beq_self_eq_true _
              have HE : Hid (cf (j + 1) = cf j + 1) := by show _ = _; rw [HSt.out]; unfold cntR; rw [if_pos ⟨h1, h2⟩]
              clear h1 h2 HSt
              go_wp2_with fail
              go_roundw
              case rel => exact ⟨j + 1, by omega, by go_num, by rw [HE.out], (by first | exact trivial | rfl)⟩
              case measure => simp [intOf]; omega
            · have e2 : (q2 == cf j + 1) = false := beq_false_of_ne h2
              have HE : Hid (cf (j + 1) = cf j) := by show _ = _; rw [HSt.out]; unfold cntR; rw [if_neg (fun h => h2 h.2)]
              clear h1 h2 HSt
              go_wp2_with fail
              go_roundw
              case rel => exact ⟨j + 1, by omega, by go_num, by rw [HE.out], (by first | exact trivial | rfl)⟩
              case measure => simp [intOf]; omega
          · have e1 : (q1 == (k : Int) + 1) = false := beq_false_of_ne h1
            have HE : Hid (cf (j + 1) = cf j) := by show _ = _; rw [HSt.out]; unfold cntR; rw [if_neg (fun h => h1 h.1)]
            clear h1 HSt
            go_wp2_with fail
            go_roundw
            case rel => exact ⟨j + 1, by omega, by go_num, by rw [HE.out], (by first | exact trivial | rfl)⟩
            case measure => simp [intOf]; omega
        · obtain rfl : j = m.length := by omega
          have hend : ¬ (m.length : Int) < (m.length : Int) := by omega
          have HVk := Lib.hid (HVs.out k)
          have HVk2 := Lib.hid (HVl.out k hk)
          have HEn := HFn
          have hg0 := HGe.out ((k : Int) + 1)
          have HGtk := Lib.hid (HGt.out ((k : Int) + 1))
          rw [HFn.out]
          clear HFn
          obtain ⟨gv1, hgv⟩ : ∃ z, z = getV C.1 ((k : Int) + 1) := ⟨_, rfl⟩
          rw [← hgv] at HVk hg0 HGtk ⊢
          clear hgv
          by_cases hp : 0 < gv1
          · have HE : Hid (vk (k + 1) = vk k ++ [((k : Int) + 1, gv1)]) := by show _ = _; rw [HVk.out, if_pos hp]
            obtain ⟨ax, cx, rfl, -⟩ := HS.out.xs.row
            have x0 := HS.out.box.c0
            have hb2 := bel_box wr (.cells #[.int .i64 ((k : Int) + 1), .int .i64 gv1] 48)
            have HS3 := Lib.hid (HS.out.keep hb2)
            have HLt : Hid (RowD (wr.alloc (.cells #[.int .i64 ((k : Int) + 1), .int .i64 gv1] 48)) (some ⟨wr.heap.size, 0, none⟩) [((k : Int) + 1, gv1)]) := lit_one wr ((k : Int) + 1, gv1) _
            have HZ : Hid (w.heap.size + 2 ≤ (wr.alloc (.cells #[.int .i64 ((k : Int) + 1), .int .i64 gv1] 48)).heap.size) := by have := HS3.out.box.lt; show _ ≤ _; omega
            clear hb2
            go_wp2_with (at_builtin; refine wpList_appD rfl _ _ _ rfl Tryz.underlying23 infoD _ _ rfl HS3.out.xs (some ⟨wr.heap.size, 0, none⟩) [((k : Int) + 1, gv1)] 1 rfl HLt.out (fun h => by cases h) (by have := HVk2.out; simp only [List.length_cons, List.length_nil]; omega) HZ.out ?_)
            intro v7 w7 ho hg hgr
            rw [← HE.out] at ho
            obtain ⟨a7, c7, rfl, -⟩ := ho.row
            obtain ⟨hbx, -, hS7⟩ := HS3.out.grow0 ho hg hgr
            have HS7 := Lib.hid hS7
            have y0 := hbx.c0
            have f0 := hbx.fr 0
            clear hS7 ho hg hgr hbx x0
            go_wp2_with fail
            go_roundw
            case rel => exact ⟨k + 1, _, by omega, by go_num, HS7⟩
            case measure => simp [intOf]; omega
          · have HE : Hid (vk (k + 1) = vk k) := by show _ = _; rw [HVk.out, if_neg hp]
            have hz : gv1 = 0 := by omega
            subst hz
            go_wp2_with fail
            go_roundw
            case rel => exact ⟨k + 1, _, by omega, by go_num, by rw [HE.out]; exact HS⟩
            case measure => simp [intOf]; omega
    · obtain rfl : k = 64 := by omega
      rw [HV64.out] at HS
      clear HVs HV0 HVl HV64 HCn HGe HGt
      obtain ⟨fl, hfl⟩ : ∃ fl : Nat → List Dt, fl = fun j => (m.take j).filter (fun x => decide (getV C.1 x.1 < x.2)) := ⟨_, rfl⟩
      have HL0 : Hid (fl 0 = []) := by show _ = _; rw [hfl]; rfl
      have HLs2 : Hid (∀ j (hj : j < m.length), fl (j + 1) = if decide (getV C.1 m[j].1 < m[j].2) = true then fl j ++ [m[j]] else fl j) := fun j hj => by rw [hfl]; exact filt_take hj
      have HLb : Hid (∀ j, (fl j).length ≤ 300000) := fun j => by
        rw [hfl]
        have h1 := List.length_filter_le (fun x : Dt => decide (getV C.1 x.1 < x.2)) (m.take j)
        have h3 : (m.take j).length ≤ m.length := by rw [List.length_take]; omega
        have h4 := HLn.out
        show ((m.take j).filter _).length ≤ _
        omega
      have HLe : Hid (fl m.length = C.2) := by
        show _ = _
        rw [hfl]
        show (m.take m.length).filter _ = _
        rw [List.take_length]
        exact HCl.out
      obtain ⟨ax, cx, rfl, -⟩ := HS.out.xs.row
      clear hfl HCl
      go_wp2_with fail
      go_loopw [7] (fun i wr => ∃ (j : Nat) (y : Value), j ≤ m.length ∧ i = .int .i64 (j : Int) ∧ Hid (Bs w wr (.slice ax C.1.length cx) y C.1 (fl j))) (fun i _ => m.length - (intOf i).toNat)
      case atStart => exact ⟨0, _, Nat.zero_le _, rfl, (by show Bs _ _ _ _ _ (fl 0); rw [HL0.out]; exact HS.out)⟩
      case round =>
        obtain ⟨j, y, hj, rfl, HS⟩ := hrel
        by_cases hlj : j < m.length
        · have hj0 : (j : Int) < (m.length : Int) := by omega
          have hg : decide ((j : Int) < (m.length : Int)) = true := by simpa using hj0
          obtain ⟨b1, o1, rfl, c0, c1⟩ := HX.out.get HS.out.bel j hlj
          have HQw : Hid (Sd b1 (o1 + j * 2) m[j] w) := Lib.hid (sd_at HX.out j hlj)
          have HSt := Lib.hid (HLs2.out j hlj)
          have HLk := Lib.hid (HLb.out j)
          obtain ⟨q, hq⟩ : ∃ q, q = m[j] := ⟨_, rfl⟩
          rw [← hq] at c0 c1 HSt HQw
          clear hq
          have hd := (Below.refl wr.heap.size wr).drew
          have HQ : Hid (Sg (w.heap.size + 1) (.slice ax C.1.length cx) b1 (o1 + j * 2) q wr.drew) := Lib.hid (Sg.keep ⟨HS.out.box.c0, c0, c1⟩ hd)
          have HSd := Lib.hid (HS.out.keep hd)
          have hix := ix_dot b1 o1 m.length c j (j : Int) rfl hlj
          have HLa := Lib.hid (fun w h => HLs.out ax cx w q.1 h)
          clear hd c0 c1 HS
          go_wp2_with fail
          refine Sch.wp_region_tn (Sg (w.heap.size + 1) (.slice ax C.1.length cx) b1 (o1 + j * 2) q) (.val 0 (.val 1 (.val 2 (.val 3 (.val 4 (.val 5 (.val 6 (.val 7 (.val 8 (.val 9 (.val 10 (.val 11 (.one 12 (.val 13 .done)))))))))))))) (by kernel_rfl) (by kernel_rfl) HQ.out ?_
          repeat (first
            | (refine Sch.tn_q rfl rfl rfl (fun K hK => ?_); go_big_quiet_op; (first | refine hK _ ?_ | refine ⟨_, fun _ _ => rfl, hK _ ?_⟩); clear hK K)
            | (refine Sch.tn_chk _ _ _ rfl rfl rfl rfl rfl ?_; simp only [Act.put, List.setIfInBounds_toArray, List.set_cons_zero, List.set_cons_succ])
            | (refine Sch.tn_load _ _ _ _ _ rfl rfl rfl rfl (by first | exact Sg.v | exact Sg.l0 | exact Sg.l1) rfl ?_; simp only [Act.put, List.setIfInBounds_toArray, List.set_cons_zero, List.set_cons_succ]))
          generalize wr.drew = w2 at *
          refine Sch.tn_e rfl rfl (fun K hK => ?_)
          go_wp2_with fail
          refine (HLa.out _ HSd.out.xs.r.1).mono ?_
          rintro e w3 ⟨rfl, hl⟩
          have hb := hl.bel
          clear hl HLa
          replace HQ := Lib.hid (HQ.out.keep hb)
          replace HSd := Lib.hid (HSd.out.keep hb)
          clear hb
          refine hK _ _ HQ.out ?_
          clear hK K
          generalize getV C.1 q.1 = gq at *
          by_cases hgt : gq < q.2
          · have hgb : decide (q.2 > gq) = true := decide_eq_true hgt
            have HE : Hid (fl (j + 1) = fl j ++ [q]) := by show _ = _; rw [HSt.out, if_pos (decide_eq_true hgt)]
            clear HSt
            repeat (first
              | (refine Sch.tn_q rfl rfl rfl (fun K hK => ?_); go_big_quiet_op; (first | refine hK _ ?_ | refine ⟨_, fun _ _ => rfl, hK _ ?_⟩); clear hK K)
              | (refine Sch.tn_chk _ _ _ rfl rfl rfl rfl rfl ?_; simp only [Act.put, List.setIfInBounds_toArray, List.set_cons_zero, List.set_cons_succ])
              | (refine Sch.tn_load _ _ _ _ _ rfl rfl rfl rfl (by first | exact Sg.v | exact Sg.l0 | exact Sg.l1) rfl ?_; simp only [Act.put, List.setIfInBounds_toArray, List.set_cons_zero, List.set_cons_succ]))
            refine Sch.tn_n ?_
            clear hgt hgb
            have HQ2 : Hid (Sd b1 (o1 + j * 2) q w3.drew) := Lib.hid (Sd.keep ⟨HQ.out.2.1, HQ.out.2.2⟩ ((Below.refl w3.heap.size w3).drew))
            have HS4 := Lib.hid (HSd.out.keep ((Below.refl w3.heap.size w3).drew))
            clear HQ HSd
            go_wp2_with fail
            refine Sch.wp_region_tn (Sd b1 (o1 + j * 2) q) (.val 0 (.val 2 (.val 3 (.val 4 (.val 5 (.two 1 (.one 6 (.one 7 (.val 8 (.one 9 .done)))) 6 (.one 1 (.one 7 (.val 8 (.one 9 .done)))))))))) (by kernel_rfl) (by kernel_rfl) HQ2.out ?_
            repeat (first
              | (refine Sch.tn_q rfl rfl rfl (fun K hK => ?_); go_big_quiet_op; (first | refine hK _ ?_ | refine ⟨_, fun _ _ => rfl, hK _ ?_⟩); clear hK K)
              | (refine Sch.tn_chk _ _ _ rfl rfl rfl rfl rfl ?_; simp only [Act.put, List.setIfInBounds_toArray, List.set_cons_zero, List.set_cons_succ])
              | (refine Sch.tn_load _ _ _ _ _ rfl rfl rfl rfl (by first | exact Sd.l) rfl ?_; simp only [Act.put, List.setIfInBounds_toArray, List.set_cons_zero, List.set_cons_succ]))
            generalize w3.drew = w4 at *
            refine Sch.tn_two ?_ ?_
            · have y0 := HS4.out.box.c1
              refine Sch.tn_e rfl rfl (fun K hK => ?_)
              go_wp2_with fail
              refine hK _ _ HQ2.out ?_
              clear hK K
              clear y0
              refine Sch.tn_e rfl rfl (fun K hK => ?_)
              go_wp2_with fail
              have hb2 := bel_box w4 (.cells #[.int .i64 q.1, .int .i64 q.2] 48)
              have HS5 := Lib.hid (HS4.out.keep hb2)
              have HQ5 := Lib.hid (HQ2.out.keep hb2)
              have HLt : Hid (RowD (w4.alloc (.cells #[.int .i64 q.1, .int .i64 q.2] 48)) (some ⟨w4.heap.size, 0, none⟩) [q]) := lit_one w4 q _
              clear hb2 HQ2 HS4
              refine hK _ _ HQ5.out ?_
              clear hK K
              generalize w4.alloc (.cells #[.int .i64 q.1, .int .i64 q.2] 48) = w5 at *
              generalize w4.heap.size = g5 at *
              have HZ : Hid (w.heap.size + 2 ≤ w5.heap.size) := by have := HS5.out.box.lt; show _ ≤ _; omega
              refine Sch.tn_e rfl rfl (fun K hK => ?_)
              refine wp_appD _ _ _ rfl Tryz.underlying22 infoD _ _ rfl HS5.out.ys (some ⟨g5, 0, none⟩) [q] 1 1 rfl rfl HLt.out (fun h => by cases h) (by have := HLk.out; simp only [List.length_cons, List.length_nil]; omega) HZ.out ?_
              intro v7 w7 ho hg hgr
              rw [← HE.out] at ho
              obtain ⟨a7, c7, rfl, -⟩ := ho.row
              obtain ⟨hbx, hbl, hS7⟩ := HS5.out.grow1 ho hg hgr
              have HS7 := Lib.hid hS7
              have HQ7 := Lib.hid (HQw.out.keep hbl)
              have HQ8 := Lib.hid (HQw.out.keep hS7.bel)
              have y0 := hbx.c1
              have f0 := hbx.fr 1
              clear hS7 ho hg hgr hbx hbl
              refine hK _ _ HQ7.out ?_
              clear hK K
              simp only [Act.put, List.setIfInBounds_toArray, List.set_cons_zero, List.set_cons_succ]
              repeat (first
                | (refine Sch.tn_q rfl rfl rfl (fun K hK => ?_); go_big_quiet_op; (first | refine hK _ ?_ | refine ⟨_, fun _ _ => rfl, hK _ ?_⟩); clear hK K)
                | (refine Sch.tn_chk _ _ _ rfl rfl rfl rfl rfl ?_; simp only [Act.put, List.setIfInBounds_toArray, List.set_cons_zero, List.set_cons_succ])
                | (refine Sch.tn_load _ _ _ _ _ rfl rfl rfl rfl (by first | exact Sd.l) rfl ?_; simp only [Act.put, List.setIfInBounds_toArray, List.set_cons_zero, List.set_cons_succ]))
              refine Sch.tn_e rfl rfl (fun K hK => ?_)
              go_wp2_with fail
              refine hK _ _ HQ8.out ?_
              clear hK K
              refine Sch.tn_n ?_
              generalize w7.setCell ⟨w.heap.size + 1, 1, none⟩ (.slice a7 (fl (j + 1)).length c7) = w8 at *
              clear y0 f0
              go_wp2_with fail
              go_roundw
              case rel => exact ⟨j + 1, _, by omega, by go_num, HS7⟩
              case measure => simp [intOf]; omega
            · skip
              refine Sch.tn_e rfl rfl (fun K hK => ?_)
              go_wp2_with fail
              have hb2 := bel_box w4 (.cells #[.int .i64 q.1, .int .i64 q.2] 48)
              have HS5 := Lib.hid (HS4.out.keep hb2)
              have HQ5 := Lib.hid (HQ2.out.keep hb2)
              have HLt : Hid (RowD (w4.alloc (.cells #[.int .i64 q.1, .int .i64 q.2] 48)) (some ⟨w4.heap.size, 0, none⟩) [q]) := lit_one w4 q _
              clear hb2 HQ2 HS4
              refine hK _ _ HQ5.out ?_
              clear hK K
              generalize w4.alloc (.cells #[.int .i64 q.1, .int .i64 q.2] 48) = w5 at *
              generalize w4.heap.size = g5 at *
              have y0 := HS5.out.box.c1
              refine Sch.tn_e rfl rfl (fun K hK => ?_)
              go_wp2_with fail
              refine hK _ _ HQ5.out ?_
              clear hK K
              clear y0
              have HZ : Hid (w.heap.size + 2 ≤ w5.heap.size) := by have := HS5.out.box.lt; show _ ≤ _; omega
              refine Sch.tn_e rfl rfl (fun K hK => ?_)
              refine wp_appD _ _ _ rfl Tryz.underlying22 infoD _ _ rfl HS5.out.ys (some ⟨g5, 0, none⟩) [q] 1 1 rfl rfl HLt.out (fun h => by cases h) (by have := HLk.out; simp only [List.length_cons, List.length_nil]; omega) HZ.out ?_
              intro v7 w7 ho hg hgr
              rw [← HE.out] at ho
              obtain ⟨a7, c7, rfl, -⟩ := ho.row
              obtain ⟨hbx, hbl, hS7⟩ := HS5.out.grow1 ho hg hgr
              have HS7 := Lib.hid hS7
              have HQ7 := Lib.hid (HQw.out.keep hbl)
              have HQ8 := Lib.hid (HQw.out.keep hS7.bel)
              have y0 := hbx.c1
              have f0 := hbx.fr 1
              clear hS7 ho hg hgr hbx hbl
              refine hK _ _ HQ7.out ?_
              clear hK K
              simp only [Act.put, List.setIfInBounds_toArray, List.set_cons_zero, List.set_cons_succ]
              repeat (first
                | (refine Sch.tn_q rfl rfl rfl (fun K hK => ?_); go_big_quiet_op; (first | refine hK _ ?_ | refine ⟨_, fun _ _ => rfl, hK _ ?_⟩); clear hK K)
                | (refine Sch.tn_chk _ _ _ rfl rfl rfl rfl rfl ?_; simp only [Act.put, List.setIfInBounds_toArray, List.set_cons_zero, List.set_cons_succ])
                | (refine Sch.tn_load _ _ _ _ _ rfl rfl rfl rfl (by first | exact Sd.l) rfl ?_; simp only [Act.put, List.setIfInBounds_toArray, List.set_cons_zero, List.set_cons_succ]))
              refine Sch.tn_e rfl rfl (fun K hK => ?_)
              go_wp2_with fail
              refine hK _ _ HQ8.out ?_
              clear hK K
              refine Sch.tn_n ?_
              generalize w7.setCell ⟨w.heap.size + 1, 1, none⟩ (.slice a7 (fl (j + 1)).length c7) = w8 at *
              clear y0 f0
              go_wp2_with fail
              go_roundw
              case rel => exact ⟨j + 1, _, by omega, by go_num, HS7⟩
              case measure => simp [intOf]; omega
          · have hgb : decide (q.2 > gq) = false := decide_eq_false hgt
            have HE : Hid (fl (j + 1) = fl j) := by show _ = _; rw [HSt.out, if_neg (by rw [decide_eq_false hgt]; simp)]
            clear HSt HQ
            repeat (first
              | (refine Sch.tn_q rfl rfl rfl (fun K hK => ?_); go_big_quiet_op; (first | refine hK _ ?_ | refine ⟨_, fun _ _ => rfl, hK _ ?_⟩); clear hK K)
              | (refine Sch.tn_chk _ _ _ rfl rfl rfl rfl rfl ?_; simp only [Act.put, List.setIfInBounds_toArray, List.set_cons_zero, List.set_cons_succ]))
            refine Sch.tn_n ?_
            clear hgt hgb
            go_wp2_with fail
            go_roundw
            case rel => exact ⟨j + 1, _, by omega, by go_num, by rw [HE.out]; exact HSd⟩
            case measure => simp [intOf]; omega
        · obtain rfl : j = m.length := by omega
          have hend : ¬ (m.length : Int) < (m.length : Int) := by omega
          rw [HLe.out] at HS
          obtain ⟨ay, cy, rfl, -⟩ := HS.out.ys.row
          have x0 := HS.out.box.c0
          have x1 := HS.out.box.c1
          obtain ⟨⟨u0, r0⟩, r1⟩ := HS.out.res 0 (by omega)
          obtain ⟨⟨u1, r2⟩, r3⟩ := HS.out.res 1 (by omega)
          have HP := Lib.hid (F.put_two (x := .slice ax C.1.length cx) (y := .slice ay C.2.length cy) HS.out.res)
          have HO : Hid (F.Ov ((wr.setCell ⟨w.heap.size, 0, none⟩ (.slice ax C.1.length cx)).setCell ⟨w.heap.size, 1, none⟩ (.slice ay C.2.length cy)) w.heap.size (.slice ax C.1.length cx) (.slice ay C.2.length cy) C) := Lib.hid ((F.Ov.put ⟨HS.out.xs, HS.out.ys⟩ (by omega)).mono (by omega))
          have HBe : Hid (Below w.heap.size w ((wr.setCell ⟨w.heap.size, 0, none⟩ (.slice ax C.1.length cx)).setCell ⟨w.heap.size, 1, none⟩ (.slice ay C.2.length cy))) := Lib.hid (F.below_put HS.out.bel (Nat.le_refl _))
          clear HS
          go_wp2_with fail
          generalize (wr.setCell ⟨w.heap.size, 0, none⟩ (.slice ax C.1.length cx)).setCell ⟨w.heap.size, 1, none⟩ (.slice ay C.2.length cy) = W at *
          have q0 := HP.out.1
          have q1 := HP.out.2
          (try simp only [Exit.inBlock, Exit.then])
          refine bodyPost_ret (v := cv (.slice ax C.1.length cx) (.slice ay C.2.length cy)) (by rw [results_cell1 (fn := Tryz.f40) (p := 2) (ty := 25) rfl]; go_simp) rfl ?_
          exact ⟨_, _, rfl, HO.out, HBe.out⟩
set_option maxRecDepth 100000 in
set_option maxHeartbeats 4000000 in
theorem ofR_ref (l : List Nt) (hv : validS l = true) (a : Option Addr) (c : Nat) (w : World) (hx : RowN w a l) (hlx : l.length ≤ 300000) :
    Calls Tryz.prog 23 #[.slice a l.length c] w fun e w' => ∃ x y u v, e = .returned (gv x y u v) ∧ Og w' w.heap.size x y u v (ofG l) ∧ Below w.heap.size w w' := by
  have HD := Lib.hid (fun d w h => dotsR_ref l d a c w h hlx)
  have HCt := Lib.hid (fun d p j w (h : RowD w p (dotsS l d)) => ctx_ref (dotsS l d) (ctxS l d) (comp_vcC (ctx_comp hv d)) (fun r h1 h2 => cnt_ctx hv d h1 h2) (cloud_ctx hv d) p j w h (Nat.le_trans (dots_len l d) hlx))
  have HW := Lib.hid (wg_new w)
  have HB := Lib.hid (bel_box w (gbox (.slice none 0 0) (.slice none 0 0) (.slice none 0 0) (.slice none 0 0)))
  have HX := Lib.hid (hx.keep HB.out)
  have HBs : Hid (w.heap.size + 1 ≤ (w.alloc (gbox (.slice none 0 0) (.slice none 0 0) (.slice none 0 0) (.slice none 0 0))).heap.size) := by show _ ≤ _; simp
  have HE : Hid (ofG l = (ctxS l false, ctxS l true)) := rfl
  clear hx hlx hv
  generalize ofG l = R at *
  generalize ctxS l = cx at *
  generalize dotsS l = dx at *
  go_enter Tryz.func23, Tryz.ntmps23
  go_upto_region 1 with fail
  generalize w.alloc (gbox (.slice none 0 0) (.slice none 0 0) (.slice none 0 0) (.slice none 0 0)) = w1 at *
  go_wp2_with fail
  refine (HD.out false _ HX.out).mono ?_
  rintro e wfa ⟨v, rfl, ho, hb⟩
  obtain ⟨p, j, rfl, hr, -⟩ := ho.row
  have HR := Lib.hid hr
  replace HX := Lib.hid (HX.out.keep hb)
  replace HW := Lib.hid (HW.out.keep hb)
  replace HB := bel_tr HB hb
  replace HBs := Lib.hid (Nat.le_trans HBs.out hb.size)
  clear hb ho hr
  go_wp2_with fail
  refine (HCt.out false p j _ HR.out).mono ?_
  rintro e wfb ⟨x, y, rfl, ho, hb⟩
  obtain ⟨a1, na1, b1, nb1, rfl, rfl⟩ := ho.shape
  have HO1 := Lib.hid (ho.mono HBs.out)
  replace HX := Lib.hid (HX.out.keep hb)
  replace HW := Lib.hid (HW.out.keep hb)
  replace HB := bel_tr HB hb
  replace HBs := Lib.hid (Nat.le_trans HBs.out hb.size)
  clear hb ho HR
  go_wp2_with fail
  refine (HD.out true _ HX.out).mono ?_
  rintro e wta ⟨v, rfl, ho, hb⟩
  obtain ⟨p, j, rfl, hr, -⟩ := ho.row
  have HR := Lib.hid hr
  replace HX := Lib.hid (HX.out.keep hb)
  replace HW := Lib.hid (HW.out.keep hb)
  replace HO1 := Lib.hid (HO1.out.below hb)
  replace HB := bel_tr HB hb
  replace HBs := Lib.hid (Nat.le_trans HBs.out hb.size)
  clear hb ho hr
  go_wp2_with fail
  refine (HCt.out true p j _ HR.out).mono ?_
  rintro e wtb ⟨x, y, rfl, ho, hb⟩
  obtain ⟨a2, na2, b2, nb2, rfl, rfl⟩ := ho.shape
  have HO2 := Lib.hid (ho.mono HBs.out)
  replace HX := Lib.hid (HX.out.keep hb)
  replace HW := Lib.hid (HW.out.keep hb)
  replace HO1 := Lib.hid (HO1.out.below hb)
  replace HB := bel_tr HB hb
  replace HBs := Lib.hid (Nat.le_trans HBs.out hb.size)
  clear hb ho HR
  obtain ⟨⟨u0, r0⟩, f0⟩ := HW.out 0 (by omega)
  obtain ⟨⟨u1, r1⟩, f1⟩ := HW.out 1 (by omega)
  obtain ⟨⟨u2, r2⟩, f2⟩ := HW.out 2 (by omega)
  obtain ⟨⟨u3, r3⟩, f3⟩ := HW.out 3 (by omega)
  have HP := Lib.hid (put_four (x := .slice a1 (cx false).1.length na1) (y := .slice b1 (cx false).2.length nb1) (u := .slice a2 (cx true).1.length na2) (v := .slice b2 (cx true).2.length nb2) HW.out)
  have HO3 : Hid (Og ((((wtb.setCell ⟨w.heap.size, 0, none⟩ (.slice a1 (cx false).1.length na1)).setCell ⟨w.heap.size, 1, none⟩ (.slice b1 (cx false).2.length nb1)).setCell ⟨w.heap.size, 2, none⟩ (.slice a2 (cx true).1.length na2)).setCell ⟨w.heap.size, 3, none⟩ (.slice b2 (cx true).2.length nb2)) w.heap.size (.slice a1 (cx false).1.length na1) (.slice b1 (cx false).2.length nb1) (.slice a2 (cx true).1.length na2) (.slice b2 (cx true).2.length nb2) (cx false, cx true)) := ⟨(Ov.put4 HO1.out (Nat.lt_succ_self _)).mono (Nat.le_succ _), (Ov.put4 HO2.out (Nat.lt_succ_self _)).mono (Nat.le_succ _)⟩
  have HB4 := Lib.hid (below_put4 (g := w.heap.size) (x := .slice a1 (cx false).1.length na1) (y := .slice b1 (cx false).2.length nb1) (u := .slice a2 (cx true).1.length na2) (v := .slice b2 (cx true).2.length nb2) HB.out (Nat.le_refl _))
  have hE := HE.out
  subst hE
  go_wp2_with fail
  generalize (((wtb.setCell ⟨w.heap.size, 0, none⟩ (.slice a1 (cx false).1.length na1)).setCell ⟨w.heap.size, 1, none⟩ (.slice b1 (cx false).2.length nb1)).setCell ⟨w.heap.size, 2, none⟩ (.slice a2 (cx true).1.length na2)).setCell ⟨w.heap.size, 3, none⟩ (.slice b2 (cx true).2.length nb2) = W at *
  have q0 := HP.out.1.1
  have q1 := HP.out.1.2
  have q2 := HP.out.2.1
  have q3 := HP.out.2.2
  (try simp only [Exit.inBlock, Exit.then])
  refine bodyPost_ret (v := gv (.slice a1 (cx false).1.length na1) (.slice b1 (cx false).2.length nb1) (.slice a2 (cx true).1.length na2) (.slice b2 (cx true).2.length nb2)) (by rw [results_cell1 (fn := Tryz.f23) (p := 2) (ty := 27) rfl]; go_simp) rfl ?_
  exact ⟨_, _, _, _, rfl, HO3.out, HB4.out⟩
end Go.Proofs.YtgopkffgljiblaaGreat.Dg
