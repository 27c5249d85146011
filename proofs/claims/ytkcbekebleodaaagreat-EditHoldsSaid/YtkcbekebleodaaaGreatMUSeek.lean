/-
  The order of the nodes; maps in memory; where a node belongs.
-/
import Derived.Test.YtkcbekebleodaaaGreatMNMem
import Derived.Test.YtkcbekebleodaaaGreatMNVal
import Derived.Deep.CutRange
import Derived.Defers
import Derived.Recover
import Derived.Shelf.Abstract
import Derived.Laws.ResultCell
import Derived.Laws.EntriesVeiled

section
namespace Go.Proofs.YtkcbekebleodaaaGreat.Un
set_option linter.unusedVariables false
open Go.RowKit V Go.Shelf D Nd Qs Wk
attribute [local irreducible] Sch.heldN Sch.stepV Sch.stepE

theorem nb_heap {w w' : World} {b : Nat} {k : Nt} (h : Nb w b k) (e : b < w.heap.size → w'.heap[b]? = w.heap[b]?) : Nb w' b k := by
  obtain ⟨h0, h1, h2, h3, h4, h5⟩ := h
  have e := e (lt_of_cell h0)
  exact ⟨(World.cell?_of_block (w := w) e).trans h0, (World.cell?_of_block (w := w) e).trans h1, (World.cell?_of_block (w := w) e).trans h2, (World.cell?_of_block (w := w) e).trans h3, (World.cell?_of_block (w := w) e).trans h4, (World.cell?_of_block (w := w) e).trans h5⟩
/-- How many entries the tree behind a pointer has. -/
def lenOf (w : World) : Value → Nat
  | .pointer (some a) => match w.cell? ⟨a.block, 8, none⟩ with | some v => (intOf v).toNat | none => 0
  | _ => 0
theorem lenOf_at {w : World} {t : Tr} (h : t.In w) : lenOf w (.pointer t.ad) = t.len := by
  cases t with
  | nil => rfl
  | node b k l r =>
    have h4 := h.1.cs
    rw [Tr.ad_node, Tr.len_node]
    simp only [lenOf, h4, intOf]
    omega
/-- Which of two nodes stands before the other one. -/
def cmpB (a b : Nt) : Int := if beforeN a b = true then -1 else if beforeN b a = true then 1 else 0
set_option maxRecDepth 100000 in
set_option maxHeartbeats 2000000 in
theorem order_any (a b : Nt) (w : World) : Calls Tryz.prog 106 #[nv a, nv b] w fun e w' => e = .returned (.int .i64 (cmpB a b)) ∧ Below w.heap.size w w' := by
  have HA := Lib.hid (fun (w : World) => before_any a b w)
  have HC := Lib.hid (fun (w : World) => before_any b a w)
  have HE : Hid (cmpB a b = if beforeN a b = true then -1 else if beforeN b a = true then 1 else 0) := rfl
  have HK := Lib.hid (N2.new a b w)
  have HB := Lib.hid (bel_two w a b)
  generalize cmpB a b = R at *
  generalize beforeN a b = p at *
  generalize beforeN b a = q at *
  go_enter Tryz.func106, Tryz.ntmps106
  go_wp2_with fail
  generalize (w.alloc (.cells (nc a) 53)).alloc (.cells (nc b) 53) = w1 at *
  obtain ⟨⟨k0, k1, k2, k3, k4, k5⟩, j0, j1, j2, j3, j4, j5⟩ := HK.out
  go_wp2_with fail
  refine (HA.out _).mono ?_
  rintro e w2 ⟨rfl, hb⟩
  replace HK := Lib.hid (HK.out.keep hb)
  replace HB := Lib.hid (bel_tr HB.out hb)
  clear hb k0 k1 k2 k3 k4 k5 j0 j1 j2 j3 j4 j5
  cases p with
  | true =>
    go_wp2_with fail
    go_ret
    exact ⟨by rw [HE.out]; rfl, HB.out⟩
  | false =>
    obtain ⟨⟨k0, k1, k2, k3, k4, k5⟩, j0, j1, j2, j3, j4, j5⟩ := HK.out
    go_wp2_with fail
    refine (HC.out _).mono ?_
    rintro e w3 ⟨rfl, hb⟩
    replace HB := Lib.hid (bel_tr HB.out hb)
    clear hb k0 k1 k2 k3 k4 k5 j0 j1 j2 j3 j4 j5
    cases q with
    | true =>
      go_wp2_with fail
      go_ret
      exact ⟨by rw [HE.out]; rfl, HB.out⟩
    | false =>
      go_wp2_with fail
      go_ret
      exact ⟨by rw [HE.out]; rfl, HB.out⟩
theorem enters_order : ∀ args w, (callFunc 106 args).run Tryz.prog w = .ok (.enter 106 args) w := enters_of Tryz.func106 (by kernel_rfl) rfl
theorem cmpB_lt {a b : Nt} (h : a.1 ≠ b.1) : beforeN b a = false ↔ cmpB a b = -1 := by
  unfold cmpB
  rcases h1 : beforeN a b with _ | _
  · have := before_tri h h1
    simp [this]
  · simp [before_asymm h1]
theorem cmpB_gt {a b : Nt} (h : beforeN b a = true) : cmpB a b = 1 := by
  unfold cmpB
  rw [before_asymm h, if_neg (by decide), if_pos h]

/-! ### A map in memory -/
/-- The two cells of a map. -/
def Mc (w : World) (g : Nat) (a : Option Addr) : Prop := w.cell? ⟨g, 0, none⟩ = some (.func (.func 106) #[] #[]) ∧ w.cell? ⟨g, 1, none⟩ = some (.pointer a)
theorem Mc.keep {w w' : World} {g : Nat} {a : Option Addr} (h : Mc w g a) (hb : Below w.heap.size w w') : Mc w' g a := ⟨keep_cell h.1 hb, keep_cell h.2 hb⟩
/-- What is known of a place while it is looked for. -/
def Pl (B : Nat) (w : World) (t : Option Addr) (z : Int) (u : Option Addr) : Prop :=
  w.cell? ⟨B, 0, none⟩ = some (.pointer t) ∧ w.cell? ⟨B, 1, none⟩ = some (.int .i64 z) ∧ w.cell? ⟨B, 2, none⟩ = some (.pointer u) ∧ ∀ o, w.frozen? ⟨B, o, none⟩ = false
theorem Pl.keep {B : Nat} {w w' : World} {t u : Option Addr} {z : Int} (h : Pl B w t z u) (hb : Below w.heap.size w w') : Pl B w' t z u :=
  ⟨keep_cell h.1 hb, keep_cell h.2.1 hb, keep_cell h.2.2.1 hb, fun o => (hb.frozen (p := ⟨B, o, none⟩) (by have := lt_of_cell h.1; simpa using this)).trans (h.2.2.2 o)⟩
theorem Pl.of_heap {B : Nat} {w w' : World} {t u : Option Addr} {z : Int} (h : Pl B w t z u) (e : w'.heap[B]? = w.heap[B]?) : Pl B w' t z u :=
  ⟨(World.cell?_of_block (w := w) e).trans h.1, (World.cell?_of_block (w := w) e).trans h.2.1, (World.cell?_of_block (w := w) e).trans h.2.2.1, fun o => by rw [← h.2.2.2 o]; simp only [World.frozen?, e]⟩
theorem Pl.gb {B g : Nat} {w w' : World} {t u : Option Addr} {z : Int} (h : Pl B w t z u) (hg : w.grownBy w' (some g)) (hne : B ≠ g) : Pl B w' t z u := h.of_heap (hg.block B (lt_of_cell h.1) (by simpa using hne))
theorem Pl.set0 {B : Nat} {w : World} {t u : Option Addr} {z : Int} (h : Pl B w t z u) (x : Option Addr) : Pl B (w.setCell ⟨B, 0, none⟩ (.pointer x)) x z u :=
  ⟨World.cell?_setCell_same' _ _ _ (by simp [h.1]), (World.cell?_setCell_other _ _ _ _ (by simp)).trans h.2.1, (World.cell?_setCell_other _ _ _ _ (by simp)).trans h.2.2.1, fun o => by rw [World.frozen?_setCell]; exact h.2.2.2 o⟩
theorem Pl.set1 {B : Nat} {w : World} {t u : Option Addr} {z : Int} (h : Pl B w t z u) (x : Int) : Pl B (w.setCell ⟨B, 1, none⟩ (.int .i64 x)) t x u :=
  ⟨(World.cell?_setCell_other _ _ _ _ (by simp)).trans h.1, World.cell?_setCell_same' _ _ _ (by simp [h.2.1]), (World.cell?_setCell_other _ _ _ _ (by simp)).trans h.2.2.1, fun o => by rw [World.frozen?_setCell]; exact h.2.2.2 o⟩
theorem Pl.set2 {B : Nat} {w : World} {t u : Option Addr} {z : Int} (h : Pl B w t z u) (x : Option Addr) : Pl B (w.setCell ⟨B, 2, none⟩ (.pointer x)) t z x :=
  ⟨(World.cell?_setCell_other _ _ _ _ (by simp)).trans h.1, (World.cell?_setCell_other _ _ _ _ (by simp)).trans h.2.1, World.cell?_setCell_same' _ _ _ (by simp [h.2.2.1]), fun o => by rw [World.frozen?_setCell]; exact h.2.2.2 o⟩
theorem Pl.put3 {B : Nat} {w : World} {t u : Option Addr} {z : Int} (h : Pl B w t z u) (t' : Option Addr) (z' : Int) (u' : Option Addr) : Pl B (((w.setCell ⟨B, 0, none⟩ (.pointer t')).setCell ⟨B, 1, none⟩ (.int .i64 z')).setCell ⟨B, 2, none⟩ (.pointer u')) t' z' u' := ((h.set0 t').set1 z').set2 u'
theorem nb_gb {w w' : World} {b g : Nat} {k : Nt} (h : Nb w b k) (hg : w.grownBy w' (some g)) (hne : b ≠ g) : Nb w' b k := nb_heap h fun hl => hg.block b hl (by simpa using hne)
def ndOf (B : Nat) (w : World) : Nat := match w.cell? ⟨B, 2, none⟩ with | some v => lenOf w v | none => 0
theorem load_cmp {w : World} {g : Nat} {v : Value} (h : w.cell? ⟨g, 0, none⟩ = some v) : (Instr.loadAt 118 (.pointer (some ⟨g, 0, none⟩))).run Tryz.prog w = .ok v w := by
  go_simp

theorem results_cell1 {P : Program} {fn : Func} {p : Tmp} {ty : TypeId} (h : fn.results = #[.cell p ty]) (tmps : Array Value) (w : World) :
    (results fn tmps).run P w = ((asAddr (tmps.getD p undef)).run P w).andThen fun a w₁ => (loadVar ty a).run P w₁ := by
  simp only [results, h]
  simp [Sem.run_bind, Result.andThen]
theorem ret_place {w : World} {B : Nat} {t u : Option Addr} {z : Int} (h : Pl B w t z u) {tmps : Array Value} (h4 : tmps.getD 4 undef = .pointer (some ⟨B, 0, none⟩)) :
    (results Tryz.f131 tmps).run Tryz.prog w = .ok (.agg #[.pointer t, .int .i64 z, .pointer u]) w := by
  obtain ⟨k0, k1, k2, -⟩ := h
  rw [results_cell1 (fn := Tryz.f131) (p := 4) (ty := 150) rfl, h4]
  go_simp
/-- The classes of worlds of the regions that draw. -/
def SkA (g G : Nat) (k : Nt) (a : Option Addr) (p b : Nat) (U : Tr) (w : World) : Prop := Mc w g a ∧ w.cell? ⟨p, 2, none⟩ = some (.pointer (some ⟨b, 0, none⟩)) ∧ U.In w ∧ Nb w G k
def SkB (p b : Nat) (U : Tr) (w : World) : Prop := w.cell? ⟨p, 2, none⟩ = some (.pointer (some ⟨b, 0, none⟩)) ∧ U.In w
theorem SkA.keep {g G : Nat} {k : Nt} {a : Option Addr} {p b : Nat} {U : Tr} {w w' : World} (h : SkA g G k a p b U w) (hb : Below w.heap.size w w') : SkA g G k a p b U w' := ⟨h.1.keep hb, keep_cell h.2.1 hb, h.2.2.1.keep hb, h.2.2.2.keep hb⟩
theorem ndOf_at {B : Nat} {w : World} {t : Option Addr} {z : Int} {u : Tr} (h : Pl B w t z u.ad) (hu : u.In w) : ndOf B w = u.len := by
  simp only [ndOf, h.2.2.1]
  exact lenOf_at hu

set_option maxRecDepth 100000 in
set_option maxHeartbeats 4000000 in
theorem seek_any (g : Nat) (T : Tr) (k : Nt) (w : World) (hm : Mc w g T.ad) (h : T.In w) (hs : SrtB T.list) (hfr : Fr T.list k) (hl : T.len ≤ 1000000) :
    Calls Tryz.prog 131 #[.pointer (some ⟨g, 0, none⟩), nv k] w fun e w' => e = .returned (.agg #[.pointer T.ad, .int .i64 (rank T.list k : Nat), .pointer none]) ∧ Below w.heap.size w w' := by
  have HT := Lib.hid h
  have HM := Lib.hid hm
  have HF := Lib.hid (fun (b : Nt) (w : World) => order_any k b w)
  have EF := enters_order
  have HSr := Lib.hid hs
  have HFr := Lib.hid hfr
  have HLn := Lib.hid hl
  have HLe := Lib.hid (fun (t : Tr) (w : World) (h : t.In w) => len_any t w h)
  obtain ⟨Z, hZ⟩ : ∃ Z, Z = rank T.list k := ⟨_, rfl⟩
  rw [← hZ]
  have HZ := Lib.hid hZ
  have Q1 : ∀ w, (Mc w g T.ad) → _ := fun w h => load_tree (w := w) h.2
  have HQ := Lib.hid Q1
  have HM0 : Hid (Mc (w.alloc (.cells (nc k) 53)) g T.ad) := hm.keep (bel_box _ _)
  have HK0 : Hid (Nb (w.alloc (.cells (nc k) 53)) w.heap.size k) := Nb.new w k
  have HB0 : Hid (Below w.heap.size w (w.alloc (.cells (nc k) 53))) := bel_box _ _
  have hs0 : (w.alloc (.cells (nc k) 53)).heap.size = w.heap.size + 1 := by simp
  clear hm h hs hl hZ Q1 hfr
  go_enter Tryz.func131, Tryz.ntmps131
  go_wp2_with fail
  generalize w.alloc (.cells (nc k) 53) = w0 at *
  have HB : Hid (Below w.heap.size w (w0.alloc (Obj.cells #[Value.pointer none, Value.int IntKind.i64 0, Value.pointer none] 150))) := HB0.out.alloc HB0.out.size _
  have HR : Hid (Pl (w.heap.size + 1) (w0.alloc (Obj.cells #[Value.pointer none, Value.int IntKind.i64 0, Value.pointer none] 150)) none 0 none) := by rw [← hs0]; exact ⟨by go_simp, by go_simp, by go_simp, fun o => by go_simp⟩
  have hsz : (w0.alloc (Obj.cells #[Value.pointer none, Value.int IntKind.i64 0, Value.pointer none] 150)).heap.size = w.heap.size + 1 + 1 := by simp [hs0]
  have HM1 : Hid (Mc (w0.alloc (Obj.cells #[Value.pointer none, Value.int IntKind.i64 0, Value.pointer none] 150)).drew g T.ad) := (HM0.out.keep (bel_box _ _)).keep (Below.refl _ _).drew
  have HK1 : Hid (Nb (w0.alloc (Obj.cells #[Value.pointer none, Value.int IntKind.i64 0, Value.pointer none] 150)).drew w.heap.size k) := (HK0.out.keep (bel_box _ _)).keep (Below.refl _ _).drew
  refine Sch.wp_region_tn (fun w => Mc w g T.ad) (.val 0 (.val 1 (.val 2 (.val 3 (.val 4 (.val 5 (.val 6 (.val 7 (.val 8 (.one 9 (.one 10 .done))))))))))) (by kernel_rfl) (by kernel_rfl) HM1.out ?_
  repeat (first
    | (refine Sch.tn_q rfl rfl rfl (fun K hK => ?_); go_big_quiet_op; (first | refine hK _ ?_ | refine ⟨_, fun _ _ => rfl, hK _ ?_⟩); clear hK K)
    | (refine Sch.tn_chk _ _ _ rfl rfl rfl rfl rfl ?_; simp only [Act.put, List.setIfInBounds_toArray, List.set_cons_zero, List.set_cons_succ])
    | (refine Sch.tn_load _ _ _ _ _ rfl rfl rfl rfl (by first | exact HQ.out) rfl ?_; simp only [Act.put, List.setIfInBounds_toArray, List.set_cons_zero, List.set_cons_succ]))
  replace HB : Hid (Below w.heap.size w (w0.alloc (Obj.cells #[Value.pointer none, Value.int IntKind.i64 0, Value.pointer none] 150)).drew) := HB.out.drew
  replace HR : Hid (Pl (w.heap.size + 1) (w0.alloc (Obj.cells #[Value.pointer none, Value.int IntKind.i64 0, Value.pointer none] 150)).drew none 0 none) := HR.out
  have hsz2 : (w0.alloc (Obj.cells #[Value.pointer none, Value.int IntKind.i64 0, Value.pointer none] 150)).drew.heap.size = w.heap.size + 1 + 1 := hsz
  clear hsz
  generalize (w0.alloc (Obj.cells #[Value.pointer none, Value.int IntKind.i64 0, Value.pointer none] 150)).drew = w1 at *
  repeat (first
    | (refine Sch.tn_q rfl rfl rfl (fun K hK => ?_); go_big_quiet_op; (first | refine hK _ ?_ | refine ⟨_, fun _ _ => rfl, hK _ ?_⟩); clear hK K)
    | (refine Sch.tn_chk _ _ _ rfl rfl rfl rfl rfl ?_; simp only [Act.put, List.setIfInBounds_toArray, List.set_cons_zero, List.set_cons_succ]))
  refine Sch.tn_e rfl rfl (fun K hK => ?_)
  go_wp2_with fail
  have HB2 : Hid (Below w.heap.size w (w1.alloc (Obj.cells #[Value.pointer none, Value.int IntKind.i64 0, Value.pointer none] 150))) := HB.out.alloc HB.out.size _
  have HR2 : Hid (Pl (w.heap.size + 1) (w1.alloc (Obj.cells #[Value.pointer none, Value.int IntKind.i64 0, Value.pointer none] 150)) none 0 none) := HR.out.keep (bel_box _ _)
  have HP : Hid (Pl (w.heap.size + 1 + 1) (w1.alloc (Obj.cells #[Value.pointer none, Value.int IntKind.i64 0, Value.pointer none] 150)) none 0 none) := by rw [← hsz2]; exact ⟨by go_simp, by go_simp, by go_simp, fun o => by go_simp⟩
  have HM2 : Hid (Mc (w1.alloc (Obj.cells #[Value.pointer none, Value.int IntKind.i64 0, Value.pointer none] 150)) g T.ad) := HM1.out.keep (bel_box _ _)
  have HK2 : Hid (Nb (w1.alloc (Obj.cells #[Value.pointer none, Value.int IntKind.i64 0, Value.pointer none] 150)) w.heap.size k) := HK1.out.keep (bel_box _ _)
  have hsz3 : (w1.alloc (Obj.cells #[Value.pointer none, Value.int IntKind.i64 0, Value.pointer none] 150)).heap.size = w.heap.size + 1 + 1 + 1 := by simp [hsz2]
  clear HB HR HM1 hsz2 HK1
  generalize w1.alloc (Obj.cells #[Value.pointer none, Value.int IntKind.i64 0, Value.pointer none] 150) = w2 at *
  refine hK _ _ HM2.out ?_
  clear hK K
  obtain ⟨p0, p1, p2, p3⟩ := HP.out
  have hf0 := p3 0
  have hf1 := p3 1
  have hf2 := p3 2
  refine Sch.tn_e rfl rfl (fun K hK => ?_)
  go_wp2_with fail
  have HP2 := Lib.hid (HP.out.put3 T.ad 0 T.ad)
  have HR3 := Lib.hid ((((HR2.out.gb (gb_setCell w2 (w.heap.size + 1 + 1) 0 (Value.pointer T.ad)) (by omega)).gb (gb_setCell _ (w.heap.size + 1 + 1) 1 (Value.int IntKind.i64 0)) (by omega))).gb (gb_setCell _ (w.heap.size + 1 + 1) 2 (Value.pointer T.ad)) (by omega))
  have HK3 := Lib.hid (nb_gb (nb_gb (nb_gb HK2.out (gb_setCell w2 (w.heap.size + 1 + 1) 0 (Value.pointer T.ad)) (by omega)) (gb_setCell _ (w.heap.size + 1 + 1) 1 (Value.int IntKind.i64 0)) (by omega)) (gb_setCell _ (w.heap.size + 1 + 1) 2 (Value.pointer T.ad)) (by omega))
  have HB3 := Lib.hid (((HB2.out.setCell (p := ⟨w.heap.size + 1 + 1, 0, none⟩) (by simp; omega) (Value.pointer T.ad)).setCell (p := ⟨w.heap.size + 1 + 1, 1, none⟩) (by simp; omega) (Value.int IntKind.i64 0)).setCell (p := ⟨w.heap.size + 1 + 1, 2, none⟩) (by simp; omega) (Value.pointer T.ad))
  clear p0 p1 p2 p3 hf0 hf1 hf2 HB2 HR2 HP HM2 hsz3 HQ HK2 HM0 HK0 HB0 hs0
  generalize (((w2.setCell ⟨w.heap.size + 1 + 1, 0, none⟩ (Value.pointer T.ad)).setCell ⟨w.heap.size + 1 + 1, 1, none⟩ (Value.int IntKind.i64 0)).setCell ⟨w.heap.size + 1 + 1, 2, none⟩ (Value.pointer T.ad)) = w3 at *
  refine hK _ _ (HM.out.keep HB3.out) ?_
  clear hK K
  refine Sch.tn_n ?_
  go_wp2_with fail
  go_loopw [6] (fun _ wr => ∃ (U : Tr) (z : Nat), Hid (Pl (w.heap.size + 1 + 1) wr T.ad z U.ad) ∧ Hid (Pl (w.heap.size + 1) wr none 0 none) ∧ Hid (Below w.heap.size w wr) ∧ Hid (Nb wr w.heap.size k) ∧ Hid (∀ W, T.In W → U.In W) ∧ Hid (SrtB U.list) ∧ Hid (Fr U.list k) ∧ Hid (Z = z + rank U.list k) ∧ z + U.len ≤ 1000000) (fun _ wr => ndOf (w.heap.size + 1 + 1) wr)
  case atStart => exact ⟨T, 0, HP2, HR3, HB3, HK3, fun _ h => h, HSr, HFr, by show _ = _; rw [HZ.out]; omega, by have := HLn.out; omega⟩
  case round =>
    obtain ⟨U, z, JP, JR, JB, JK, JX, JS, JFr, JZ, hzl⟩ := hrel
    have JT := Lib.hid (JX.out w HT.out)
    obtain ⟨p0, p1, p2, p3⟩ := JP.out
    have hf1 := p3 1
    have hf2 := p3 2
    cases U with
    | nil =>
      obtain ⟨r0, r1, r2, r3⟩ := JR.out
      have g0 := r3 0
      have g1 := r3 1
      have g2 := r3 2
      simp only [Tr.ad] at p2
      have hBR : (w.heap.size + 1 + 1 : Nat) ≠ w.heap.size + 1 := by omega
      clear r3 p3
      go_wp2_with fail
      (try simp only [Exit.inBlock, Exit.then])
      refine bodyPost_ret (v := .agg #[.pointer T.ad, .int .i64 (z : Int), .pointer none]) (ret_place (JR.out.put3 T.ad (z : Int) none) rfl) rfl ?_
      refine ⟨?_, ((JB.out.setCell (p := ⟨w.heap.size + 1, 0, none⟩) (by simp) _).setCell (p := ⟨w.heap.size + 1, 1, none⟩) (by simp) _).setCell (p := ⟨w.heap.size + 1, 2, none⟩) (by simp) _⟩
      rw [JZ.out]; simp [Tr.list, rank, Tr.ad]
    | node b uk l r =>
      rw [Tr.ad_node] at p2
      rw [Tr.len_node] at hzl
      have JTr := Lib.hid (JT.out.keep JB.out)
      have HMr := Lib.hid (HM.out.keep JB.out)
      have hnd : ndOf (w.heap.size + 1 + 1) wr = l.len + 1 + r.len := by rw [ndOf_at JP.out JTr.out, Tr.len_node]
      have hSr : Hid (SrtB (l.list ++ uk :: r.list)) := JS
      have hFr : Hid (Fr (l.list ++ uk :: r.list) k) := JFr
      have HS3 : Hid (SkA g w.heap.size k T.ad (w.heap.size + 1 + 1) b (Tr.node b uk l r) wr.drew) := ⟨HMr.out.keep (Below.refl _ _).drew, p2, JTr.out.drew, JK.out.keep (Below.refl _ _).drew⟩
      have B1 : ∀ w', SkA g w.heap.size k T.ad (w.heap.size + 1 + 1) b (Tr.node b uk l r) w' → _ := fun w' h => load_cmp (w := w') h.1.1
      have B2 : ∀ w', SkA g w.heap.size k T.ad (w.heap.size + 1 + 1) b (Tr.node b uk l r) w' → _ := fun w' h => load_tree (w := w') h.2.1
      have B3 : ∀ w', SkA g w.heap.size k T.ad (w.heap.size + 1 + 1) b (Tr.node b uk l r) w' → _ := fun w' h => nd_k (w := w') h.2.2.1.1
      have B6 : ∀ w', SkA g w.heap.size k T.ad (w.heap.size + 1 + 1) b (Tr.node b uk l r) w' → _ := fun w' h => h.2.2.2.load
      have B4 : ∀ w', SkB (w.heap.size + 1 + 1) b (Tr.node b uk l r) w' → _ := fun w' h => load_tree (w := w') h.1
      have B5 : ∀ w', SkB (w.heap.size + 1 + 1) b (Tr.node b uk l r) w' → _ := fun w' h => nd_l (w := w') h.2.1
      have A1 := Lib.hid B1
      have A2 := Lib.hid B2
      have A3 := Lib.hid B3
      have A4 := Lib.hid B4
      have A5 := Lib.hid B5
      have A6 := Lib.hid B6
      have hzi : (z : Int) ≤ 1000000 := by omega
      have hll : (l.len : Int) ≤ 1000000 := by omega
      clear B1 B2 B3 B4 B5 B6 p3
      have HC := Lib.hid (HF.out uk wr.drew)
      by_cases h1 : beforeN uk k = false
      · have hz1 : Hid (Z = z + rank l.list k) := by
          show _ = _
          rw [JZ.out, list_node, rank_l h1]
        rw [(cmpB_lt hFr.out.parts.2.1.symm).1 h1] at HC
        clear JZ JS JFr h1
        go_wp2_with fail
        clear p0 p1 p2 hf1 hf2
        refine Sch.wp_region_tn (SkA g w.heap.size k T.ad (w.heap.size + 1 + 1) b (Tr.node b uk l r)) (.val 0 (.val 1 (.val 2 (.val 3 (.val 4 (.val 5 (.val 6 (.val 7 (.val 8 (.val 9 (.one 10 (.val 11 .done)))))))))))) (by kernel_rfl) (by kernel_rfl) HS3.out ?_
        repeat (first
          | (refine Sch.tn_q rfl rfl rfl (fun K hK => ?_); go_big_quiet_op; (first | refine hK _ ?_ | refine ⟨_, fun _ _ => rfl, hK _ ?_⟩); clear hK K)
          | (refine Sch.tn_chk _ _ _ rfl rfl rfl rfl rfl ?_; simp only [Act.put, List.setIfInBounds_toArray, List.set_cons_zero, List.set_cons_succ])
          | (refine Sch.tn_load _ _ _ _ _ rfl rfl rfl rfl (by first | exact A1.out | exact A2.out | exact A3.out | exact A6.out) rfl ?_; simp only [Act.put, List.setIfInBounds_toArray, List.set_cons_zero, List.set_cons_succ]))
        refine Sch.tn_e rfl rfl (fun K hK => ?_)
        go_wp2_with fail
        refine HC.out.mono ?_
        rintro e w5 ⟨rfl, hb⟩
        replace HS3 := Lib.hid (HS3.out.keep hb)
        refine hK _ _ HS3.out ?_
        clear hK K
        repeat (first
          | (refine Sch.tn_q rfl rfl rfl (fun K hK => ?_); go_big_quiet_op; (first | refine hK _ ?_ | refine ⟨_, fun _ _ => rfl, hK _ ?_⟩); clear hK K)
          | (refine Sch.tn_chk _ _ _ rfl rfl rfl rfl rfl ?_; simp only [Act.put, List.setIfInBounds_toArray, List.set_cons_zero, List.set_cons_succ]))
        refine Sch.tn_n ?_
        replace JP := Lib.hid ((JP.out.keep (Below.refl _ _).drew).keep hb)
        replace JR := Lib.hid ((JR.out.keep (Below.refl _ _).drew).keep hb)
        replace JK := Lib.hid ((JK.out.keep (Below.refl _ _).drew).keep hb)
        replace JB := Lib.hid (bel_tr JB.out.drew hb)
        clear hb HC
        generalize w5 = wq at *
        obtain ⟨p0, p1, p2, p3⟩ := JP.out
        have hf1 := p3 1
        have hf2 := p3 2
        rw [Tr.ad_node] at p2
        have k2 := HS3.out.2.2.1.1.cl
        have k3 := HS3.out.2.2.1.1.cr
        clear p3
        go_wp2_with fail
        have JP2 := Lib.hid (JP.out.set2 l.ad)
        have JR2 := Lib.hid (JR.out.gb (gb_setCell _ (w.heap.size + 1 + 1) 2 (.pointer l.ad)) (by omega))
        have JK2 := Lib.hid (nb_gb JK.out (gb_setCell _ (w.heap.size + 1 + 1) 2 (.pointer l.ad)) (by omega))
        have JB2 := Lib.hid (JB.out.setCell (p := ⟨w.heap.size + 1 + 1, 2, none⟩) (by simp; omega) (.pointer l.ad))
        go_roundw
        case rel => exact ⟨l, z, JP2, JR2, JB2, JK2, fun W h => (JX.out W h).2.1, (srt_parts hSr.out).1, hFr.out.parts.1, hz1, by omega⟩
        case measure =>
          rw [ndOf_at JP2.out (JT.out.2.1.keep JB2.out), hnd]
          omega
      · have h2 : beforeN uk k = true := by simpa using h1
        have hz2 : Hid (Z = z + (l.len + 1) + rank r.list k) := by
          show _ = _
          rw [JZ.out, list_node, rank_r hSr.out h2]; unfold Tr.len; omega
        rw [cmpB_gt h2] at HC
        clear JZ JS JFr h1 h2
        go_wp2_with fail
        clear p0 p1 p2 hf1 hf2
        refine Sch.wp_region_tn (SkA g w.heap.size k T.ad (w.heap.size + 1 + 1) b (Tr.node b uk l r)) (.val 0 (.val 1 (.val 2 (.val 3 (.val 4 (.val 5 (.val 6 (.val 7 (.val 8 (.val 9 (.one 10 (.val 11 .done)))))))))))) (by kernel_rfl) (by kernel_rfl) HS3.out ?_
        repeat (first
          | (refine Sch.tn_q rfl rfl rfl (fun K hK => ?_); go_big_quiet_op; (first | refine hK _ ?_ | refine ⟨_, fun _ _ => rfl, hK _ ?_⟩); clear hK K)
          | (refine Sch.tn_chk _ _ _ rfl rfl rfl rfl rfl ?_; simp only [Act.put, List.setIfInBounds_toArray, List.set_cons_zero, List.set_cons_succ])
          | (refine Sch.tn_load _ _ _ _ _ rfl rfl rfl rfl (by first | exact A1.out | exact A2.out | exact A3.out | exact A6.out) rfl ?_; simp only [Act.put, List.setIfInBounds_toArray, List.set_cons_zero, List.set_cons_succ]))
        refine Sch.tn_e rfl rfl (fun K hK => ?_)
        go_wp2_with fail
        refine HC.out.mono ?_
        rintro e w5 ⟨rfl, hb⟩
        replace HS3 := Lib.hid (HS3.out.keep hb)
        refine hK _ _ HS3.out ?_
        clear hK K
        repeat (first
          | (refine Sch.tn_q rfl rfl rfl (fun K hK => ?_); go_big_quiet_op; (first | refine hK _ ?_ | refine ⟨_, fun _ _ => rfl, hK _ ?_⟩); clear hK K)
          | (refine Sch.tn_chk _ _ _ rfl rfl rfl rfl rfl ?_; simp only [Act.put, List.setIfInBounds_toArray, List.set_cons_zero, List.set_cons_succ]))
        refine Sch.tn_n ?_
        replace JP := Lib.hid ((JP.out.keep (Below.refl _ _).drew).keep hb)
        replace JR := Lib.hid ((JR.out.keep (Below.refl _ _).drew).keep hb)
        replace JK := Lib.hid ((JK.out.keep (Below.refl _ _).drew).keep hb)
        replace JB := Lib.hid (bel_tr JB.out.drew hb)
        clear hb HC
        generalize w5 = wq at *
        obtain ⟨p0, p1, p2, p3⟩ := JP.out
        have hf1 := p3 1
        have hf2 := p3 2
        rw [Tr.ad_node] at p2
        have k2 := HS3.out.2.2.1.1.cl
        have k3 := HS3.out.2.2.1.1.cr
        clear p3
        go_wp2_with fail
        have HS5 : Hid (SkB (w.heap.size + 1 + 1) b (Tr.node b uk l r) wq.drew) := ⟨HS3.out.2.1, HS3.out.2.2.1.drew⟩
        clear k2 k3
        refine Sch.wp_region_tn (SkB (w.heap.size + 1 + 1) b (Tr.node b uk l r)) (.val 0 (.val 2 (.val 3 (.val 4 (.val 5 (.val 6 (.two 1 (.one 7 (.val 8 (.val 9 (.val 10 (.one 11 .done))))) 7 (.val 8 (.one 1 (.val 9 (.val 10 (.one 11 .done)))))))))))) (by kernel_rfl) (by kernel_rfl) HS5.out ?_
        repeat (first
          | (refine Sch.tn_q rfl rfl rfl (fun K hK => ?_); go_big_quiet_op; (first | refine hK _ ?_ | refine ⟨_, fun _ _ => rfl, hK _ ?_⟩); clear hK K)
          | (refine Sch.tn_chk _ _ _ rfl rfl rfl rfl rfl ?_; simp only [Act.put, List.setIfInBounds_toArray, List.set_cons_zero, List.set_cons_succ])
          | (refine Sch.tn_load _ _ _ _ _ rfl rfl rfl rfl (by first | exact A4.out | exact A5.out) rfl ?_; simp only [Act.put, List.setIfInBounds_toArray, List.set_cons_zero, List.set_cons_succ]))
        replace JP := Lib.hid (JP.out.keep (Below.refl _ _).drew)
        replace JR := Lib.hid (JR.out.keep (Below.refl _ _).drew)
        replace JK := Lib.hid (JK.out.keep (Below.refl _ _).drew)
        replace JB := Lib.hid JB.out.drew
        have HC5 := Lib.hid (HLe.out l wq.drew HS5.out.2.2.1)
        clear HS3 p0 p1 p2 hf1 hf2
        generalize wq.drew = wz at *
        obtain ⟨p0, p1, p2, p3⟩ := JP.out
        have hf1 := p3 1
        clear p3
        refine Sch.tn_two ?_ ?_
        · skip
          refine Sch.tn_e rfl rfl (fun K hK => ?_)
          go_wp2_with fail
          refine hK _ _ HS5.out ?_
          clear hK K
          refine Sch.tn_e rfl rfl (fun K hK => ?_)
          go_wp2_with fail
          refine HC5.out.mono ?_
          rintro e w6 ⟨rfl, rfl⟩
          refine hK _ _ HS5.out ?_
          clear hK K
          repeat (first
            | (refine Sch.tn_q rfl rfl rfl (fun K hK => ?_); go_big_quiet_op; (first | refine hK _ ?_ | refine ⟨_, fun _ _ => rfl, hK _ ?_⟩); clear hK K)
            | (refine Sch.tn_chk _ _ _ rfl rfl rfl rfl rfl ?_; simp only [Act.put, List.setIfInBounds_toArray, List.set_cons_zero, List.set_cons_succ]))
          refine Sch.tn_e rfl rfl (fun K hK => ?_)
          go_wp2_with fail
          have JP2 := Lib.hid (JP.out.set1 ((z : Int) + ((l.len : Int) + 1)))
          have JR2 := Lib.hid (JR.out.gb (gb_setCell _ (w.heap.size + 1 + 1) 1 (.int .i64 ((z : Int) + ((l.len : Int) + 1)))) (by omega))
          have JK2 := Lib.hid (nb_gb JK.out (gb_setCell _ (w.heap.size + 1 + 1) 1 (.int .i64 ((z : Int) + ((l.len : Int) + 1)))) (by omega))
          have JB2 := Lib.hid (JB.out.setCell (p := ⟨w.heap.size + 1 + 1, 1, none⟩) (by simp; omega) (.int .i64 ((z : Int) + ((l.len : Int) + 1))))
          refine hK _ _ (⟨JP2.out.2.2.1, JT.out.keep JB2.out⟩) ?_
          clear hK K
          refine Sch.tn_n ?_
          clear p0 p1 p2 hf1 JP JR JB JK HS5
          generalize World.setCell _ ⟨w.heap.size + 1 + 1, 1, none⟩ (.int .i64 ((z : Int) + ((l.len : Int) + 1))) = wy at *
          obtain ⟨p0, p1, p2, p3⟩ := JP2.out
          have hf2 := p3 2
          have k3 := (JT.out.keep JB2.out).1.cr
          rw [Tr.ad_node] at p2
          clear p3
          go_wp2_with fail
          have JP3 := Lib.hid (JP2.out.set2 r.ad)
          have JR3 := Lib.hid (JR2.out.gb (gb_setCell _ (w.heap.size + 1 + 1) 2 (.pointer r.ad)) (by omega))
          have JK3 := Lib.hid (nb_gb JK2.out (gb_setCell _ (w.heap.size + 1 + 1) 2 (.pointer r.ad)) (by omega))
          have JB3 := Lib.hid (JB2.out.setCell (p := ⟨w.heap.size + 1 + 1, 2, none⟩) (by simp; omega) (.pointer r.ad))
          go_roundw
          case rel => exact ⟨r, z + (l.len + 1), by rw [show ((z + (l.len + 1) : Nat) : Int) = (z : Int) + ((l.len : Int) + 1) by omega]; exact JP3, JR3, JB3, JK3, fun W h => (JX.out W h).2.2, (srt_parts hSr.out).2, hFr.out.parts.2.2, hz2, by omega⟩
          case measure =>
            rw [ndOf_at JP3.out (JT.out.2.2.keep JB3.out), hnd]
            omega
        · skip
          refine Sch.tn_e rfl rfl (fun K hK => ?_)
          go_wp2_with fail
          refine HC5.out.mono ?_
          rintro e w6 ⟨rfl, rfl⟩
          refine hK _ _ HS5.out ?_
          clear hK K
          repeat (first
            | (refine Sch.tn_q rfl rfl rfl (fun K hK => ?_); go_big_quiet_op; (first | refine hK _ ?_ | refine ⟨_, fun _ _ => rfl, hK _ ?_⟩); clear hK K)
            | (refine Sch.tn_chk _ _ _ rfl rfl rfl rfl rfl ?_; simp only [Act.put, List.setIfInBounds_toArray, List.set_cons_zero, List.set_cons_succ]))
          refine Sch.tn_e rfl rfl (fun K hK => ?_)
          go_wp2_with fail
          refine hK _ _ HS5.out ?_
          clear hK K
          repeat (first
            | (refine Sch.tn_q rfl rfl rfl (fun K hK => ?_); go_big_quiet_op; (first | refine hK _ ?_ | refine ⟨_, fun _ _ => rfl, hK _ ?_⟩); clear hK K)
            | (refine Sch.tn_chk _ _ _ rfl rfl rfl rfl rfl ?_; simp only [Act.put, List.setIfInBounds_toArray, List.set_cons_zero, List.set_cons_succ]))
          refine Sch.tn_e rfl rfl (fun K hK => ?_)
          go_wp2_with fail
          have JP2 := Lib.hid (JP.out.set1 ((z : Int) + ((l.len : Int) + 1)))
          have JR2 := Lib.hid (JR.out.gb (gb_setCell _ (w.heap.size + 1 + 1) 1 (.int .i64 ((z : Int) + ((l.len : Int) + 1)))) (by omega))
          have JK2 := Lib.hid (nb_gb JK.out (gb_setCell _ (w.heap.size + 1 + 1) 1 (.int .i64 ((z : Int) + ((l.len : Int) + 1)))) (by omega))
          have JB2 := Lib.hid (JB.out.setCell (p := ⟨w.heap.size + 1 + 1, 1, none⟩) (by simp; omega) (.int .i64 ((z : Int) + ((l.len : Int) + 1))))
          refine hK _ _ (⟨JP2.out.2.2.1, JT.out.keep JB2.out⟩) ?_
          clear hK K
          refine Sch.tn_n ?_
          clear p0 p1 p2 hf1 JP JR JB JK HS5
          generalize World.setCell _ ⟨w.heap.size + 1 + 1, 1, none⟩ (.int .i64 ((z : Int) + ((l.len : Int) + 1))) = wy at *
          obtain ⟨p0, p1, p2, p3⟩ := JP2.out
          have hf2 := p3 2
          have k3 := (JT.out.keep JB2.out).1.cr
          rw [Tr.ad_node] at p2
          clear p3
          go_wp2_with fail
          have JP3 := Lib.hid (JP2.out.set2 r.ad)
          have JR3 := Lib.hid (JR2.out.gb (gb_setCell _ (w.heap.size + 1 + 1) 2 (.pointer r.ad)) (by omega))
          have JK3 := Lib.hid (nb_gb JK2.out (gb_setCell _ (w.heap.size + 1 + 1) 2 (.pointer r.ad)) (by omega))
          have JB3 := Lib.hid (JB2.out.setCell (p := ⟨w.heap.size + 1 + 1, 2, none⟩) (by simp; omega) (.pointer r.ad))
          go_roundw
          case rel => exact ⟨r, z + (l.len + 1), by rw [show ((z + (l.len + 1) : Nat) : Int) = (z : Int) + ((l.len : Int) + 1) by omega]; exact JP3, JR3, JB3, JK3, fun W h => (JX.out W h).2.2, (srt_parts hSr.out).2, hFr.out.parts.2.2, hz2, by omega⟩
          case measure =>
            rw [ndOf_at JP3.out (JT.out.2.2.keep JB3.out), hnd]
            omega
end Go.Proofs.YtkcbekebleodaaaGreat.Un
end

/-
  Maps in memory: none, all, find.
-/
section
namespace Go.Proofs.YtkcbekebleodaaaGreat.Un
set_option linter.unusedVariables false
open Go.RowKit V Go.Shelf D Nd Qs Wk
attribute [local irreducible] Sch.heldN Sch.stepV Sch.stepE

set_option maxRecDepth 100000 in
theorem fn_nil (f : FuncId) (w : World) : (binOp .eql 118 (.func (.func f) #[] #[]) .nilFunc).run Tryz.prog w = .ok (.bool false) w := by kernel_rfl
/-- No map: nil, or one that is zero. -/
def No (w : World) (a : Option Addr) : Prop := a = none ∨ ∃ g, a = some ⟨g, 0, none⟩ ∧ w.cell? ⟨g, 0, none⟩ = some .nilFunc ∧ w.cell? ⟨g, 1, none⟩ = some (.pointer none)
set_option maxRecDepth 100000 in
theorem none_yes (g : Nat) (a : Option Addr) (w : World) (h : Mc w g a) : Calls Tryz.prog 130 #[.pointer (some ⟨g, 0, none⟩)] w fun e w' => e = .returned (.bool false) ∧ w' = w := by
  obtain ⟨h0, h1⟩ := h
  have hq := fn_nil 106
  go_enter Tryz.func130, Tryz.ntmps130
  go_wp2_with fail
  go_ret
  exact ⟨rfl, rfl⟩
set_option maxRecDepth 100000 in
theorem all_yes (g : Nat) (a : Option Addr) (w : World) (h : Mc w g a) : Calls Tryz.prog 145 #[.pointer (some ⟨g, 0, none⟩)] w fun e w' => e = .returned (.pointer a) ∧ w' = w := by
  obtain ⟨h0, h1⟩ := h
  go_enter Tryz.func145, Tryz.ntmps145
  go_wp2_with fail
  go_ret
  exact ⟨rfl, rfl⟩
set_option maxRecDepth 100000 in
theorem catch_any (w : World) : CallsD Tryz.prog 129 #[] .returning w fun e u' w' => e = .returned (.tuple #[]) ∧ u' = .returning ∧ w' = w := by
  refine callsD_of_wpS Tryz.func129 rfl fun c₀ cs hu => ?_
  apply wpS_region
  simp [wpOpsS, go_sem, recoverD, hu, Tryz.ntmps129, bodyPostS, results, Tryz.results129]
  cases c₀
  simp_all

theorem ret_find {w : World} {B : Nat} {t u : Option Addr} {z : Int} (h : Pl B w t z u) (bb : Bool) {tmps : Array Value} (h4 : tmps.getD 4 undef = .pointer (some ⟨B, 0, none⟩)) (h5 : tmps.getD 5 undef = .bool bb) :
    (results Tryz.f114 tmps).run Tryz.prog w = .ok (.tuple #[.agg #[.pointer t, .int .i64 z, .pointer u], .bool bb]) w := by
  obtain ⟨k0, k1, k2, -⟩ := h
  rw [results_cell_tmp (fn := Tryz.f114) (p := 4) (u := 5) (ty := 150) rfl, h4, h5]
  go_simp

set_option maxRecDepth 100000 in
set_option maxHeartbeats 1000000 in
theorem find_yes (g : Nat) (T : Tr) (k : Nt) (w : World) (hm : Mc w g T.ad) (h : T.In w) (hs : SrtB T.list) (hfr : Fr T.list k) (hl : T.len ≤ 1000000) :
    Calls Tryz.prog 114 #[.pointer (some ⟨g, 0, none⟩), nv k] w fun e w' =>
      e = .returned (.tuple #[.agg #[.pointer T.ad, .int .i64 (rank T.list k : Nat), .pointer none], .bool true]) ∧ Below w.heap.size w w' := by
  have hb0 : Below w.heap.size w (w.alloc (.cells (nc k) 53)) := bel_box _ _
  have hb : Below w.heap.size w ((w.alloc (.cells (nc k) 53)).alloc (Obj.cells #[Value.pointer none, Value.int IntKind.i64 0, Value.pointer none] 150)) := hb0.alloc (by simp) _
  have HN := Lib.hid (none_yes g T.ad _ (hm.keep hb))
  have HS := Lib.hid (seek_any g T k _ (hm.keep hb) (h.keep hb) hs hfr hl)
  have hz : (w.alloc (.cells (nc k) 53)).heap.size = w.heap.size + 1 := by simp
  have HP : Hid (Pl (w.heap.size + 1) ((w.alloc (.cells (nc k) 53)).alloc (Obj.cells #[Value.pointer none, Value.int IntKind.i64 0, Value.pointer none] 150)) none 0 none) := by rw [← hz]; exact ⟨by go_simp, by go_simp, by go_simp, fun o => by go_simp⟩
  have HK : Hid (Nb ((w.alloc (.cells (nc k) 53)).alloc (Obj.cells #[Value.pointer none, Value.int IntKind.i64 0, Value.pointer none] 150)) w.heap.size k) := (Nb.new w k).keep (bel_box _ _)
  have HB := Lib.hid hb
  generalize rank T.list k = Z at *
  clear hm h hs hl hb hfr hb0 hz
  go_enter_defers Tryz.func114, Tryz.ntmps114
  go_wp2_with fail
  generalize (w.alloc (.cells (nc k) 53)).alloc (Obj.cells #[Value.pointer none, Value.int IntKind.i64 0, Value.pointer none] 150) = w1 at *
  refine HN.out.mono ?_
  rintro e w2 ⟨rfl, rfl⟩
  obtain ⟨k0, k1, k2, k3, k4, k5⟩ := HK.out
  go_wp2_with fail
  refine HS.out.mono ?_
  rintro e w3 ⟨rfl, hb⟩
  have HP2 := Lib.hid (HP.out.keep hb)
  obtain ⟨p0, p1, p2, p3⟩ := HP2.out
  have hf0 := p3 0
  have hf1 := p3 1
  have hf2 := p3 2
  have HB2 := Lib.hid (bel_tr HB.out hb)
  clear hb p3 HB HN HS HP k0 k1 k2 k3 k4 k5 HK
  go_wp2_with fail
  refine leaves_cons (f := 129) (args := #[]) (by simp) (by simp [go_sem]) ?_
  refine (catch_any _).mono ?_
  rintro e u' w'' ⟨rfl, rfl, rfl⟩
  refine ⟨_, ret_find (HP2.out.put3 T.ad (Z : Int) none) true rfl rfl, rfl, ((HB2.out.setCell (p := ⟨w.heap.size + 1, 0, none⟩) (by simp) _).setCell (p := ⟨w.heap.size + 1, 1, none⟩) (by simp) _).setCell (p := ⟨w.heap.size + 1, 2, none⟩) (by simp) _⟩
end Go.Proofs.YtkcbekebleodaaaGreat.Un
end

/-
  Maps of nodes: New, and Set of a node whose dot is not there.
-/
section
namespace Go.Proofs.YtkcbekebleodaaaGreat.Un
set_option linter.unusedVariables false
open Go.RowKit V Go.Shelf D Nd Qs Wk
attribute [local irreducible] Sch.heldN Sch.stepV Sch.stepE

theorem heap_new (w : World) (o : Obj) : (w.alloc o).heap[w.heap.size]? = some o := by show (w.heap.push _)[w.heap.size]? = _; simp
/-- The block of a map. -/
def Ty (w : World) (g : Nat) : Prop := ∃ vs fr, w.heap[g]? = some (.cells vs 148 fr)
theorem Ty.of_heap {w w' : World} {g : Nat} (h : Ty w g) (e : w'.heap[g]? = w.heap[g]?) : Ty w' g := by
  obtain ⟨vs, fr, h⟩ := h
  exact ⟨vs, fr, e.trans h⟩
theorem Ty.keep {w w' : World} {g : Nat} (h : Ty w g) (hb : Below w.heap.size w w') : Ty w' g := by
  have hl : g < w.heap.size := by obtain ⟨vs, fr, h⟩ := h; exact (Array.getElem?_eq_some_iff.1 h).1
  exact h.of_heap (hb.block g hl)
theorem Ty.set {w : World} {g o : Nat} (h : Ty w g) (v : Value) : Ty (w.setCell ⟨g, o, none⟩ v) g := by
  obtain ⟨vs, fr, h⟩ := h
  unfold Ty
  simp [World.setCell, Array.getElem?_modify, h]
/-- Block g is a map with these nodes. -/
def Mp (w : World) (g : Nat) (L : List Nt) : Prop :=
  ∃ T : Tr, Mc w g T.ad ∧ T.In w ∧ T.list = L ∧ w.cell? ⟨g, 8, none⟩ = none ∧ (∀ o, w.frozen? ⟨g, o, none⟩ = false) ∧ SrtB L ∧ L.length < 1000000 ∧ Ty w g
theorem Mp.lt {w : World} {g : Nat} {L : List Nt} (h : Mp w g L) : g < w.heap.size := by
  obtain ⟨T, h, -⟩ := h
  exact lt_of_cell h.1
theorem Mp.keep {w w' : World} {g : Nat} {L : List Nt} (h : Mp w g L) (hb : Below w.heap.size w w') : Mp w' g L := by
  have hg := h.lt
  obtain ⟨T, h1, h2, h3, h4, h5, h6, h7, h8⟩ := h
  exact ⟨T, h1.keep hb, h2.keep hb, h3, (World.cell?_of_block (w := w) (hb.block g hg)).trans h4, fun o => (hb.frozen (p := ⟨g, o, none⟩) hg).trans (h5 o), h6, h7, h8.keep hb⟩
theorem Tr.on_ne {w : World} {g : Nat} (h : w.cell? ⟨g, 8, none⟩ = none) : ∀ {t : Tr}, t.In w → t.on fun b => b ≠ g
  | .nil, _ => trivial
  | .node b k l r, k' => ⟨(by rintro rfl; have := k'.1.cs; rw [h] at this; cases this), Tr.on_ne h k'.2.1, Tr.on_ne h k'.2.2⟩
theorem Mp.c8 {w : World} {g : Nat} {L : List Nt} (h : Mp w g L) : w.cell? ⟨g, 8, none⟩ = none := by
  obtain ⟨T, h1, h2, h3, h4, -⟩ := h
  exact h4
/-- One that has no trees, and is another map's block, may turn. -/
theorem Mp.gb {w w' : World} {g g' : Nat} {L : List Nt} (h : Mp w g L) (hg : w.grownBy w' (some g')) (hne : g ≠ g') (h8 : w.cell? ⟨g', 8, none⟩ = none) : Mp w' g L := by
  have hl := h.lt
  obtain ⟨T, h1, h2, h3, h4, h5, h6, h7, h9⟩ := h
  have e := hg.block g hl (by simpa using hne)
  exact ⟨T, ⟨(World.cell?_of_block (w := w) e).trans h1.1, (World.cell?_of_block (w := w) e).trans h1.2⟩, h2.gb hg (Tr.on_ne h8 h2), h3, (World.cell?_of_block (w := w) e).trans h4, fun o => by rw [← h5 o]; exact World.frozen?_of_block (w := w) (a := ⟨g, o, none⟩) e, h6, h7, h9.of_heap e⟩
/-- What is neither a map of nodes nor a tree may turn. -/
theorem Mp.turn {w w' : World} {g r : Nat} {L : List Nt} {o : Obj} (h : Mp w g L) (hg : w.grownBy w' (some r)) (ho : w.heap[r]? = some o) (ht : ∀ vs t fr, o = .cells vs t fr → t ≠ 148 ∧ t ≠ 156) : Mp w' g L := by
  have hl := h.lt
  obtain ⟨T, h1, h2, h3, h4, h5, h6, h7, h9⟩ := h
  have hne : g ≠ r := by
    rintro rfl
    obtain ⟨vs, fr, h9⟩ := h9
    rw [ho] at h9
    cases h9
    exact (ht _ _ _ rfl).1 rfl
  have e := hg.block g hl (by simpa using hne)
  have key : ∀ t : Tr, t.In w → t.on fun b => b ≠ r := by
    intro t
    induction t with
    | nil => exact fun _ => trivial
    | node b k l rr ihl ihr =>
      intro hi
      refine ⟨?_, ihl hi.2.1, ihr hi.2.2⟩
      rintro rfl
      have := hi.1
      unfold Nn at this
      rw [ho] at this
      cases this
      exact (ht _ _ _ rfl).2 rfl
  exact ⟨T, ⟨(World.cell?_of_block (w := w) e).trans h1.1, (World.cell?_of_block (w := w) e).trans h1.2⟩, h2.gb hg (key T h2), h3, (World.cell?_of_block (w := w) e).trans h4, fun o => by rw [← h5 o]; exact World.frozen?_of_block (w := w) (a := ⟨g, o, none⟩) e, h6, h7, h9.of_heap e⟩
theorem Tr.In.turn {w w' : World} {r : Nat} {T : Tr} {o : Obj} (h : T.In w) (hg : w.grownBy w' (some r)) (ho : w.heap[r]? = some o) (ht : ∀ vs t fr, o = .cells vs t fr → t ≠ 156) : T.In w' := by
  have key : ∀ t : Tr, t.In w → t.on fun b => b ≠ r := by
    intro t
    induction t with
    | nil => exact fun _ => trivial
    | node b k l rr ihl ihr =>
      intro hi
      refine ⟨?_, ihl hi.2.1, ihr hi.2.2⟩
      rintro rfl
      have := hi.1
      unfold Nn at this
      rw [ho] at this
      cases this
      exact ht _ _ _ rfl rfl
  exact h.gb hg (key T h)
theorem insB_len (L : List Nt) (k : Nt) : (insB L k).length = L.length + 1 := by rw [← insAt_rank, insAt_len]
abbrev pbox (t : Option Addr) (z : Int) (u : Option Addr) : Obj := .cells #[.pointer t, .int .i64 z, .pointer u] 150
/-- Another tree is laid into a map. -/
theorem mp_store {w : World} {g : Nat} {a : Option Addr} {T : Tr} {L : List Nt} (h1 : Mc w g a) (h2 : T.In w) (h3 : T.list = L) (h4 : w.cell? ⟨g, 8, none⟩ = none) (h5 : ∀ o, w.frozen? ⟨g, o, none⟩ = false) (h6 : SrtB L) (h7 : L.length < 1000000) (h9 : Ty w g) :
    Mp (w.setCell ⟨g, 1, none⟩ (.pointer T.ad)) g L :=
  ⟨T, ⟨(World.cell?_setCell_other _ _ _ _ (by simp)).trans h1.1, World.cell?_setCell_same' _ _ _ (by simp [h1.2])⟩, h2.gb (gb_setCell _ _ _ _) (Tr.on_ne h4 h2), h3, (World.cell?_setCell_other _ _ _ _ (by simp)).trans h4, fun o => by rw [World.frozen?_setCell]; exact h5 o, h6, h7, h9.set _⟩
/-- What is known of a map's block, but for its tree. -/
def Mk (w : World) (g : Nat) (a : Option Addr) : Prop := Mc w g a ∧ w.cell? ⟨g, 8, none⟩ = none ∧ (∀ o, w.frozen? ⟨g, o, none⟩ = false) ∧ Ty w g
theorem Mk.keep {w w' : World} {g : Nat} {a : Option Addr} (h : Mk w g a) (hb : Below w.heap.size w w') : Mk w' g a :=
  ⟨h.1.keep hb, (World.cell?_of_block (w := w) (hb.block g (lt_of_cell h.1.1))).trans h.2.1, fun o => (hb.frozen (p := ⟨g, o, none⟩) (by have := lt_of_cell h.1.1; simpa using this)).trans (h.2.2.1 o), h.2.2.2.keep hb⟩
theorem ret_set {w : World} {B : Nat} (bb : Bool) {tmps : Array Value} (h6 : tmps.getD 6 undef = .pointer (some ⟨B, 0, none⟩)) (h7 : tmps.getD 7 undef = .bool bb) :
    (results Tryz.f107 tmps).run Tryz.prog w = .ok (.tuple #[.agg #[], .bool bb]) w := by
  have hl := load_unit ⟨B, 0, none⟩ w
  rw [results_cell_tmp (fn := Tryz.f107) (p := 6) (u := 7) (ty := 138) rfl, h6, h7]
  have hz : ∀ w, (Go.sizeOf 138).run Tryz.prog w = .ok 0 w := fun w => by kernel_rfl
  have ha : ∀ w, (isAgg 138).run Tryz.prog w = .ok true w := fun w => by kernel_rfl
  go_simp

set_option maxRecDepth 100000 in
set_option maxHeartbeats 1000000 in
theorem set_yes (g : Nat) (L : List Nt) (k : Nt) (w : World) (hl1 : L.length + 1 < 1000000) (h : Mp w g L) (hfr : Fr L k) :
    Calls Tryz.prog 107 #[.pointer (some ⟨g, 0, none⟩), nv k, .agg #[]] w fun e w' => e = .returned (.tuple #[.agg #[], .bool false]) ∧ Mp w' g (insB L k) ∧ w.grownBy w' (some g) := by
  obtain ⟨T, h1, h2, rfl, h4, h5, h6, h7, h9⟩ := h
  have hz : T.len ≤ 1000000 := Nat.le_of_lt h7
  have HF := Lib.hid (fun (w : World) (h1 : Mc w g T.ad) (h2 : T.In w) => find_yes g T k w h1 h2 h6 hfr hz)
  have hr := rank_le T.list k
  have HNW := Lib.hid (fun (w : World) (h : T.In w) => with_any T (rank T.list k) k w h (by unfold Tr.len; omega) hr)
  have hlen : T.list.length = T.len := rfl
  have HSL : Hid (SrtB (insB T.list k)) := insB_srt h6 hfr
  have HLN : Hid ((insB T.list k).length < 1000000) := by show _ < _; rw [insB_len]; omega
  have HSN : Hid (insAt T.list (rank T.list k) k = insB T.list k) := insAt_rank _ _
  have hb0 : Below w.heap.size w (((w.alloc (.cells (nc k) 53)).alloc (.cells #[] 138)).alloc (.cells #[] 138)) := ((bel_box _ _).alloc (by simp) _).alloc (by simp; omega) _
  have HK : Hid (Nb (((w.alloc (.cells (nc k) 53)).alloc (.cells #[] 138)).alloc (.cells #[] 138)) w.heap.size k) := ((Nb.new w k).keep (bel_box _ _)).keep (bel_box _ _)
  have HB0 := Lib.hid hb0
  have HT : Hid (T.In (((w.alloc (.cells (nc k) 53)).alloc (.cells #[] 138)).alloc (.cells #[] 138))) := h2.keep hb0
  have HM : Hid (Mk (((w.alloc (.cells (nc k) 53)).alloc (.cells #[] 138)).alloc (.cells #[] 138)) g T.ad) := Mk.keep ⟨h1, h4, h5, h9⟩ hb0
  have hltg : g < w.heap.size := lt_of_cell h1.1
  have HU := Lib.hid (fun (p : Addr) (w : World) => load_unit p w)
  generalize insB T.list k = R at *
  generalize hZ : rank T.list k = Z at *
  clear h1 h2 h4 h5 h6 h7 h9 hr hZ hb0 hfr hz
  go_enter Tryz.func107, Tryz.ntmps107
  go_wp2_with fail
  generalize ((w.alloc (.cells (nc k) 53)).alloc (.cells #[] 138)).alloc (.cells #[] 138) = w1 at *
  obtain ⟨k0, k1, k2, k3, k4, k5⟩ := HK.out
  go_wp2_with fail
  refine (HF.out _ HM.out.1 HT.out).mono ?_
  rintro e w2 ⟨rfl, hb⟩
  replace HB0 := Lib.hid (bel_tr HB0.out hb)
  replace HT := Lib.hid (HT.out.keep hb)
  replace HM := Lib.hid (HM.out.keep hb)
  replace HK := Lib.hid (HK.out.keep hb)
  clear hb k0 k1 k2 k3 k4 k5 HF
  have hb3 := bel_box w2 (pbox T.ad Z none)
  have HT3 := Lib.hid (HT.out.keep hb3)
  have HM3 := Lib.hid (HM.out.keep hb3)
  have HB3 := Lib.hid (HB0.out.alloc HB0.out.size (pbox T.ad Z none))
  obtain ⟨k0, k1, k2, k3, k4, k5⟩ := HK.out.keep hb3
  clear hb3 HT HM HK
  go_wp2_with fail
  refine (HNW.out _ HT3.out).mono ?_
  rintro e w4 ⟨c, ck, cl, cr, rfl, hi, he, hb⟩
  have c3 : w4.cell? ⟨g, 1, none⟩ = some (.pointer T.ad) := keep_cell HM3.out.1.2 hb
  have c4 := (HM3.out.keep hb).2.2.1 1
  have HM4 := Lib.hid (HM3.out.keep hb)
  have HB4 := Lib.hid (bel_tr HB3.out hb)
  have HI := Lib.hid hi
  have HE := Lib.hid (he.trans HSN.out)
  clear hi he hb HNW HM3 HT3 HB3 HB0 k0 k1 k2 k3 k4 k5
  go_wp2_with fail
  refine bodyPost_ret (v := .tuple #[.agg #[], .bool false]) (ret_set false rfl rfl) rfl ?_
  exact ⟨rfl, mp_store HM4.out.1 HI.out HE.out HM4.out.2.1 HM4.out.2.2.1 HSL.out HLN.out HM4.out.2.2.2, gb_trans (gb_below HB4.out (some g)) (gb_setCell _ _ _ _)⟩
set_option maxRecDepth 100000 in
theorem new_yes (w : World) : Calls Tryz.prog 105 #[.func (.func 106) #[] #[]] w fun e w' => ∃ g', e = .returned (.pointer (some ⟨g', 0, none⟩)) ∧ w.heap.size ≤ g' ∧ Mp w' g' [] ∧ Below w.heap.size w w' := by
  have hq := fn_nil 106
  go_enter Tryz.func105, Tryz.ntmps105
  go_wp2_with fail
  go_ret
  exact ⟨_, rfl, Nat.le_refl _, ⟨.nil, ⟨by go_simp, by simp only [Tr.ad]; go_simp⟩, trivial, rfl, by go_simp, fun o => by go_simp, List.Pairwise.nil, by simp, _, _, heap_new w _⟩, bel_box _ _⟩
end Go.Proofs.YtkcbekebleodaaaGreat.Un
end
