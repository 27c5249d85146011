/-
  Maps in memory; where a key belongs.
-/
import Derived.Test.YtmmcnpcijeahcaaTCh
import Derived.Deep.CutRange
import Derived.Defers
import Derived.Recover
import Derived.Shelf.Abstract
namespace Go.Proofs.Ytmmcnpcijeahcaa.Jt
set_option linter.unusedVariables false
open Go.RowKit V Go.Shelf

/-! ### The order of the keys -/
def cmpR (d : Bool) (a b : Ky) : Int := (a.s.size : Int) - (b.s.size : Int)
theorem cmpR_lt {d : Bool} {a b : Ky} : cmpR d a b < 0 ↔ bef d a b = true := by unfold cmpR; rw [bef_iff]; omega
theorem cmpR_eq {d : Bool} {a b : Ky} : cmpR d a b = 0 ↔ a.s.size = b.s.size := by unfold cmpR; omega
theorem cmpR_gt {d : Bool} {a b : Ky} (h1 : ¬ cmpR d a b < 0) (h2 : ¬ cmpR d a b = 0) : bef d b a = true := by
  rw [bef_iff]; unfold cmpR at *; omega
/-- The function with this number is the order. -/
def Cmp (fid : Nat) (d : Bool) : Prop := (∀ args w, (callFunc fid args).run Try.prog w = .ok (.enter fid args) w) ∧ ∀ (a b : Ky) (w : World), Calls Try.prog fid #[.string a.s, .string b.s] w fun e w' => e = .returned (.int .i64 (cmpR d a b)) ∧ w' = w
def fnOf (d : Bool) : Nat := 25

set_option maxRecDepth 100000 in
theorem shorter_any (d : Bool) (a b : Ky) (w : World) : Calls Try.prog 25 #[.string a.s, .string b.s] w fun e w' => e = .returned (.int .i64 (cmpR d a b)) ∧ w' = w := by
  unfold cmpR
  have h1 : (a.s.size : Int) ≤ 1000 := by have := a.h; omega
  have h2 : (b.s.size : Int) ≤ 1000 := by have := b.h; omega
  go_enter Try.func25, Try.ntmps25
  go_wp2_with fail
  go_ret
  exact ⟨rfl, rfl⟩
theorem cmp_of (d : Bool) : Cmp (fnOf d) d := ⟨enters_of Try.func25 (by kernel_rfl) rfl, shorter_any d⟩

/-! ### Where a key belongs, plainly -/
section
variable {d : Bool} {l r : List Pr} {p : Pr} {k : Ky}
theorem rank_l (h : bef d p.1 k = false) : rank d (l ++ p :: r) k = rank d l k := by
  have h0 := rank_le d l k
  refine rank_eq (by rw [List.length_append]; omega) (fun j hj hji => ?_) fun hj => ?_
  · rw [List.getElem_append_left (by omega)]
    exact rank_lo (by omega) hji
  · by_cases h1 : rank d l k < l.length
    · rw [List.getElem_append_left h1]
      exact rank_at h1
    · have e : rank d l k = l.length := by omega
      simp only [e]
      rw [List.getElem_append_right (Nat.le_refl _)]
      simpa using h
theorem rank_r (hs : Srt d (l ++ p :: r)) (h : bef d p.1 k = true) : rank d (l ++ p :: r) k = l.length + 1 + rank d r k := by
  have h0 := rank_le d r k
  unfold Srt at hs
  rw [List.pairwise_append] at hs
  refine rank_eq (by rw [List.length_append, List.length_cons]; omega) (fun j hj hji => ?_) fun hj => ?_
  · rcases Nat.lt_trichotomy j l.length with h1 | h1 | h1
    · rw [List.getElem_append_left h1]
      exact bef_trans (hs.2.2 _ (List.getElem_mem h1) p (by simp)) h
    · subst h1
      rw [List.getElem_append_right (Nat.le_refl _)]
      simpa using h
    · rw [List.getElem_append_right (by omega)]
      obtain ⟨m, hm⟩ : ∃ m, j - l.length = m + 1 := ⟨j - l.length - 1, by omega⟩
      simp only [hm, List.getElem_cons_succ]
      exact rank_lo (by omega) (by omega)
  · rw [List.getElem_append_right (by omega)]
    simp only [show l.length + 1 + rank d r k - l.length = rank d r k + 1 by omega, List.getElem_cons_succ]
    exact rank_at _
theorem rank_m (hs : Srt d (l ++ p :: r)) (h : k.s.size = p.1.s.size) : rank d (l ++ p :: r) k = l.length := by
  have e1 : rank d (l ++ p :: r) k = rank d (l ++ p :: r) p.1 := by
    unfold rank
    have : (fun q : Pr => bef d q.1 k) = fun q => bef d q.1 p.1 := by funext q; unfold bef; rw [h]
    rw [this]
  rw [e1]
  have e := rank_self hs (i := l.length) (by simp)
  simpa using e
/-- The pair with a key, if there is one. -/
def find (d : Bool) (L : List Pr) (k : Ky) : Option Pr := match L[rank d L k]? with | some p => if p.1.s.size = k.s.size then some p else none | none => none
theorem find_l (h : bef d p.1 k = false) (hne : k.s.size ≠ p.1.s.size) : find d (l ++ p :: r) k = find d l k := by
  unfold find
  rw [rank_l h]
  have h0 := rank_le d l k
  by_cases h1 : rank d l k < l.length
  · rw [List.getElem?_append_left h1]
  · have e : rank d l k = l.length := by omega
    rw [e, List.getElem?_append_right (Nat.le_refl _)]
    simp [hne.symm]
theorem find_r (hs : Srt d (l ++ p :: r)) (h : bef d p.1 k = true) : find d (l ++ p :: r) k = find d r k := by
  unfold find
  rw [rank_r hs h, List.getElem?_append_right (by omega), show l.length + 1 + rank d r k - l.length = rank d r k + 1 by omega, List.getElem?_cons_succ]
theorem find_m (hs : Srt d (l ++ p :: r)) (h : k.s.size = p.1.s.size) : find d (l ++ p :: r) k = some p := by
  unfold find
  rw [rank_m hs h, List.getElem?_append_right (Nat.le_refl _)]
  simp [h]
theorem srt_parts (hs : Srt d (l ++ p :: r)) : Srt d l ∧ Srt d r := by
  unfold Srt at *
  rw [List.pairwise_append, List.pairwise_cons] at hs
  exact ⟨hs.1, hs.2.1.2⟩
end

/-! ### A map in memory -/
/-- The two cells of a map. -/
def Mc (w : World) (g fid : Nat) (a : Option Addr) : Prop := w.cell? ⟨g, 0, none⟩ = some (.func (.func fid) #[] #[]) ∧ w.cell? ⟨g, 1, none⟩ = some (.pointer a)
theorem Mc.keep {w w' : World} {g fid : Nat} {a : Option Addr} (h : Mc w g fid a) (hb : Below w.heap.size w w') : Mc w' g fid a := ⟨keep_cell h.1 hb, keep_cell h.2 hb⟩
/-- What is known of a place while it is looked for. -/
def Pl (B : Nat) (w : World) (t : Option Addr) (z : Int) (u : Option Addr) : Prop :=
  w.cell? ⟨B, 0, none⟩ = some (.pointer t) ∧ w.cell? ⟨B, 1, none⟩ = some (.int .i64 z) ∧ w.cell? ⟨B, 2, none⟩ = some (.pointer u) ∧ ∀ o, w.frozen? ⟨B, o, none⟩ = false
theorem Pl.keep {B : Nat} {w w' : World} {t u : Option Addr} {z : Int} (h : Pl B w t z u) (hb : Below w.heap.size w w') : Pl B w' t z u :=
  ⟨keep_cell h.1 hb, keep_cell h.2.1 hb, keep_cell h.2.2.1 hb, fun o => (hb.frozen (p := ⟨B, o, none⟩) (by have := lt_of_cell h.1; simpa using this)).trans (h.2.2.2 o)⟩
theorem Pl.of_heap {B : Nat} {w w' : World} {t u : Option Addr} {z : Int} (h : Pl B w t z u) (e : w'.heap[B]? = w.heap[B]?) : Pl B w' t z u :=
  ⟨(World.cell?_of_block (w := w) e).trans h.1, (World.cell?_of_block (w := w) e).trans h.2.1, (World.cell?_of_block (w := w) e).trans h.2.2.1, fun o => by rw [← h.2.2.2 o]; simp only [World.frozen?, e]⟩
theorem Pl.gb {B g : Nat} {w w' : World} {t u : Option Addr} {z : Int} (h : Pl B w t z u) (hg : w.grownBy w' (some g)) (hne : B ≠ g) : Pl B w' t z u := h.of_heap (hg.block B (lt_of_cell h.1) (by simpa using hne))
theorem Pl.set0 {B : Nat} {w : World} {t u : Option Addr} {z : Int} (h : Pl B w t z u) (x : Option Addr) : Pl B (w.setCell ⟨B, 0, none⟩ (.pointer x)) x z u :=
  ⟨World.cell?_setCell_same' _ _ _ (by simp [h.1]), (World.cell?_setCell_other _ _ _ _ (by simp)).trans h.2.1, (World.cell?_setCell_other _ _ _ _ (by simp)).trans h.2.2.1, fun o => by rw [World.frozen?_setCell]; exact h.2.2.2 o⟩
theorem Pl.set1 {B : Nat} {w : World} {t u : Option Addr} {z : Int} (h : Pl B w t z u) (x : Int) : Pl B (w.setCell ⟨B, 1, none⟩ (.int .i64 x)) t x u :=
  ⟨(World.cell?_setCell_other _ _ _ _ (by simp)).trans h.1, World.cell?_setCell_same' _ _ _ (by simp [h.2.1]), (World.cell?_setCell_other _ _ _ _ (by simp)).trans h.2.2.1, fun o => by rw [World.frozen?_setCell]; exact h.2.2.2 o⟩
theorem Pl.set2 {B : Nat} {w : World} {t u : Option Addr} {z : Int} (h : Pl B w t z u) (x : Option Addr) : Pl B (w.setCell ⟨B, 2, none⟩ (.pointer x)) t z x :=
  ⟨(World.cell?_setCell_other _ _ _ _ (by simp)).trans h.1, (World.cell?_setCell_other _ _ _ _ (by simp)).trans h.2.1, World.cell?_setCell_same' _ _ _ (by simp [h.2.2.1]), fun o => by rw [World.frozen?_setCell]; exact h.2.2.2 o⟩
theorem Pl.put3 {B : Nat} {w : World} {t u : Option Addr} {z : Int} (h : Pl B w t z u) (t' : Option Addr) (z' : Int) (u' : Option Addr) : Pl B (((w.setCell ⟨B, 0, none⟩ (.pointer t')).setCell ⟨B, 1, none⟩ (.int .i64 z')).setCell ⟨B, 2, none⟩ (.pointer u')) t' z' u' := ((h.set0 t').set1 z').set2 u'
def ndOf (B : Nat) (w : World) : Nat := match w.cell? ⟨B, 2, none⟩ with | some v => lenOf w v | none => 0
theorem load_cmp {w : World} {g : Nat} {v : Value} (h : w.cell? ⟨g, 0, none⟩ = some v) : (Instr.loadAt 56 (.pointer (some ⟨g, 0, none⟩))).run Try.prog w = .ok v w := by
  go_simp

theorem results_cell1 {P : Program} {fn : Func} {p : Tmp} {ty : TypeId} (h : fn.results = #[.cell p ty]) (tmps : Array Value) (w : World) :
    (results fn tmps).run P w = ((asAddr (tmps.getD p undef)).run P w).andThen fun a w₁ => (loadVar ty a).run P w₁ := by
  simp only [results, h]
  simp [Sem.run_bind, Result.andThen]
theorem ret_place {w : World} {B : Nat} {t u : Option Addr} {z : Int} (h : Pl B w t z u) {tmps : Array Value} (h4 : tmps.getD 4 undef = .pointer (some ⟨B, 0, none⟩)) :
    (results Try.f72 tmps).run Try.prog w = .ok (.agg #[.pointer t, .int .i64 z, .pointer u]) w := by
  obtain ⟨k0, k1, k2, -⟩ := h
  rw [results_cell1 (fn := Try.f72) (p := 4) (ty := 94) rfl, h4]
  go_simp
/-- The classes of worlds of the regions that draw. -/
def SkA (g fid : Nat) (a : Option Addr) (p b : Nat) (U : Tr) (w : World) : Prop := Mc w g fid a ∧ w.cell? ⟨p, 2, none⟩ = some (.pointer (some ⟨b, 0, none⟩)) ∧ U.In w
def SkB (p b : Nat) (U : Tr) (w : World) : Prop := w.cell? ⟨p, 2, none⟩ = some (.pointer (some ⟨b, 0, none⟩)) ∧ U.In w
theorem ndOf_at {B : Nat} {w : World} {t : Option Addr} {z : Int} {u : Tr} (h : Pl B w t z u.ad) (hu : u.In w) : ndOf B w = u.len := by
  simp only [ndOf, h.2.2.1]
  exact lenOf_at hu

set_option maxRecDepth 100000 in
set_option maxHeartbeats 4000000 in
theorem seek_any (g fid : Nat) (d : Bool) (T : Tr) (k : Ky) (w : World) (hf : Cmp fid d) (hm : Mc w g fid T.ad) (h : T.In w) (hs : Srt d T.list) (hl : T.len ≤ 1000000) :
    Calls Try.prog 72 #[.pointer (some ⟨g, 0, none⟩), .string k.s] w fun e w' => ∃ U : Tr, e = .returned (.agg #[.pointer T.ad, .int .i64 (rank d T.list k : Nat), .pointer U.ad]) ∧ (∀ W, T.In W → U.In W) ∧ Tops U (find d T.list k) ∧ Below w.heap.size w w' := by
  have HT := Lib.hid h
  have HM := Lib.hid hm
  have HF := Lib.hid hf.2
  have EF := hf.1
  have HSr := Lib.hid hs
  have HLn := Lib.hid hl
  have HLe := Lib.hid (fun (t : Tr) (w : World) (h : t.In w) => len_any t w h)
  obtain ⟨Z, hZ⟩ : ∃ Z, Z = rank d T.list k := ⟨_, rfl⟩
  obtain ⟨F, hF⟩ : ∃ F, F = find d T.list k := ⟨_, rfl⟩
  rw [← hZ, ← hF]
  have HZ := Lib.hid hZ
  have HFi := Lib.hid hF
  have Q1 : ∀ w, (Mc w g fid T.ad) → _ := fun w h => load_tree (w := w) h.2
  have HQ := Lib.hid Q1
  clear hf hm h hs hl hZ hF Q1
  go_enter Try.func72, Try.ntmps72
  go_wp2_with fail
  have HB : Hid (Below w.heap.size w (w.alloc (Obj.cells #[Value.pointer none, Value.int IntKind.i64 0, Value.pointer none] 94))) := bel_box _ _
  have HR : Hid (Pl w.heap.size (w.alloc (Obj.cells #[Value.pointer none, Value.int IntKind.i64 0, Value.pointer none] 94)) none 0 none) := ⟨by go_simp, by go_simp, by go_simp, fun o => by go_simp⟩
  have hsz : (w.alloc (Obj.cells #[Value.pointer none, Value.int IntKind.i64 0, Value.pointer none] 94)).heap.size = w.heap.size + 1 := by simp
  have HM1 : Hid (Mc (w.alloc (Obj.cells #[Value.pointer none, Value.int IntKind.i64 0, Value.pointer none] 94)).drew g fid T.ad) := (HM.out.keep HB.out).keep (Below.refl _ _).drew
  refine Sch.wp_region_tn (fun w => Mc w g fid T.ad) (.val 0 (.val 1 (.val 2 (.val 3 (.val 4 (.val 5 (.val 6 (.val 7 (.val 8 (.one 9 (.one 10 .done))))))))))) (by kernel_rfl) (by kernel_rfl) HM1.out ?_
  repeat (first
    | (refine Sch.tn_q rfl rfl rfl (fun K hK => ?_); go_big_quiet_op; (first | refine hK _ ?_ | refine ⟨_, fun _ _ => rfl, hK _ ?_⟩); clear hK K)
    | (refine Sch.tn_chk _ _ _ rfl rfl rfl rfl rfl ?_; simp only [Act.put, List.setIfInBounds_toArray, List.set_cons_zero, List.set_cons_succ])
    | (refine Sch.tn_load _ _ _ _ _ rfl rfl rfl rfl (by first | exact HQ.out) rfl ?_; simp only [Act.put, List.setIfInBounds_toArray, List.set_cons_zero, List.set_cons_succ]))
  replace HB : Hid (Below w.heap.size w (w.alloc (Obj.cells #[Value.pointer none, Value.int IntKind.i64 0, Value.pointer none] 94)).drew) := HB.out.drew
  replace HR : Hid (Pl w.heap.size (w.alloc (Obj.cells #[Value.pointer none, Value.int IntKind.i64 0, Value.pointer none] 94)).drew none 0 none) := HR.out
  have hsz2 : (w.alloc (Obj.cells #[Value.pointer none, Value.int IntKind.i64 0, Value.pointer none] 94)).drew.heap.size = w.heap.size + 1 := hsz
  clear hsz
  generalize (w.alloc (Obj.cells #[Value.pointer none, Value.int IntKind.i64 0, Value.pointer none] 94)).drew = w1 at *
  repeat (first
    | (refine Sch.tn_q rfl rfl rfl (fun K hK => ?_); go_big_quiet_op; (first | refine hK _ ?_ | refine ⟨_, fun _ _ => rfl, hK _ ?_⟩); clear hK K)
    | (refine Sch.tn_chk _ _ _ rfl rfl rfl rfl rfl ?_; simp only [Act.put, List.setIfInBounds_toArray, List.set_cons_zero, List.set_cons_succ]))
  refine Sch.tn_e rfl rfl (fun K hK => ?_)
  go_wp2_with fail
  have HB2 : Hid (Below w.heap.size w (w1.alloc (Obj.cells #[Value.pointer none, Value.int IntKind.i64 0, Value.pointer none] 94))) := HB.out.alloc HB.out.size _
  have HR2 : Hid (Pl w.heap.size (w1.alloc (Obj.cells #[Value.pointer none, Value.int IntKind.i64 0, Value.pointer none] 94)) none 0 none) := HR.out.keep (bel_box _ _)
  have HP : Hid (Pl (w.heap.size + 1) (w1.alloc (Obj.cells #[Value.pointer none, Value.int IntKind.i64 0, Value.pointer none] 94)) none 0 none) := by rw [← hsz2]; exact ⟨by go_simp, by go_simp, by go_simp, fun o => by go_simp⟩
  have HM2 : Hid (Mc (w1.alloc (Obj.cells #[Value.pointer none, Value.int IntKind.i64 0, Value.pointer none] 94)) g fid T.ad) := HM1.out.keep (bel_box _ _)
  have hsz3 : (w1.alloc (Obj.cells #[Value.pointer none, Value.int IntKind.i64 0, Value.pointer none] 94)).heap.size = w.heap.size + 1 + 1 := by simp [hsz2]
  clear HB HR HM1 hsz2
  generalize (w1.alloc (Obj.cells #[Value.pointer none, Value.int IntKind.i64 0, Value.pointer none] 94)) = w2 at *
  refine hK _ _ HM2.out ?_
  clear hK K
  obtain ⟨p0, p1, p2, p3⟩ := HP.out
  have hf0 := p3 0
  have hf1 := p3 1
  have hf2 := p3 2
  refine Sch.tn_e rfl rfl (fun K hK => ?_)
  go_wp2_with fail
  have HP2 := Lib.hid (HP.out.put3 T.ad 0 T.ad)
  have HR3 := Lib.hid ((((HR2.out.gb (gb_setCell w2 (w.heap.size + 1) 0 (Value.pointer T.ad)) (by omega)).gb (gb_setCell _ (w.heap.size + 1) 1 (Value.int IntKind.i64 0)) (by omega))).gb (gb_setCell _ (w.heap.size + 1) 2 (Value.pointer T.ad)) (by omega))
  have HB3 := Lib.hid (((HB2.out.setCell (p := ⟨w.heap.size + 1, 0, none⟩) (by simp) (Value.pointer T.ad)).setCell (p := ⟨w.heap.size + 1, 1, none⟩) (by simp) (Value.int IntKind.i64 0)).setCell (p := ⟨w.heap.size + 1, 2, none⟩) (by simp) (Value.pointer T.ad))
  clear p0 p1 p2 p3 hf0 hf1 hf2 HB2 HR2 HP HM2 hsz3 HQ
  generalize (((w2.setCell ⟨w.heap.size + 1, 0, none⟩ (Value.pointer T.ad)).setCell ⟨w.heap.size + 1, 1, none⟩ (Value.int IntKind.i64 0)).setCell ⟨w.heap.size + 1, 2, none⟩ (Value.pointer T.ad)) = w3 at *
  refine hK _ _ (HM.out.keep HB3.out) ?_
  clear hK K
  refine Sch.tn_n ?_
  go_wp2_with fail
  go_loopw [6] (fun _ wr => ∃ (U : Tr) (z : Nat), Hid (Pl (w.heap.size + 1) wr T.ad z U.ad) ∧ Hid (Pl w.heap.size wr none 0 none) ∧ Hid (Below w.heap.size w wr) ∧ Hid (∀ W, T.In W → U.In W) ∧ Hid (Srt d U.list) ∧ Hid (Z = z + rank d U.list k) ∧ Hid (F = find d U.list k) ∧ z + U.len ≤ 1000000) (fun _ wr => ndOf (w.heap.size + 1) wr)
  case atStart => exact ⟨T, 0, HP2, HR3, HB3, fun _ h => h, HSr, by show _ = _; rw [HZ.out]; omega, HFi, by have := HLn.out; omega⟩
  case round =>
    obtain ⟨U, z, JP, JR, JB, JX, JS, JZ, JF, hzl⟩ := hrel
    have JT := Lib.hid (JX.out w HT.out)
    obtain ⟨p0, p1, p2, p3⟩ := JP.out
    have hf1 := p3 1
    have hf2 := p3 2
    cases U with
    | nil =>
      obtain ⟨r0, r1, r2, r3⟩ := JR.out
      have g0 := r3 0
      have g1 := r3 1
      have g2 := r3 2
      simp only [Tr.ad] at p2
      have hBR : (w.heap.size + 1 : Nat) ≠ w.heap.size := by omega
      clear r3 p3
      go_wp2_with fail
      (try simp only [Exit.inBlock, Exit.then])
      refine bodyPost_ret (v := .agg #[.pointer T.ad, .int .i64 (z : Int), .pointer none]) (ret_place (JR.out.put3 T.ad (z : Int) none) rfl) rfl ?_
      refine ⟨.nil, ?_, fun _ _ => trivial, ?_, ((JB.out.setCell (p := ⟨w.heap.size, 0, none⟩) (Nat.le_refl _) _).setCell (p := ⟨w.heap.size, 1, none⟩) (Nat.le_refl _) _).setCell (p := ⟨w.heap.size, 2, none⟩) (Nat.le_refl _) _⟩
      · rw [JZ.out]; simp [Tr.list, rank, Tr.ad]
      · rw [JF.out]; simp [Tr.list, find, Tops]
    | node b uk uv l r =>
      rw [Tr.ad_node] at p2
      rw [Tr.len_node] at hzl
      have JTr := Lib.hid (JT.out.keep JB.out)
      have HMr := Lib.hid (HM.out.keep JB.out)
      have hnd : ndOf (w.heap.size + 1) wr = l.len + 1 + r.len := by rw [ndOf_at JP.out JTr.out, Tr.len_node]
      have hSr : Hid (Srt d (l.list ++ (uk, uv) :: r.list)) := JS
      have HS3 : Hid (SkA g fid T.ad (w.heap.size + 1) b (Tr.node b uk uv l r) wr.drew) := ⟨HMr.out.keep (Below.refl _ _).drew, p2, JTr.out.drew⟩
      have B1 : ∀ w', SkA g fid T.ad (w.heap.size + 1) b (Tr.node b uk uv l r) w' → _ := fun w' h => load_cmp (w := w') h.1.1
      have B2 : ∀ w', SkA g fid T.ad (w.heap.size + 1) b (Tr.node b uk uv l r) w' → _ := fun w' h => load_tree (w := w') h.2.1
      have B3 : ∀ w', SkA g fid T.ad (w.heap.size + 1) b (Tr.node b uk uv l r) w' → _ := fun w' h => nd_k (w := w') h.2.2.1
      have B4 : ∀ w', SkB (w.heap.size + 1) b (Tr.node b uk uv l r) w' → _ := fun w' h => load_tree (w := w') h.1
      have B5 : ∀ w', SkB (w.heap.size + 1) b (Tr.node b uk uv l r) w' → _ := fun w' h => nd_l (w := w') h.2.1
      have A1 := Lib.hid B1
      have A2 := Lib.hid B2
      have A3 := Lib.hid B3
      have A4 := Lib.hid B4
      have A5 := Lib.hid B5
      have hzi : (z : Int) ≤ 1000000 := by omega
      have hll : (l.len : Int) ≤ 1000000 := by omega
      clear B1 B2 B3 B4 B5 p3
      by_cases h0 : cmpR d k uk = 0
      · have hz0 : Hid (Z = z + l.len) := by
          show _ = _
          rw [JZ.out, list_node, rank_m hSr.out (cmpR_eq.1 h0)]; rfl
        have hF0 : Hid (F = some (uk, uv)) := by
          show _ = _
          rw [JF.out, list_node, find_m hSr.out (cmpR_eq.1 h0)]
        clear JZ JF JS hnd
        have HC := Lib.hid (HF.out k uk wr.drew)
        rw [h0] at HC
        go_wp2_with fail
        clear p0 p1 p2 hf1 hf2
        refine Sch.wp_region_tn (SkA g fid T.ad (w.heap.size + 1) b (Tr.node b uk uv l r)) (.val 0 (.val 1 (.val 2 (.val 3 (.val 4 (.val 5 (.val 6 (.val 7 (.val 8 (.val 9 (.one 10 (.val 11 .done)))))))))))) (by kernel_rfl) (by kernel_rfl) HS3.out ?_
        repeat (first
          | (refine Sch.tn_q rfl rfl rfl (fun K hK => ?_); go_big_quiet_op; (first | refine hK _ ?_ | refine ⟨_, fun _ _ => rfl, hK _ ?_⟩); clear hK K)
          | (refine Sch.tn_chk _ _ _ rfl rfl rfl rfl rfl ?_; simp only [Act.put, List.setIfInBounds_toArray, List.set_cons_zero, List.set_cons_succ])
          | (refine Sch.tn_load _ _ _ _ _ rfl rfl rfl rfl (by first | exact A1.out | exact A2.out | exact A3.out) rfl ?_; simp only [Act.put, List.setIfInBounds_toArray, List.set_cons_zero, List.set_cons_succ]))
        refine Sch.tn_e rfl rfl (fun K hK => ?_)
        go_wp2_with fail
        refine HC.out.mono ?_
        rintro e w5 ⟨rfl, rfl⟩
        refine hK _ _ HS3.out ?_
        clear hK K
        repeat (first
          | (refine Sch.tn_q rfl rfl rfl (fun K hK => ?_); go_big_quiet_op; (first | refine hK _ ?_ | refine ⟨_, fun _ _ => rfl, hK _ ?_⟩); clear hK K)
          | (refine Sch.tn_chk _ _ _ rfl rfl rfl rfl rfl ?_; simp only [Act.put, List.setIfInBounds_toArray, List.set_cons_zero, List.set_cons_succ]))
        refine Sch.tn_n ?_
        replace JP := Lib.hid (JP.out.keep (Below.refl _ _).drew)
        replace JR := Lib.hid (JR.out.keep (Below.refl _ _).drew)
        replace JB := Lib.hid JB.out.drew
        generalize wr.drew = wq at *
        obtain ⟨p0, p1, p2, p3⟩ := JP.out
        have hf1 := p3 1
        have hf2 := p3 2
        rw [Tr.ad_node] at p2
        have k2 := HS3.out.2.2.1.2.2.1
        have k3 := HS3.out.2.2.1.2.2.2.1
        clear p3 HC
        go_wp2_with fail
        have HS5 : Hid (SkB (w.heap.size + 1) b (Tr.node b uk uv l r) wq.drew) := ⟨HS3.out.2.1, HS3.out.2.2.drew⟩
        clear k2 k3
        refine Sch.wp_region_tn (SkB (w.heap.size + 1) b (Tr.node b uk uv l r)) (.val 0 (.val 2 (.val 3 (.val 4 (.val 5 (.val 6 (.two 1 (.one 7 (.val 8 (.val 9 (.one 10 .done)))) 7 (.one 1 (.val 8 (.val 9 (.one 10 .done))))))))))) (by kernel_rfl) (by kernel_rfl) HS5.out ?_
        repeat (first
          | (refine Sch.tn_q rfl rfl rfl (fun K hK => ?_); go_big_quiet_op; (first | refine hK _ ?_ | refine ⟨_, fun _ _ => rfl, hK _ ?_⟩); clear hK K)
          | (refine Sch.tn_chk _ _ _ rfl rfl rfl rfl rfl ?_; simp only [Act.put, List.setIfInBounds_toArray, List.set_cons_zero, List.set_cons_succ])
          | (refine Sch.tn_load _ _ _ _ _ rfl rfl rfl rfl (by first | exact A4.out | exact A5.out) rfl ?_; simp only [Act.put, List.setIfInBounds_toArray, List.set_cons_zero, List.set_cons_succ]))
        replace JP := Lib.hid (JP.out.keep (Below.refl _ _).drew)
        replace JR := Lib.hid (JR.out.keep (Below.refl _ _).drew)
        replace JB := Lib.hid JB.out.drew
        have HC5 := Lib.hid (HLe.out l wq.drew HS5.out.2.2.1)
        clear HS3 p0 p1 p2 hf1 hf2
        generalize wq.drew = wz at *
        obtain ⟨p0, p1, p2, p3⟩ := JP.out
        have hf1 := p3 1
        clear p3
        refine Sch.tn_two ?_ ?_
        · skip
          refine Sch.tn_e rfl rfl (fun K hK => ?_)
          go_wp2_with fail
          refine hK _ _ HS5.out ?_
          clear hK K
          refine Sch.tn_e rfl rfl (fun K hK => ?_)
          go_wp2_with fail
          refine HC5.out.mono ?_
          rintro e w6 ⟨rfl, rfl⟩
          refine hK _ _ HS5.out ?_
          clear hK K
          repeat (first
            | (refine Sch.tn_q rfl rfl rfl (fun K hK => ?_); go_big_quiet_op; (first | refine hK _ ?_ | refine ⟨_, fun _ _ => rfl, hK _ ?_⟩); clear hK K)
            | (refine Sch.tn_chk _ _ _ rfl rfl rfl rfl rfl ?_; simp only [Act.put, List.setIfInBounds_toArray, List.set_cons_zero, List.set_cons_succ]))
          refine Sch.tn_e rfl rfl (fun K hK => ?_)
          go_wp2_with fail
          have JP2 := Lib.hid (JP.out.set1 ((z : Int) + (l.len : Int)))
          have JR2 := Lib.hid (JR.out.gb (gb_setCell _ (w.heap.size + 1) 1 (.int .i64 ((z : Int) + (l.len : Int)))) (by omega))
          have JB2 := Lib.hid (JB.out.setCell (p := ⟨w.heap.size + 1, 1, none⟩) (by simp) (.int .i64 ((z : Int) + (l.len : Int))))
          refine hK _ _ (⟨JP2.out.2.2.1, JT.out.keep JB2.out⟩) ?_
          clear hK K
          refine Sch.tn_n ?_
          clear p0 p1 p2 hf1 JP JR JB HS5
          generalize World.setCell _ ⟨w.heap.size + 1, 1, none⟩ (.int .i64 ((z : Int) + (l.len : Int))) = wy at *
          obtain ⟨p0, p1, p2, p3⟩ := JP2.out
          obtain ⟨r0, r1, r2, r3⟩ := JR2.out
          have g0 := r3 0
          have g1 := r3 1
          have g2 := r3 2
          have hBR : (w.heap.size + 1 : Nat) ≠ w.heap.size := by omega
          clear r3 p3
          go_wp2_with fail
          (try simp only [Exit.inBlock, Exit.then])
          refine bodyPost_ret (v := .agg #[.pointer T.ad, .int .i64 ((z : Int) + (l.len : Int)), .pointer (some ⟨b, 0, none⟩)]) (ret_place (JR2.out.put3 T.ad ((z : Int) + (l.len : Int)) (some ⟨b, 0, none⟩)) rfl) rfl ?_
          refine ⟨.node b uk uv l r, ?_, JX.out, ?_, ((JB2.out.setCell (p := ⟨w.heap.size, 0, none⟩) (Nat.le_refl _) _).setCell (p := ⟨w.heap.size, 1, none⟩) (Nat.le_refl _) _).setCell (p := ⟨w.heap.size, 2, none⟩) (Nat.le_refl _) _⟩
          · rw [hz0.out]; rfl
          · rw [hF0.out]; exact ⟨b, l, r, rfl⟩
        · skip
          refine Sch.tn_e rfl rfl (fun K hK => ?_)
          go_wp2_with fail
          refine HC5.out.mono ?_
          rintro e w6 ⟨rfl, rfl⟩
          refine hK _ _ HS5.out ?_
          clear hK K
          refine Sch.tn_e rfl rfl (fun K hK => ?_)
          go_wp2_with fail
          refine hK _ _ HS5.out ?_
          clear hK K
          repeat (first
            | (refine Sch.tn_q rfl rfl rfl (fun K hK => ?_); go_big_quiet_op; (first | refine hK _ ?_ | refine ⟨_, fun _ _ => rfl, hK _ ?_⟩); clear hK K)
            | (refine Sch.tn_chk _ _ _ rfl rfl rfl rfl rfl ?_; simp only [Act.put, List.setIfInBounds_toArray, List.set_cons_zero, List.set_cons_succ]))
          refine Sch.tn_e rfl rfl (fun K hK => ?_)
          go_wp2_with fail
          have JP2 := Lib.hid (JP.out.set1 ((z : Int) + (l.len : Int)))
          have JR2 := Lib.hid (JR.out.gb (gb_setCell _ (w.heap.size + 1) 1 (.int .i64 ((z : Int) + (l.len : Int)))) (by omega))
          have JB2 := Lib.hid (JB.out.setCell (p := ⟨w.heap.size + 1, 1, none⟩) (by simp) (.int .i64 ((z : Int) + (l.len : Int))))
          refine hK _ _ (⟨JP2.out.2.2.1, JT.out.keep JB2.out⟩) ?_
          clear hK K
          refine Sch.tn_n ?_
          clear p0 p1 p2 hf1 JP JR JB HS5
          generalize World.setCell _ ⟨w.heap.size + 1, 1, none⟩ (.int .i64 ((z : Int) + (l.len : Int))) = wy at *
          obtain ⟨p0, p1, p2, p3⟩ := JP2.out
          obtain ⟨r0, r1, r2, r3⟩ := JR2.out
          have g0 := r3 0
          have g1 := r3 1
          have g2 := r3 2
          have hBR : (w.heap.size + 1 : Nat) ≠ w.heap.size := by omega
          clear r3 p3
          go_wp2_with fail
          (try simp only [Exit.inBlock, Exit.then])
          refine bodyPost_ret (v := .agg #[.pointer T.ad, .int .i64 ((z : Int) + (l.len : Int)), .pointer (some ⟨b, 0, none⟩)]) (ret_place (JR2.out.put3 T.ad ((z : Int) + (l.len : Int)) (some ⟨b, 0, none⟩)) rfl) rfl ?_
          refine ⟨.node b uk uv l r, ?_, JX.out, ?_, ((JB2.out.setCell (p := ⟨w.heap.size, 0, none⟩) (Nat.le_refl _) _).setCell (p := ⟨w.heap.size, 1, none⟩) (Nat.le_refl _) _).setCell (p := ⟨w.heap.size, 2, none⟩) (Nat.le_refl _) _⟩
          · rw [hz0.out]; rfl
          · rw [hF0.out]; exact ⟨b, l, r, rfl⟩
      · have hne : k.s.size ≠ uk.s.size := fun e => h0 (cmpR_eq.2 e)
        by_cases h1 : cmpR d k uk < 0
        · have hbf : bef d uk k = false := bef_asymm (cmpR_lt.1 h1)
          have hz1 : Hid (Z = z + rank d l.list k) := by
            show _ = _
            rw [JZ.out, list_node, rank_l hbf]
          have hF1 : Hid (F = find d l.list k) := by
            show _ = _
            rw [JF.out, list_node, find_l hbf hne]
          clear JZ JF JS hne hbf
          have HC := Lib.hid (HF.out k uk wr.drew)
          obtain ⟨c, hc⟩ : ∃ c, c = cmpR d k uk := ⟨_, rfl⟩
          rw [← hc] at HC h0 h1
          have hc0 : (c == 0) = false := by simpa using h0
          clear hc h0
          go_wp2_with fail
          clear p0 p1 p2 hf1 hf2
          refine Sch.wp_region_tn (SkA g fid T.ad (w.heap.size + 1) b (Tr.node b uk uv l r)) (.val 0 (.val 1 (.val 2 (.val 3 (.val 4 (.val 5 (.val 6 (.val 7 (.val 8 (.val 9 (.one 10 (.val 11 .done)))))))))))) (by kernel_rfl) (by kernel_rfl) HS3.out ?_
          repeat (first
            | (refine Sch.tn_q rfl rfl rfl (fun K hK => ?_); go_big_quiet_op; (first | refine hK _ ?_ | refine ⟨_, fun _ _ => rfl, hK _ ?_⟩); clear hK K)
            | (refine Sch.tn_chk _ _ _ rfl rfl rfl rfl rfl ?_; simp only [Act.put, List.setIfInBounds_toArray, List.set_cons_zero, List.set_cons_succ])
            | (refine Sch.tn_load _ _ _ _ _ rfl rfl rfl rfl (by first | exact A1.out | exact A2.out | exact A3.out) rfl ?_; simp only [Act.put, List.setIfInBounds_toArray, List.set_cons_zero, List.set_cons_succ]))
          refine Sch.tn_e rfl rfl (fun K hK => ?_)
          go_wp2_with fail
          refine HC.out.mono ?_
          rintro e w5 ⟨rfl, rfl⟩
          refine hK _ _ HS3.out ?_
          clear hK K
          repeat (first
            | (refine Sch.tn_q rfl rfl rfl (fun K hK => ?_); go_big_quiet_op; (first | refine hK _ ?_ | refine ⟨_, fun _ _ => rfl, hK _ ?_⟩); clear hK K)
            | (refine Sch.tn_chk _ _ _ rfl rfl rfl rfl rfl ?_; simp only [Act.put, List.setIfInBounds_toArray, List.set_cons_zero, List.set_cons_succ]))
          refine Sch.tn_n ?_
          replace JP := Lib.hid (JP.out.keep (Below.refl _ _).drew)
          replace JR := Lib.hid (JR.out.keep (Below.refl _ _).drew)
          replace JB := Lib.hid JB.out.drew
          generalize wr.drew = wq at *
          obtain ⟨p0, p1, p2, p3⟩ := JP.out
          have hf1 := p3 1
          have hf2 := p3 2
          rw [Tr.ad_node] at p2
          have k2 := HS3.out.2.2.1.2.2.1
          have k3 := HS3.out.2.2.1.2.2.2.1
          clear p3 HC
          go_wp2_with fail
          have JP2 := Lib.hid (JP.out.set2 l.ad)
          have JR2 := Lib.hid (JR.out.gb (gb_setCell _ (w.heap.size + 1) 2 (.pointer l.ad)) (by omega))
          have JB2 := Lib.hid (JB.out.setCell (p := ⟨w.heap.size + 1, 2, none⟩) (by simp) (.pointer l.ad))
          go_roundw
          case rel => exact ⟨l, z, JP2, JR2, JB2, fun W h => (JX.out W h).2.1, (srt_parts hSr.out).1, hz1, hF1, by omega⟩
          case measure =>
            rw [ndOf_at JP2.out (JT.out.2.1.keep JB2.out), hnd]
            omega
        · have hbf : bef d uk k = true := cmpR_gt h1 h0
          have hz2 : Hid (Z = z + (l.len + 1) + rank d r.list k) := by
            show _ = _
            rw [JZ.out, list_node, rank_r hSr.out hbf]; unfold Tr.len; omega
          have hF2 : Hid (F = find d r.list k) := by
            show _ = _
            rw [JF.out, list_node, find_r hSr.out hbf]
          clear JZ JF JS hne hbf
          have HC := Lib.hid (HF.out k uk wr.drew)
          obtain ⟨c, hc⟩ : ∃ c, c = cmpR d k uk := ⟨_, rfl⟩
          rw [← hc] at HC h0 h1
          have hc0 : (c == 0) = false := by simpa using h0
          clear hc h0
          go_wp2_with fail
          clear p0 p1 p2 hf1 hf2
          refine Sch.wp_region_tn (SkA g fid T.ad (w.heap.size + 1) b (Tr.node b uk uv l r)) (.val 0 (.val 1 (.val 2 (.val 3 (.val 4 (.val 5 (.val 6 (.val 7 (.val 8 (.val 9 (.one 10 (.val 11 .done)))))))))))) (by kernel_rfl) (by kernel_rfl) HS3.out ?_
          repeat (first
            | (refine Sch.tn_q rfl rfl rfl (fun K hK => ?_); go_big_quiet_op; (first | refine hK _ ?_ | refine ⟨_, fun _ _ => rfl, hK _ ?_⟩); clear hK K)
            | (refine Sch.tn_chk _ _ _ rfl rfl rfl rfl rfl ?_; simp only [Act.put, List.setIfInBounds_toArray, List.set_cons_zero, List.set_cons_succ])
            | (refine Sch.tn_load _ _ _ _ _ rfl rfl rfl rfl (by first | exact A1.out | exact A2.out | exact A3.out) rfl ?_; simp only [Act.put, List.setIfInBounds_toArray, List.set_cons_zero, List.set_cons_succ]))
          refine Sch.tn_e rfl rfl (fun K hK => ?_)
          go_wp2_with fail
          refine HC.out.mono ?_
          rintro e w5 ⟨rfl, rfl⟩
          refine hK _ _ HS3.out ?_
          clear hK K
          repeat (first
            | (refine Sch.tn_q rfl rfl rfl (fun K hK => ?_); go_big_quiet_op; (first | refine hK _ ?_ | refine ⟨_, fun _ _ => rfl, hK _ ?_⟩); clear hK K)
            | (refine Sch.tn_chk _ _ _ rfl rfl rfl rfl rfl ?_; simp only [Act.put, List.setIfInBounds_toArray, List.set_cons_zero, List.set_cons_succ]))
          refine Sch.tn_n ?_
          replace JP := Lib.hid (JP.out.keep (Below.refl _ _).drew)
          replace JR := Lib.hid (JR.out.keep (Below.refl _ _).drew)
          replace JB := Lib.hid JB.out.drew
          generalize wr.drew = wq at *
          obtain ⟨p0, p1, p2, p3⟩ := JP.out
          have hf1 := p3 1
          have hf2 := p3 2
          rw [Tr.ad_node] at p2
          have k2 := HS3.out.2.2.1.2.2.1
          have k3 := HS3.out.2.2.1.2.2.2.1
          clear p3 HC
          go_wp2_with fail
          have HS5 : Hid (SkB (w.heap.size + 1) b (Tr.node b uk uv l r) wq.drew) := ⟨HS3.out.2.1, HS3.out.2.2.drew⟩
          clear k2 k3
          refine Sch.wp_region_tn (SkB (w.heap.size + 1) b (Tr.node b uk uv l r)) (.val 0 (.val 2 (.val 3 (.val 4 (.val 5 (.val 6 (.two 1 (.one 7 (.val 8 (.val 9 (.val 10 (.one 11 .done))))) 7 (.val 8 (.one 1 (.val 9 (.val 10 (.one 11 .done)))))))))))) (by kernel_rfl) (by kernel_rfl) HS5.out ?_
          repeat (first
            | (refine Sch.tn_q rfl rfl rfl (fun K hK => ?_); go_big_quiet_op; (first | refine hK _ ?_ | refine ⟨_, fun _ _ => rfl, hK _ ?_⟩); clear hK K)
            | (refine Sch.tn_chk _ _ _ rfl rfl rfl rfl rfl ?_; simp only [Act.put, List.setIfInBounds_toArray, List.set_cons_zero, List.set_cons_succ])
            | (refine Sch.tn_load _ _ _ _ _ rfl rfl rfl rfl (by first | exact A4.out | exact A5.out) rfl ?_; simp only [Act.put, List.setIfInBounds_toArray, List.set_cons_zero, List.set_cons_succ]))
          replace JP := Lib.hid (JP.out.keep (Below.refl _ _).drew)
          replace JR := Lib.hid (JR.out.keep (Below.refl _ _).drew)
          replace JB := Lib.hid JB.out.drew
          have HC5 := Lib.hid (HLe.out l wq.drew HS5.out.2.2.1)
          clear HS3 p0 p1 p2 hf1 hf2
          generalize wq.drew = wz at *
          obtain ⟨p0, p1, p2, p3⟩ := JP.out
          have hf1 := p3 1
          clear p3
          refine Sch.tn_two ?_ ?_
          · skip
            refine Sch.tn_e rfl rfl (fun K hK => ?_)
            go_wp2_with fail
            refine hK _ _ HS5.out ?_
            clear hK K
            refine Sch.tn_e rfl rfl (fun K hK => ?_)
            go_wp2_with fail
            refine HC5.out.mono ?_
            rintro e w6 ⟨rfl, rfl⟩
            refine hK _ _ HS5.out ?_
            clear hK K
            repeat (first
              | (refine Sch.tn_q rfl rfl rfl (fun K hK => ?_); go_big_quiet_op; (first | refine hK _ ?_ | refine ⟨_, fun _ _ => rfl, hK _ ?_⟩); clear hK K)
              | (refine Sch.tn_chk _ _ _ rfl rfl rfl rfl rfl ?_; simp only [Act.put, List.setIfInBounds_toArray, List.set_cons_zero, List.set_cons_succ]))
            refine Sch.tn_e rfl rfl (fun K hK => ?_)
            go_wp2_with fail
            have JP2 := Lib.hid (JP.out.set1 ((z : Int) + ((l.len : Int) + 1)))
            have JR2 := Lib.hid (JR.out.gb (gb_setCell _ (w.heap.size + 1) 1 (.int .i64 ((z : Int) + ((l.len : Int) + 1)))) (by omega))
            have JB2 := Lib.hid (JB.out.setCell (p := ⟨w.heap.size + 1, 1, none⟩) (by simp) (.int .i64 ((z : Int) + ((l.len : Int) + 1))))
            refine hK _ _ (⟨JP2.out.2.2.1, JT.out.keep JB2.out⟩) ?_
            clear hK K
            refine Sch.tn_n ?_
            clear p0 p1 p2 hf1 JP JR JB HS5
            generalize World.setCell _ ⟨w.heap.size + 1, 1, none⟩ (.int .i64 ((z : Int) + ((l.len : Int) + 1))) = wy at *
            obtain ⟨p0, p1, p2, p3⟩ := JP2.out
            have hf2 := p3 2
            have k3 := (JT.out.keep JB2.out).1.2.2.2.1
            rw [Tr.ad_node] at p2
            clear p3
            go_wp2_with fail
            have JP3 := Lib.hid (JP2.out.set2 r.ad)
            have JR3 := Lib.hid (JR2.out.gb (gb_setCell _ (w.heap.size + 1) 2 (.pointer r.ad)) (by omega))
            have JB3 := Lib.hid (JB2.out.setCell (p := ⟨w.heap.size + 1, 2, none⟩) (by simp) (.pointer r.ad))
            go_roundw
            case rel => exact ⟨r, z + (l.len + 1), by rw [show ((z + (l.len + 1) : Nat) : Int) = (z : Int) + ((l.len : Int) + 1) by omega]; exact JP3, JR3, JB3, fun W h => (JX.out W h).2.2, (srt_parts hSr.out).2, hz2, hF2, by omega⟩
            case measure =>
              rw [ndOf_at JP3.out (JT.out.2.2.keep JB3.out), hnd]
              omega
          · skip
            refine Sch.tn_e rfl rfl (fun K hK => ?_)
            go_wp2_with fail
            refine HC5.out.mono ?_
            rintro e w6 ⟨rfl, rfl⟩
            refine hK _ _ HS5.out ?_
            clear hK K
            repeat (first
              | (refine Sch.tn_q rfl rfl rfl (fun K hK => ?_); go_big_quiet_op; (first | refine hK _ ?_ | refine ⟨_, fun _ _ => rfl, hK _ ?_⟩); clear hK K)
              | (refine Sch.tn_chk _ _ _ rfl rfl rfl rfl rfl ?_; simp only [Act.put, List.setIfInBounds_toArray, List.set_cons_zero, List.set_cons_succ]))
            refine Sch.tn_e rfl rfl (fun K hK => ?_)
            go_wp2_with fail
            refine hK _ _ HS5.out ?_
            clear hK K
            repeat (first
              | (refine Sch.tn_q rfl rfl rfl (fun K hK => ?_); go_big_quiet_op; (first | refine hK _ ?_ | refine ⟨_, fun _ _ => rfl, hK _ ?_⟩); clear hK K)
              | (refine Sch.tn_chk _ _ _ rfl rfl rfl rfl rfl ?_; simp only [Act.put, List.setIfInBounds_toArray, List.set_cons_zero, List.set_cons_succ]))
            refine Sch.tn_e rfl rfl (fun K hK => ?_)
            go_wp2_with fail
            have JP2 := Lib.hid (JP.out.set1 ((z : Int) + ((l.len : Int) + 1)))
            have JR2 := Lib.hid (JR.out.gb (gb_setCell _ (w.heap.size + 1) 1 (.int .i64 ((z : Int) + ((l.len : Int) + 1)))) (by omega))
            have JB2 := Lib.hid (JB.out.setCell (p := ⟨w.heap.size + 1, 1, none⟩) (by simp) (.int .i64 ((z : Int) + ((l.len : Int) + 1))))
            refine hK _ _ (⟨JP2.out.2.2.1, JT.out.keep JB2.out⟩) ?_
            clear hK K
            refine Sch.tn_n ?_
            clear p0 p1 p2 hf1 JP JR JB HS5
            generalize World.setCell _ ⟨w.heap.size + 1, 1, none⟩ (.int .i64 ((z : Int) + ((l.len : Int) + 1))) = wy at *
            obtain ⟨p0, p1, p2, p3⟩ := JP2.out
            have hf2 := p3 2
            have k3 := (JT.out.keep JB2.out).1.2.2.2.1
            rw [Tr.ad_node] at p2
            clear p3
            go_wp2_with fail
            have JP3 := Lib.hid (JP2.out.set2 r.ad)
            have JR3 := Lib.hid (JR2.out.gb (gb_setCell _ (w.heap.size + 1) 2 (.pointer r.ad)) (by omega))
            have JB3 := Lib.hid (JB2.out.setCell (p := ⟨w.heap.size + 1, 2, none⟩) (by simp) (.pointer r.ad))
            go_roundw
            case rel => exact ⟨r, z + (l.len + 1), by rw [show ((z + (l.len + 1) : Nat) : Int) = (z : Int) + ((l.len : Int) + 1) by omega]; exact JP3, JR3, JB3, fun W h => (JX.out W h).2.2, (srt_parts hSr.out).2, hz2, hF2, by omega⟩
            case measure =>
              rw [ndOf_at JP3.out (JT.out.2.2.keep JB3.out), hnd]
              omega
end Go.Proofs.Ytmmcnpcijeahcaa.Jt
