/-
  The law's pairs: what an iterator yields, at most so many.
-/
import Derived.Test.YtmmcnpcijeahcaaJIter
import Derived.Test.YtmmcnpcijeahcaaJRows
namespace Go.Proofs.Ytmmcnpcijeahcaa.J
set_option linter.unusedVariables false
open Go.RowKit V Go.Shelf
attribute [local go_sem] Oper.semAt_some

abbrev E : TypeId := 49
theorem infoP : (Try.prog.info? E).map (fun i => (i.zero, i.size, i.bytes)) = some (some (.agg #[.int .i64 0, .string ⟨#[]⟩]), 2, 24) := by kernel_rfl
/-- A box, wholly. -/
def Bx (w : World) (b : Nat) (v : Value) (t : TypeId) : Prop := w.heap[b]? = some (.cells #[v] t (0, 0))
section
variable {w w' : World} {b : Nat} {v : Value} {t : TypeId}
theorem Bx.lt (h : Bx w b v t) : b < w.heap.size := (Array.getElem?_eq_some_iff.1 h).1
theorem Bx.cell (h : Bx w b v t) : w.cell? ⟨b, 0, none⟩ = some v := by unfold Bx at h; simp only [World.cell?, h]; rfl
theorem Bx.free (h : Bx w b v t) : w.frozen? ⟨b, 0, none⟩ = false := by unfold Bx at h; simp [World.frozen?, h]
theorem Bx.keep (h : Bx w b v t) (hb : Below w.heap.size w w') : Bx w' b v t := (hb.block b h.lt).trans h
theorem Bx.gb {g : Option Nat} (h : Bx w b v t) (hg : w.grownBy w' g) (hne : some b ≠ g) : Bx w' b v t := (hg.block b h.lt hne).trans h
theorem Bx.set (h : Bx w b v t) (u : Value) : Bx (w.setCell ⟨b, 0, none⟩ u) b u t := by
  unfold Bx at *
  simp [World.setCell, Array.getElem?_modify, h]
theorem bx_new (w : World) (v : Value) (t : TypeId) : Bx (w.alloc (.cells #[v] t)) w.heap.size v t := World.alloc_heap_new w _
end
theorem OP.abF {B base : Nat} {E : TypeId} {v : Value} {l : List Pr} : AbF B (fun A => OP A base E v l) := fun A A' row ha hg hr => ha.keep hg (by
  rcases hv : v.ownBlock with _ | x
  · exact .inl rfl
  · refine .inr fun e => ?_
    obtain ⟨vs, hx⟩ := ha.obj x hv
    obtain ⟨_, o, h1, h2⟩ := hr x e.symm
    rw [hx] at h1
    cases h1
    cases h2)
theorem below_abF {n B : Nat} {w : World} (hn : n ≤ B) : AbF B (fun A => Below n w A ∧ n ≤ A.heap.size) := fun A A' row ha hg hr => ⟨ha.1.grown hg ha.2 (fun k hk => Nat.le_trans hn (hr k hk).1), Nat.le_trans ha.2 hg.size⟩
theorem lit_one (w : World) (p : Pr) (t : TypeId) : RowP (w.alloc (.cells #[.int .i64 p.1, .string p.2] t)) (some ⟨w.heap.size, 0, none⟩) [p] := RowP.lit w [p] _ t (0, 0) rfl
theorem seq_nil (gf : FuncId) (lb : Array Value) (w : World) : (binOp .eql 43 (.func (.func gf) #[] lb) .nilFunc).run Try.prog w = .ok (.bool false) w := by kernel_rfl
/-- The pairs, while they come. -/
def PI (w : World) (m : Int) (pre : List Pr) (A : World) : Prop :=
  (Below w.heap.size w A ∧ w.heap.size ≤ A.heap.size) ∧ Bx A w.heap.size (.int .i64 m) 3 ∧ ∃ v, Bx A (w.heap.size + 1) v 27 ∧ OP A (w.heap.size + 1 + 1) E v pre
theorem PI.abF {B : Nat} {w : World} {m : Int} {pre : List Pr} (hB : w.heap.size + 1 + 1 ≤ B) : AbF B (PI w m pre) := fun A A' row ha hg hr => by
  obtain ⟨h1, h2, v, h3, h4⟩ := ha
  exact ⟨below_abF (B := B) (by omega) A A' row h1 hg hr, AbF.low (B := B) (by omega) A A' row h2 hg hr, v, AbF.low (B := B) (by omega) A A' row h3 hg hr, OP.abF (B := B) A A' row h4 hg hr⟩

theorem Kp.own {C base : Nat} {A A' : World} {v : Value} {l : List Pr} (ho : OP A base E v l) (hg : A.grownBy A' v.ownBlock) : Kp C A A' := by
  rcases hv : v.ownBlock with _ | x
  · rw [hv] at hg
    exact ⟨⟨hg.size, fun k o _ ha _ => (hg.block k (Array.getElem?_eq_some_iff.1 ha).1 (by simp)).trans ha⟩, fun b vs fr _ ha => (hg.block b (Array.getElem?_eq_some_iff.1 ha).1 (by simp)).trans ha⟩
  · rw [hv] at hg
    obtain ⟨vs, hx⟩ := ho.obj x hv
    exact Kp.gb hg hx (by decide)
/-- One pair more has been written. -/
theorem PI.step {w A W5 : World} {m : Int} {pre m' : List Pr} {v v5 : Value} {y : Pr} {t : TypeId} (hB : Below w.heap.size w A) (hle : w.heap.size ≤ A.heap.size) (h0 : Bx A w.heap.size (.int .i64 m) 3) (h1 : Bx A (w.heap.size + 1) v 27)
    (ho : OP A (w.heap.size + 1 + 1) E v pre) (o : Obj) (hg : (A.alloc o).grownBy W5 v.ownBlock) (ho5 : OP W5 (w.heap.size + 1 + 1) E v5 m') :
    PI w m m' (W5.setCell ⟨w.heap.size + 1, 0, none⟩ v5) ∧ Kp (w.heap.size + 1 + 1) A (W5.setCell ⟨w.heap.size + 1, 0, none⟩ v5) ∧ Bx W5 (w.heap.size + 1) v 27 := by
  have hlt : ∀ x, v.ownBlock = some x → w.heap.size + 1 + 1 ≤ x := fun x hx => (ho.lt x hx).1
  have hba := bel_box A o
  have ne1 : some (w.heap.size + 1) ≠ v.ownBlock := fun e => by have := hlt _ e.symm; omega
  have ne0 : some w.heap.size ≠ v.ownBlock := fun e => by have := hlt _ e.symm; omega
  have hx1 : Bx W5 (w.heap.size + 1) v 27 := (h1.keep hba).gb hg ne1
  have hx0 : Bx W5 w.heap.size (.int .i64 m) 3 := (h0.keep hba).gb hg ne0
  have hs5 : w.heap.size ≤ W5.heap.size := Nat.le_trans hle (Nat.le_trans hba.size hg.size)
  have hb5 : Below w.heap.size w W5 := (hB.alloc hle o).grown hg (Nat.le_trans hle hba.size) fun k hk => by have := hlt k hk; omega
  refine ⟨⟨⟨hb5.setCell (by simp) _, by rw [show (W5.setCell ⟨w.heap.size + 1, 0, none⟩ v5).heap.size = W5.heap.size by simp [World.setCell]]; exact hs5⟩, ?_, v5, hx1.set v5, ?_⟩, ((Kp.bel hba).trans (Kp.own (ho.below hba) hg)).trans (Kp.gbLow (gb_setCell W5 (w.heap.size + 1) 0 v5) (by omega)), hx1⟩
  · exact hx0.gb (gb_setCell W5 (w.heap.size + 1) 0 v5) (by simp)
  · refine ho5.keep (gb_setCell W5 (w.heap.size + 1) 0 v5) ?_
    rcases hv : v5.ownBlock with _ | x
    · exact .inl rfl
    · exact .inr (by have := (ho5.lt x hv).1; simp; omega)

set_option maxRecDepth 100000 in
set_option maxHeartbeats 4000000 in
theorem pairs_any (gf : Nat) (lb : Array Value) (T : Tr) (S : List Pr) (m : Int) (w : World) (eg : ∀ args w, (callFunc gf args).run Try.prog w = .ok (.enter gf args) w) (hT : T.In w) (hseq : ∀ W, Below w.heap.size w W → SeqP gf lb (fun A => T.In A) S W) (hm : 1 ≤ m) (hS : S.length ≤ 1000000) :
    Calls Try.prog 22 #[.func (.func gf) #[] lb, .int .i64 m] w fun e w' => ∃ v, e = .returned v ∧ OP w' w.heap.size E v (S.take m.toNat) ∧ Below w.heap.size w w' := by
  have hq := seq_nil gf lb
  have HT := Lib.hid hT
  have HSQ := Lib.hid hseq
  have HSL := Lib.hid hS
  have EG := Lib.hid eg
  have hm1 : ¬ m < 1 := by omega
  clear hT hseq hS eg
  refine (callsIn_wide (n := 3)).1 ?_
  refine callsIn_of_wp_marks Try.func22 rfl trivial ?_ rfl
  simp only [Try.ntmps22, List.size_toArray, List.length_cons, List.length_nil, Nat.reduceAdd, Nat.reduceSub, Array.replicate_succ, Array.replicate_zero, List.push_toArray, List.append_toArray, List.nil_append, List.cons_append]
  gi_wp2
  have hsz : ((w.alloc (.cells #[.int .i64 m] 3)).alloc (.cells #[.slice none 0 0] 27)).heap.size = w.heap.size + 1 + 1 := by simp
  have HB0 : Hid (Below w.heap.size w ((w.alloc (.cells #[.int .i64 m] 3)).alloc (.cells #[.slice none 0 0] 27))) := (bel_box _ _).alloc (by simp) _
  have HX0 : Hid (Bx ((w.alloc (.cells #[.int .i64 m] 3)).alloc (.cells #[.slice none 0 0] 27)) w.heap.size (.int .i64 m) 3) := (bx_new w _ _).keep (bel_box _ _)
  have HX1 : Hid (Bx ((w.alloc (.cells #[.int .i64 m] 3)).alloc (.cells #[.slice none 0 0] 27)) (w.heap.size + 1) (.slice none 0 0) 27) := by
    have := bx_new (w.alloc (.cells #[.int .i64 m] 3)) (.slice none 0 0) 27
    rwa [show (w.alloc (.cells #[.int .i64 m] 3)).heap.size = w.heap.size + 1 by simp] at this
  generalize (w.alloc (.cells #[.int .i64 m] 3)).alloc (.cells #[.slice none 0 0] 27) = w1 at *
  have hPI : PI w m [] w1 := ⟨⟨HB0.out, HB0.out.size⟩, HX0.out, _, HX1.out, OP.nil _ _ _⟩
  refine range_own (by decide) rfl EG.out rfl S (fun A => T.In A) (HSQ.out w1 HB0.out) (fun pre A => PI w m pre A ∧ pre.length < m.toNat) (fun c A => c = .exit 0 ∧ PI w m (S.take m.toNat) A)
    (fun pre => (PI.abF (by omega)).and (AbF.const _)) (fun c => (AbF.const _).and (PI.abF (by omega))) (fun pre A h => HT.out.keep h.1.1.1) (fun c A h => HT.out.keep h.2.1.1) ⟨hPI, by simp; omega⟩ ?a1 ?assign ?body ?done ?stop
  case assign =>
    intro l' y A K hK
    gi_wp2
    exact hK
  case body =>
    rintro l' pre y A ⟨⟨⟨hB, hle⟩, h0, v, h1, ho⟩, hlen⟩ hpre
    obtain ⟨m', hm'⟩ : ∃ m', m' = pre ++ [y] := ⟨_, rfl⟩
    have hml : m'.length = pre.length + 1 := by rw [hm']; simp
    have hmS : m'.length ≤ S.length := by rw [hm']; exact hpre.length_le
    have hmp : m' <+: S := by rw [hm']; exact hpre
    rw [← hm']
    obtain ⟨a, c, rfl, hrow, hnil, hcap, -⟩ := ho.row
    have c0 := h0.cell
    have c1 := h1.cell
    have HBe := Lib.hid hB
    have HLe := Lib.hid hle
    have H0 := Lib.hid h0
    have H1 := Lib.hid h1
    have HO := Lib.hid ho
    have HM := Lib.hid hm'
    have HMP := Lib.hid hmp
    have HL : Hid (pre.length < m.toNat ∧ m'.length = pre.length + 1 ∧ m'.length ≤ 1000000) := ⟨hlen, hml, by have := HSL.out; omega⟩
    have e1 : w1.heap.size = w.heap.size + 1 + 1 := hsz
    clear hB hle h0 h1 ho hm' hpre hmp hml hmS hlen hrow hnil hcap
    gi_wp2_with (
      gi_at_builtin
      refine wpListIn_appP rfl _ _ _ rfl Try.underlying27 infoP _ _ rfl (HO.out.below (bel_box _ _)) (some ⟨A.heap.size, 0, none⟩) [y] 1 rfl (lit_one A y _) (fun h => by cases h) (by have := HL.out; simp only [List.length_cons, List.length_nil]; omega) (by have := HLe.out; have := H1.out.lt; simp; omega) ?_
      intro v5 W5 ho5 hg5 hgr
      rw [← HM.out] at ho5
      have hst := PI.step (m := m) (y := y) (t := E) HBe.out HLe.out H0.out H1.out HO.out _ hg5 ho5
      obtain ⟨g1, g2, g3⟩ := hst
      have hrw := ho5.row
      obtain ⟨a5, c5, rfl, -, -, -, -⟩ := hrw
      have G1 := Lib.hid g1
      have G2 := Lib.hid g2
      have c3 := g3.cell
      have f3 := g3.free
      have c5' := (g3.set (.slice a5 m'.length c5)).cell
      have c4 := G1.out.2.1.cell
      clear g1 g2 g3 c0 c1 ho5 hg5 hgr H0 H1 HO)
    · have hfull : m ≤ (m'.length : Int) := by assumption
      refine ⟨G2.out.mono (by omega), rfl, ?_⟩
      rw [show S.take m.toNat = m' by rw [show m.toNat = m'.length by have := HL.out; omega]; exact (List.prefix_iff_eq_take.1 HMP.out).symm]
      exact G1.out
    · have hfull : (m'.length : Int) < m := by assumption
      exact ⟨G2.out.mono (by omega), G1.out, by omega⟩
  case stop =>
    rintro D c A hD ⟨rfl, h1, h2, v, h3, h4⟩ hK
    have hc := h3.cell
    have HB := Lib.hid h1
    have HO := Lib.hid h4
    have HK := Lib.hid hK
    clear h1 h2 h3 h4 hK
    gi_wp2
    refine ⟨by simp, .inl ⟨_, _, rfl, run_takeDeferred HK.out, ?_⟩⟩
    exact ⟨_, results_tmp rfl _ _ _, v, rfl, (OP.abF.put _ HO.out (Nat.le_refl _) HK.out rfl).mono (fun k hk => by have := (HO.out.lt k hk).1; omega), (below_abF (Nat.le_refl _) |>.put _ HB.out (by omega) HK.out rfl).1⟩
  case done =>
    rintro D A hD ⟨⟨h1, h2, v, h3, h4⟩, hlen⟩ hK
    have hc := h3.cell
    have e : S.take m.toNat = S := List.take_of_length_le (by omega)
    have HB := Lib.hid h1
    have HO : Hid (OP A (w.heap.size + 1 + 1) E v (S.take m.toNat)) := by show OP _ _ _ _ _; rw [e]; exact h4
    have HK := Lib.hid hK
    clear h1 h2 h3 h4 hK e hlen
    gi_wp2
    refine ⟨by simp, .inl ⟨_, _, rfl, run_takeDeferred HK.out, ?_⟩⟩
    exact ⟨_, results_tmp rfl _ _ _, v, rfl, (OP.abF.put _ HO.out (Nat.le_refl _) HK.out rfl).mono (fun k hk => by have := (HO.out.lt k hk).1; omega), (below_abF (Nat.le_refl _) |>.put _ HB.out (by omega) HK.out rfl).1⟩
end Go.Proofs.Ytmmcnpcijeahcaa.J
