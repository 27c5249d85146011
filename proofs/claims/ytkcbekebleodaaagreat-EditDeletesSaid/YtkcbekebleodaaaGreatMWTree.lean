/-
  The tree of the nodes of a store: Go's own map from each dot to a map of its children.
-/
import Derived.Test.YtkcbekebleodaaaGreatMUIter
import Derived.Test.YtkcbekebleodaaaGreatMQMap
import Derived.Test.YtkcbekebleodaaaGreatMQAsk
import Derived.Test.YtkcbekebleodaaaGreatMQPlc
import Derived.Test.YtkcbekebleodaaaGreatMNPure
import Derived.Test.YtkcbekebleodaaaGreatQRow
import Derived.Test.YtkcbekebleodaaaGreatMGen
import Derived.Test.YtkcbekebleodaaaGreatMNMem
import Derived.OwnWalkIn
import Derived.Laws.AppendOwnNone

section
namespace Go.Proofs.YtkcbekebleodaaaGreat.Un
set_option linter.unusedVariables false
open Go.RowKit V Go.Shelf D Nd Qs Wk
attribute [local irreducible] Sch.heldN Sch.stepV Sch.stepE

/-- Pointers to maps, or none. -/
def elPt : Elem (Option Nat) where
  R v := match v with
    | .pointer none => some (.lit (.bool false), [])
    | .pointer (some ⟨g, 0, none⟩) => some (.lit (.int .i64 (g : Int)), [])
    | _ => none
  e := pt
  dat a := match a with | none => .lit (.bool false) | some g => .lit (.int .i64 (g : Int))
  x0 := none
  hR a := by cases a <;> rfl
  hinv v z h := by
    split at h
    · cases h; exact ⟨none, rfl, rfl⟩
    · cases h; exact ⟨some _, rfl, rfl⟩
    · cases h
  hdat x y h := by
    cases x <;> cases y
    · rfl
    · cases h
    · cases h
    · simp only [DataW.lit.injEq, Lit.int.injEq, true_and] at h
      rw [Int.ofNat_inj.1 h]
/-- Where the map of a dot's children is, if there is one. -/
def at? (f : Dt → Option (Option Nat)) (d : Dt) : Option Nat := (f d).getD none
/-- Block m is the tree of the nodes l; its maps lie at or beyond base. -/
structure Fr0 (base : Nat) (w : World) (m n : Nat) (f : Dt → Option (Option Nat)) (l : List Nt) : Prop where
  map : Dm elPt w m n f
  kid : ∀ d, fitD d → Ma w (at? f d) (childS l d)
  one : ∀ d e g, at? f d = some g → at? f e = some g → d = e
  low : ∀ d g, at? f d = some g → base ≤ g
  fit : ∀ d g, at? f d = some g → fitD d
/-- Block m is the tree of the nodes l. -/
def Fo (w : World) (m : Nat) (l : List Nt) : Prop := ∃ f, Dm elPt w m 1000000 f ∧ ∀ d, fitD d → Ma w (at? f d) (childS l d)
theorem Fo.keep {w w' : World} {m : Nat} {l : List Nt} (h : Fo w m l) (hb : Below w.heap.size w w') : Fo w' m l := by
  obtain ⟨f, h1, h2⟩ := h
  exact ⟨f, h1.keep hb, fun d hd => (h2 d hd).keep hb⟩
theorem fit_named {d : Dt} (h : named d) : fitD d := by
  have e1 : IntKind.i64.min = -9223372036854775808 := by decide
  have e2 : IntKind.i64.max = 9223372036854775807 := by decide
  unfold named validR rootR at h
  unfold fitD
  simp at h
  constructor <;> simp [Lit.wf, e1, e2] <;> omega
theorem fit_root : fitD (0, 0) := ⟨by decide, by decide⟩
theorem fit_store {l : List Nt} (h : validS l = true) : ∀ x ∈ l, fitN x := fun x hx => by
  have hv := valid_vn.1 ((validS_iff.1 h).1 x hx)
  exact ⟨fit_named (.inl hv.1), fit_named hv.2.1⟩
theorem uTree : Tryz.prog.underlying 129 = some (.map 25 136) := Tryz.underlying129
theorem zPt (w : World) : (zeroValue 136).run Tryz.prog w = .ok (elPt.e elPt.x0) w := Tryz.zeroValue136 w
theorem run_mkT (n : Nat) (w : World) : (Instr.makeMap 129 (some (.int .i64 (n : Int)))).run Tryz.prog w = .ok (.map (some w.heap.size)) (w.alloc (.map #[] 0)) := by
  simp [Instr.makeMap, run_underlying Tryz.underlying129, asInt, asIntOf, Result.andThen]
theorem Dm.lookT {w : World} {m n : Nat} {f : Dt → Option (Option Nat)} (h : Dm elPt w m n f) {d : Dt} (hd : fitD d) : (Instr.lookup 129 (.map (some m)) (dv d) false).run Tryz.prog w = .ok (pt (at? f d)) w :=
  Dm.look h uTree (zPt w) hd
theorem child_step {l : List Nt} {k : Nat} (hk : k < l.length) (d : Dt) : childS (l.take (k + 1)) d = childF d (childS (l.take k) d) l[k] := by
  unfold childS
  exact foldl_take (childF d) [] l k hk
theorem child_len (l : List Nt) (d : Dt) : (childS l d).length ≤ l.length := by
  have key : ∀ (t o : List Nt), (t.foldl (childF d) o).length ≤ o.length + t.length := by
    intro t
    induction t with
    | nil => intro o; simp
    | cons a t ih =>
      intro o
      rw [List.foldl_cons]
      refine Nat.le_trans (ih _) ?_
      unfold childF
      split
      · rw [insB_len]; simp only [List.length_cons]; omega
      · simp only [List.length_cons]; omega
  have := key l []
  simpa [childS] using this
theorem child_fr {l : List Nt} (hs : SrtN l) {k : Nat} (hk : k < l.length) (d : Dt) : Fr (childS (l.take k) d) l[k] := fun p hp e => by
  have hs2 : SrtN (l.take k) := List.Pairwise.sublist (List.take_sublist _ _) hs
  obtain ⟨h1, -⟩ := (mem_child hs2).1 hp
  obtain ⟨i, hi, rfl⟩ := List.mem_iff_getElem.1 h1
  rw [List.length_take] at hi
  rw [List.getElem_take] at e
  have := List.pairwise_iff_getElem.1 hs i k (by omega) hk (by omega)
  exact less_ne this e
section
variable {base : Nat} {w w' : World} {m n : Nat} {f : Dt → Option (Option Nat)} {l : List Nt}
theorem Fr0.keep (h : Fr0 base w m n f l) (hb : Below w.heap.size w w') : Fr0 base w' m n f l := ⟨h.map.keep hb, fun d hd => (h.kid d hd).keep hb, h.one, h.low, h.fit⟩
theorem Fr0.nil (w : World) : Fr0 w.heap.size (w.alloc (.map #[] 0)) w.heap.size 0 (fun _ => none) [] := ⟨Dm.made w, fun d hd => rfl, (fun d e g h => by cases h), (fun d g h => by cases h), (fun d g h => by cases h)⟩
/-- A map is laid for a dot that has none. -/
theorem Fr0.put (h : Fr0 base w m n f l) {d : Dt} {g : Nat} (hd : fitD d) (h0 : at? f d = none) (hg : Mp w g []) (hb : base ≤ g) (hf : ∀ e, at? f e ≠ some g) (h1 : Dm elPt w' m (n + 1) (putF f d (some g))) (h2 : w.grownBy w' (some m)) : Fr0 base w' m (n + 1) (putF f d (some g)) l := by
  have h8 := h.map.nb 8
  have hne : ∀ e g, Mp w g e → g ≠ m := fun e g hm => by
    rintro rfl
    obtain ⟨T, h3, -⟩ := hm
    have h4 := h3.1
    rw [h.map.nb 0] at h4
    cases h4
  have ea : ∀ e, at? (putF f d (some g)) e = if e = d then some g else at? f e := fun e => by
    unfold at? putF
    split <;> rfl
  refine ⟨h1, fun e he => ?_, fun d1 e1 g1 k1 k2 => ?_, fun d1 g1 k1 => ?_, fun d1 g1 k1 => ?_⟩
  · rw [ea]
    split
    · rename_i hde
      subst hde
      have := h.kid e hd
      rw [h0] at this
      show Mp w' g _
      rw [show childS l e = [] from this]
      exact hg.gb h2 (hne _ _ hg) h8
    · have := h.kid e he
      rcases hx : at? f e with _ | g2
      · rw [hx] at this; exact this
      · rw [hx] at this
        exact Mp.gb this h2 (hne _ _ this) h8
  · rw [ea] at k1 k2
    split at k1
    · split at k2
      · rename_i a b; rw [a, b]
      · cases k1; exact absurd k2 (hf e1)
    · split at k2
      · cases k2; exact absurd k1 (hf d1)
      · exact h.one d1 e1 g1 k1 k2
  · rw [ea] at k1
    split at k1
    · cases k1; exact hb
    · exact h.low d1 g1 k1
  · rw [ea] at k1
    split at k1
    · rename_i e; rw [e]; exact hd
    · exact h.fit d1 g1 k1
/-- A node is set. -/
theorem Fr0.set (h : Fr0 base w m n f l) {d : Dt} {g : Nat} {l' : List Nt} (h0 : at? f d = some g) (hg : w.grownBy w' (some g)) (h1 : Mp w' g (childS l' d)) (ho : ∀ e, e ≠ d → childS l' e = childS l e) : Fr0 base w' m n f l' := by
  have hd := h.fit d g h0
  have hk := h.kid d hd
  rw [h0] at hk
  have h8 := Mp.c8 hk
  have hne : g ≠ m := by
    rintro rfl
    obtain ⟨T, h3, -⟩ := hk
    have h4 := h3.1
    rw [h.map.nb 0] at h4
    cases h4
  refine ⟨h.map.kept hg (by simp; omega), fun e he => ?_, h.one, h.low, h.fit⟩
  by_cases hed : e = d
  · subst hed
    rw [h0]
    exact h1
  · rw [ho e hed]
    have hke := h.kid e he
    rcases hx : at? f e with _ | g2
    · rw [hx] at hke; exact hke
    · rw [hx] at hke
      refine Mp.gb hke hg (fun e2 => ?_) h8
      subst e2
      exact hed (h.one e d g2 hx h0)
end
end Go.Proofs.YtkcbekebleodaaaGreat.Un
end

/-
  treeOf.
-/
section
namespace Go.Proofs.YtkcbekebleodaaaGreat.Un
set_option linter.unusedVariables false
open Go.RowKit V Go.Shelf D Nd Qs Wk
attribute [local irreducible] Sch.heldN Sch.stepV Sch.stepE

theorem nb_ne {w : World} {G g : Nat} {q : Nt} {L : List Nt} (h : Nb w G q) (k : Mp w g L) : G ≠ g := by
  rintro rfl
  obtain ⟨T, h3, -⟩ := k
  have h4 := h3.1
  rw [h.1] at h4
  cases h4
/-- A box with a node, and the tree as far as it is laid. -/
def Tw (base G m n : Nat) (q : Nt) (f : Dt → Option (Option Nat)) (l : List Nt) (w : World) : Prop := Nb w G q ∧ Fr0 base w m n f l
theorem Tw.keep {base G m n : Nat} {q : Nt} {f : Dt → Option (Option Nat)} {l : List Nt} {w w' : World} (h : Tw base G m n q f l w) (hb : Below w.heap.size w w') : Tw base G m n q f l w' := ⟨h.1.keep hb, h.2.keep hb⟩
theorem ptr_nil (w : World) : Sem.run Tryz.prog (binOp .eql 136 (.pointer none) (.pointer none)) w = .ok (.bool true) w := by kernel_rfl

set_option maxRecDepth 100000 in
set_option maxHeartbeats 4000000 in
theorem treeOf_any (l : List Nt) (a : Option Addr) (c : Nat) (w : World) (hv : validS l = true) (hx : RowN w a l) (hlx : l.length ≤ 900000) :
    Calls Tryz.prog 97 #[.slice a l.length c] w fun e w' => ∃ m, e = .returned (.map (some m)) ∧ Fo w' m l ∧ Below w.heap.size w w' := by
  have HX := Lib.hid hx
  have HV := Lib.hid hv
  have HF := Lib.hid (fit_store hv)
  have hli : (l.length : Int) ≤ 900000 := by omega
  have HL := Lib.hid hlx
  have hmk := run_mkT l.length
  have HM0 : Hid (Fr0 w.heap.size (w.alloc (.map #[] 0)) w.heap.size 0 (fun _ => none) (l.take 0)) := Fr0.nil w
  have HB0 : Hid (Below w.heap.size w (w.alloc (.map #[] 0))) := bel_box w _
  clear hx hlx hv
  go_enter Tryz.func97, Tryz.ntmps97
  go_wp2_with fail
  go_loopw [5, 11] (fun _ i wr => ∃ (k n : Nat) (f : Dt → Option (Option Nat)), k ≤ l.length ∧ i = .int .i64 (k : Int) ∧ n ≤ k ∧ Hid (Below w.heap.size w wr) ∧ Hid (Fr0 w.heap.size wr w.heap.size n f (l.take k))) (fun _ i _ => l.length - (intOf i).toNat)
  case atStart => exact ⟨0, 0, fun _ => none, Nat.zero_le _, rfl, Nat.le_refl _, HB0, HM0⟩
  case round =>
    obtain ⟨k, n, f, hk, rfl, hn, hh, HM⟩ := hrel
    by_cases hlt : k < l.length
    · have hi0 : (k : Int) < (l.length : Int) := by omega
      obtain ⟨b1, o1, rfl, hna⟩ := na_of (HX.out.keep hh.out) k hlt
      have HS := Lib.hid (fun d => child_step hlt d)
      have HC := Lib.hid (fun d => child_fr (validS_iff.1 HV.out).2 hlt d)
      have HN := Lib.hid (fun d => child_len (l.take k) d)
      have HFq := Lib.hid (HF.out l[k] (List.getElem_mem hlt)).2
      have HKl : Hid (k < 900000) := by have := HL.out; show _ < _; omega
      obtain ⟨q, hq⟩ : ∃ q, q = l[k] := ⟨_, rfl⟩
      rw [← hq] at hna HFq HS HC
      clear hq
      have HB := bel_tr (Hid.out hh) (bel_box wr (.cells (nc q) 53))
      have HT : Hid (Tw w.heap.size wr.heap.size w.heap.size n q f (l.take k) (wr.alloc (.cells (nc q) 53))) := ⟨Nb.new wr q, HM.out.keep (bel_box _ _)⟩
      obtain ⟨h0, h1, h2, h3, h4, h5⟩ := hna
      have hlk := Dm.lookT HT.out.2.map HFq.out
      rcases hp : at? f q.2.1 with _ | g
      · rw [hp] at hlk
        have hpn := ptr_nil
        go_wp2_with fail
        have HTd := Lib.hid (HT.out.keep (Below.refl _ _).drew)
        have HBd := Lib.hid (Below.drew HB)
        have hG : w.heap.size < wr.heap.size := by have := HM.out.map.lt; exact this
        clear HT HB hlk h0 h1 h2 h3 h4 h5
        refine Sch.wp_region_tn (fun w => Nb w wr.heap.size q) (.val 0 (.val 1 (.val 2 (.one 3 (.one 4 .done))))) (by kernel_rfl) (by kernel_rfl) HTd.out.1 ?_
        repeat (first
          | (refine Sch.tn_q rfl rfl rfl (fun K hK => ?_); go_big_quiet_op; (first | refine hK _ ?_ | refine ⟨_, fun _ _ => rfl, hK _ ?_⟩); clear hK K)
          | (refine Sch.tn_chk _ _ _ rfl rfl rfl rfl rfl ?_; simp only [Act.put, List.setIfInBounds_toArray, List.set_cons_zero, List.set_cons_succ])
          | (refine Sch.tn_load _ _ _ _ _ rfl rfl rfl rfl (by first | exact (fun w h => Nb.loadP h) | exact (fun w h => Nb.load h)) rfl ?_; simp only [Act.put, List.setIfInBounds_toArray, List.set_cons_zero, List.set_cons_succ]))
        generalize World.drew _ = wd at *
        refine Sch.tn_e rfl rfl (fun K hK => ?_)
        go_wp2_with fail
        refine (new_yes _).mono ?_
        rintro e w3 ⟨g, rfl, hgl, hmp, hb⟩
        have HT3 := Lib.hid (HTd.out.keep hb)
        have HB3 := Lib.hid (bel_tr HBd.out hb)
        have HG := Lib.hid hmp
        have HGl : Hid (w.heap.size ≤ g ∧ ∀ e, at? f e ≠ some g) := ⟨Nat.le_trans HBd.out.size hgl, fun e he => by
          have := HTd.out.2.kid e (HTd.out.2.fit _ _ he)
          rw [he] at this
          have := Mp.lt this
          omega⟩
        clear hb hmp hgl HTd HBd
        refine hK _ _ HT3.out.1 ?_
        clear hK K
        have HNx := Lib.hid (show n < maxLen by unfold maxLen; have := HKl.out; omega)
        obtain ⟨w4, hrun, hm, hg⟩ := HT3.out.2.map.put uTree HNx.out HFq.out (some g)
        have hrun2 : (Instr.mapUpdate 129 (.map (some w.heap.size)) (dv q.2.1) (.pointer (some ⟨g, 0, none⟩))).run Tryz.prog w3 = .ok () w4 := hrun
        refine Sch.tn_e rfl rfl (fun K hK => ?_)
        go_wp2_with fail
        have HG4 := Lib.hid (nb_gb HT3.out.1 hg (by omega))
        refine hK _ _ HG4.out ?_
        clear hK K
        refine Sch.tn_n ?_
        have HT : Hid (Tw w.heap.size wr.heap.size w.heap.size (n + 1) q (putF f q.2.1 (some g)) (l.take k) w4) := ⟨HG4.out, Fr0.put HT3.out.2 HFq.out hp HG.out HGl.out.1 HGl.out.2 hm hg⟩
        have HB : Below w.heap.size w w4 := below_gb HB3.out hg HB3.out.size (Nat.le_refl _)
        have hp2 : at? (putF f q.2.1 (some g)) q.2.1 = some g := by unfold at? putF; rw [if_pos rfl]; rfl
        clear hm hg HG4 HT3 HB3 HG HGl hp hrun hrun2
        go_wp2_with fail
        have HTd := Lib.hid (HT.out.keep (Below.refl _ _).drew)
        have HBd := Lib.hid (Below.drew HB)
        clear HT HB
        refine Sch.wp_region_tn (fun w => Nb w wr.heap.size q) (.val 0 (.val 1 (.val 2 (.val 4 (.val 5 (.one 3 (.one 6 .done))))))) (by kernel_rfl) (by kernel_rfl) HTd.out.1 ?_
        repeat (first
          | (refine Sch.tn_q rfl rfl rfl (fun K hK => ?_); go_big_quiet_op; (first | refine hK _ ?_ | refine ⟨_, fun _ _ => rfl, hK _ ?_⟩); clear hK K)
          | (refine Sch.tn_chk _ _ _ rfl rfl rfl rfl rfl ?_; simp only [Act.put, List.setIfInBounds_toArray, List.set_cons_zero, List.set_cons_succ])
          | (refine Sch.tn_load _ _ _ _ _ rfl rfl rfl rfl (by first | exact (fun w h => Nb.loadP h) | exact (fun w h => Nb.load h)) rfl ?_; simp only [Act.put, List.setIfInBounds_toArray, List.set_cons_zero, List.set_cons_succ]))
        generalize World.drew _ = wd at *
        have hlk2 := Dm.lookT HTd.out.2.map HFq.out
        rw [hp2] at hlk2
        refine Sch.tn_e rfl rfl (fun K hK => ?_)
        go_wp2_with fail
        refine hK _ _ HTd.out.1 ?_
        clear hK K
        have HMp : Hid (Mp wd g (childS (l.take k) q.2.1)) := by
          have := HTd.out.2.kid _ HFq.out
          rw [hp2] at this
          exact this
        have HSY := Lib.hid (set_yes g _ q wd (by have := HN.out q.2.1; rw [List.length_take] at this; have := HKl.out; omega) HMp.out (HC.out q.2.1))
        clear hlk2
        refine Sch.tn_e rfl rfl (fun K hK => ?_)
        go_wp2_with fail
        refine HSY.out.mono ?_
        rintro e w5 ⟨rfl, hmp, hg⟩
        have HG5 := Lib.hid (nb_gb HTd.out.1 hg (nb_ne HTd.out.1 HMp.out))
        refine hK _ _ HG5.out ?_
        clear hK K
        refine Sch.tn_n ?_
        have HF5 : Hid (Fr0 w.heap.size w5 w.heap.size (n + 1) (putF f q.2.1 (some g)) (l.take (k + 1))) := Fr0.set HTd.out.2 hp2 hg (by rw [HS.out]; unfold childF; rw [if_pos rfl]; exact hmp) (fun e he => by rw [HS.out]; unfold childF; rw [if_neg (fun e2 => he e2.symm)])
        have HB5 : Hid (Below w.heap.size w w5) := below_gb HBd.out hg HBd.out.size (HTd.out.2.low _ _ hp2)
        clear hmp hg HG5 HSY HMp HTd HBd
        go_wp2_with fail
        go_roundw
        case rel => exact ⟨k + 1, n + 1, (putF f q.2.1 (some g)), by omega, by go_num, by omega, HB5, HF5⟩
        case measure => simp [intOf]; omega
      · rw [hp] at hlk
        go_wp2_with fail
        have HTd := Lib.hid (HT.out.keep (Below.refl _ _).drew)
        have HBd := Lib.hid (Below.drew HB)
        clear HT HB
        refine Sch.wp_region_tn (fun w => Nb w wr.heap.size q) (.val 0 (.val 1 (.val 2 (.val 4 (.val 5 (.one 3 (.one 6 .done))))))) (by kernel_rfl) (by kernel_rfl) HTd.out.1 ?_
        repeat (first
          | (refine Sch.tn_q rfl rfl rfl (fun K hK => ?_); go_big_quiet_op; (first | refine hK _ ?_ | refine ⟨_, fun _ _ => rfl, hK _ ?_⟩); clear hK K)
          | (refine Sch.tn_chk _ _ _ rfl rfl rfl rfl rfl ?_; simp only [Act.put, List.setIfInBounds_toArray, List.set_cons_zero, List.set_cons_succ])
          | (refine Sch.tn_load _ _ _ _ _ rfl rfl rfl rfl (by first | exact (fun w h => Nb.loadP h) | exact (fun w h => Nb.load h)) rfl ?_; simp only [Act.put, List.setIfInBounds_toArray, List.set_cons_zero, List.set_cons_succ]))
        generalize World.drew _ = wd at *
        have hlk2 := Dm.lookT HTd.out.2.map HFq.out
        rw [hp] at hlk2
        refine Sch.tn_e rfl rfl (fun K hK => ?_)
        go_wp2_with fail
        refine hK _ _ HTd.out.1 ?_
        clear hK K
        have HMp : Hid (Mp wd g (childS (l.take k) q.2.1)) := by
          have := HTd.out.2.kid _ HFq.out
          rw [hp] at this
          exact this
        have HSY := Lib.hid (set_yes g _ q wd (by have := HN.out q.2.1; rw [List.length_take] at this; have := HKl.out; omega) HMp.out (HC.out q.2.1))
        clear hlk2
        refine Sch.tn_e rfl rfl (fun K hK => ?_)
        go_wp2_with fail
        refine HSY.out.mono ?_
        rintro e w5 ⟨rfl, hmp, hg⟩
        have HG5 := Lib.hid (nb_gb HTd.out.1 hg (nb_ne HTd.out.1 HMp.out))
        refine hK _ _ HG5.out ?_
        clear hK K
        refine Sch.tn_n ?_
        have HF5 : Hid (Fr0 w.heap.size w5 w.heap.size n f (l.take (k + 1))) := Fr0.set HTd.out.2 hp hg (by rw [HS.out]; unfold childF; rw [if_pos rfl]; exact hmp) (fun e he => by rw [HS.out]; unfold childF; rw [if_neg (fun e2 => he e2.symm)])
        have HB5 : Hid (Below w.heap.size w w5) := below_gb HBd.out hg HBd.out.size (HTd.out.2.low _ _ hp)
        clear hmp hg HG5 HSY HMp HTd HBd
        go_wp2_with fail
        go_roundw
        case rel => exact ⟨k + 1, n, f, by omega, by go_num, by omega, HB5, HF5⟩
        case measure => simp [intOf]; omega
    · obtain rfl : k = l.length := by omega
      have hend : ¬ (l.length : Int) < (l.length : Int) := by omega
      have HM2 : Hid (Fo wr w.heap.size l) := by
        have h1 := HM.out
        rw [List.take_length] at h1
        exact ⟨f, h1.map.mono (by have := HL.out; omega), h1.kid⟩
      go_wp2_with fail
      go_ret
      exact ⟨_, rfl, HM2.out, hh.out⟩
end Go.Proofs.YtkcbekebleodaaaGreat.Un
end

/-
  Rows of nodes: what a slice reads as, what a call has made itself, append, parts.
-/
section
namespace Go.Proofs.YtkcbekebleodaaaGreat.Un
set_option linter.unusedVariables false
open Go.RowKit V D Nd Qs Wk

/-- The cells of a node with its depth. -/
abbrev nca (n : At) : Array Value := #[.int .i64 (n.1 : Int), .int .i64 n.2.1.1, .int .i64 n.2.1.2, .int .i64 n.2.2.1.1, .int .i64 n.2.2.1.2, .int .i64 n.2.2.2.1, .int .i32 n.2.2.2.2]
/-- The seven cells of each node, one behind the other. -/
def cellsA : List At → List Value
  | [] => []
  | n :: t => .int .i64 (n.1 : Int) :: .int .i64 n.2.1.1 :: .int .i64 n.2.1.2 :: .int .i64 n.2.2.1.1 :: .int .i64 n.2.2.1.2 :: .int .i64 n.2.2.2.1 :: .int .i32 n.2.2.2.2 :: cellsA t
theorem cellsA_length : ∀ l : List At, (cellsA l).length = l.length * 7
  | [] => rfl
  | n :: t => by simp only [cellsA, List.length_cons, cellsA_length t]; omega
theorem cellsA_append : ∀ l m : List At, cellsA (l ++ m) = cellsA l ++ cellsA m
  | [], m => rfl
  | n :: t, m => by rw [List.cons_append, cellsA, cellsA, cellsA_append t m]; rfl
theorem cellsA_at : ∀ (l : List At) (i : Nat) (h : i < l.length) (j : Nat), j < 7 → (cellsA l)[i * 7 + j]? = (nca l[i])[j]?
  | n :: t, 0, h, j, hj => by
    match j, hj with
    | 0, _ => rfl
    | 1, _ => rfl
    | 2, _ => rfl
    | 3, _ => rfl
    | 4, _ => rfl
    | 5, _ => rfl
    | 6, _ => rfl
  | n :: t, i + 1, h, j, hj => by
    have := cellsA_at t i (by simpa using h) j hj
    rw [show (i + 1) * 7 + j = (i * 7 + j) + 7 by omega]
    exact this
theorem cellsA_one {l : List At} {u : Value} (h : u ∈ cellsA l) : u.oneCell' = true := by
  induction l with
  | nil => simp [cellsA] at h
  | cons n t ih =>
    simp only [cellsA, List.mem_cons] at h
    rcases h with rfl | rfl | rfl | rfl | rfl | rfl | rfl | h
    · rfl
    · rfl
    · rfl
    · rfl
    · rfl
    · rfl
    · rfl
    · exact ih h
theorem cellsA_take : ∀ (l : List At) (k : Nat), (cellsA l).take (k * 7) = cellsA (l.take k)
  | [], k => by simp [cellsA]
  | n :: t, 0 => by simp [cellsA]
  | n :: t, k + 1 => by
    rw [show (k + 1) * 7 = k * 7 + 1 + 1 + 1 + 1 + 1 + 1 + 1 by omega, cellsA]
    simp only [List.take_succ_cons]
    rw [cellsA_take t k]
    rfl

/-- The cells behind an address hold the nodes l. -/
def RowA (w : World) (a : Option Addr) (l : List At) : Prop :=
  l = [] ∨ ∃ b o, a = some ⟨b, o, none⟩ ∧ ∀ i (h : i < l.length) (j : Nat), j < 7 → w.cell? ⟨b, o + (i * 7 + j), none⟩ = (nca l[i])[j]?
/-- A node of the row, cell by cell. -/
theorem RowA.get {w : World} {a : Option Addr} {l : List At} (h : RowA w a l) (k : Nat) (hk : k < l.length) :
    ∃ b o, a = some ⟨b, o, none⟩ ∧ w.cell? ⟨b, o + k * 7, none⟩ = some (.int .i64 (l[k].1 : Int)) ∧ w.cell? ⟨b, o + k * 7 + 1, none⟩ = some (.int .i64 l[k].2.1.1) ∧ w.cell? ⟨b, o + k * 7 + 2, none⟩ = some (.int .i64 l[k].2.1.2) ∧ w.cell? ⟨b, o + k * 7 + 3, none⟩ = some (.int .i64 l[k].2.2.1.1) ∧
      w.cell? ⟨b, o + k * 7 + 4, none⟩ = some (.int .i64 l[k].2.2.1.2) ∧ w.cell? ⟨b, o + k * 7 + 5, none⟩ = some (.int .i64 l[k].2.2.2.1) ∧ w.cell? ⟨b, o + k * 7 + 6, none⟩ = some (.int .i32 l[k].2.2.2.2) := by
  rcases h with rfl | ⟨b, o, rfl, hc⟩
  · simp at hk
  · exact ⟨b, o, rfl, hc k hk 0 (by omega), hc k hk 1 (by omega), hc k hk 2 (by omega), hc k hk 3 (by omega), hc k hk 4 (by omega), hc k hk 5 (by omega), hc k hk 6 (by omega)⟩
theorem rowA_news {w : World} {b o : Nat} {m : List At} (h : RowA w (some ⟨b, o, none⟩) m) : ∀ j u, (cellsA m)[j]? = some u → w.cell? ((⟨b, o, none⟩ : Addr).add j) = some u := by
  intro j u hj
  have hjl : j < m.length * 7 := by
    have := (List.getElem?_eq_some_iff.1 hj).1
    rwa [cellsA_length] at this
  have hm : m ≠ [] := by rintro rfl; simp at hjl
  obtain ⟨b', o', e, hc⟩ := h.resolve_left hm
  cases e
  have e2 : (⟨b, o, none⟩ : Addr).add j = ⟨b, o + j, none⟩ := by unfold Addr.add; split <;> simp_all
  rw [e2]
  have hi : j / 7 < m.length := by omega
  have h1 := hc (j / 7) hi (j % 7) (by omega)
  have k1 := cellsA_at m (j / 7) hi (j % 7) (by omega)
  have ej : j / 7 * 7 + j % 7 = j := by omega
  rw [ej] at h1 k1
  rw [h1, ← k1, hj]

/-! ### Rows that a call has made itself -/
def OA (w : World) (base : Nat) (E : TypeId) (v : Value) (l : List At) : Prop := w.ownsRow base E 7 v l.length (cellsA l)
section
variable {w w' : World} {base : Nat} {E : TypeId} {v : Value} {l : List At}
theorem OA.nil (w : World) (base : Nat) (E : TypeId) : OA w base E (.slice none 0 0) [] := World.ownsRow_nil w base _ 7
theorem OA.row (h : OA w base E v l) : ∃ a c, v = .slice a l.length c ∧ RowA w a l ∧ (a = none → c = 0 ∧ l = []) ∧ l.length ≤ c ∧ (∀ x, a = some x → x = ⟨x.block, 0, none⟩ ∧ v.ownBlock = some x.block ∧ base ≤ x.block ∧ x.block < w.heap.size) := by
  rcases h.2 with ⟨rfl, h0⟩ | ⟨g, cap, cur, rfl, hb, hg, hn, hc, hs, ht⟩
  · have : l = [] := List.eq_nil_of_length_eq_zero h0
    subst this
    exact ⟨none, 0, rfl, .inl rfl, fun _ => ⟨rfl, rfl⟩, Nat.le_refl _, fun x hx => by cases hx⟩
  · refine ⟨some ⟨g, 0, none⟩, cap, rfl, ?_, (fun h => by cases h), hn, fun x hx => ?_⟩
    · by_cases hl : l = []
      · exact .inl hl
      · refine .inr ⟨g, 0, rfl, fun i hi j hj => ?_⟩
        have c1 := World.ownsRow.cellAt h (i * 7 + j) (by omega)
        rw [Nat.zero_add, c1]
        exact cellsA_at l i hi j hj
    · cases hx
      exact ⟨rfl, rfl, hb, (Array.getElem?_eq_some_iff.1 hg).1⟩
theorem OA.keep {row : Option Nat} (h : OA w base E v l) (hg : w.grownBy w' row) (hne : v.ownBlock = none ∨ v.ownBlock ≠ row) : OA w' base E v l := World.ownsRow.kept h hg hne
theorem OA.below (h : OA w base E v l) (hb : Below w.heap.size w w') : OA w' base E v l := h.keep (gb_below hb none) (by rcases v.ownBlock with _ | x <;> simp)
theorem OA.lt (h : OA w base E v l) : ∀ x, v.ownBlock = some x → base ≤ x ∧ x < w.heap.size := World.ownsRow.lt h
theorem OA.r {a : Option Addr} {n c : Nat} (h : OA w base E (.slice a n c) l) : RowA w a l ∧ n = l.length ∧ n ≤ c ∧ (a = none → c = 0) := by
  obtain ⟨a', c', e, hr, hn, hc, -⟩ := h.row
  simp only [Value.slice.injEq] at e
  obtain ⟨rfl, rfl, rfl⟩ := e
  exact ⟨hr, rfl, hc, fun h => (hn h).1⟩
/-- The object of a row of the call's own. -/
theorem OA.obj (h : OA w base E v l) : ∀ x, v.ownBlock = some x → ∃ vs, w.heap[x]? = some (.cells vs E (0, 0)) := by
  rcases h.2 with ⟨rfl, h0⟩ | ⟨g, cap, cur, rfl, hb, hg, hn, hc, hs, ht⟩
  · intro x hx; cases hx
  · intro x hx
    cases hx
    exact ⟨_, hg⟩
end

abbrev zeroAv : Value := .agg #[.int .i64 0, .int .i64 0, .int .i64 0, .int .i64 0, .int .i64 0, .int .i64 0, .int .i32 0]
/-- append of nodes to a row of the call's own; from nil, or from any address. -/
theorem run_appA {P : Program} {w : World} {base : Nat} {T E : TypeId} (hT : P.underlying T = some (.slice E)) (hinfo : (P.info? E).map (fun i => (i.zero, i.size, i.bytes)) = some (some zeroAv, 7, 56))
    {v : Value} {l : List At} (h : OA w base E v l) (ty : TypeId) (a : Option Addr) (m : List At) (c : Nat) (hrow : RowA w a m) (hnil : a = none → c = 0)
    (hlen : l.length + m.length ≤ 1000000000000) (hbase : base ≤ w.heap.size) :
    ∃ v' w', (Builtin.append_ #[T, T] ty #[v, .slice a m.length c]).run P w = .ok v' w' ∧ OA w' base E v' (l ++ m) ∧ w.grownBy w' v.ownBlock ∧ G.Grew w v v' := by
  obtain ⟨i, hi, hz0, hz1, hz2⟩ := G.info_of hinfo
  rcases a with _ | ad
  · have hm : m = [] := by
      rcases hrow with hm | ⟨_, _, e, _⟩
      · exact hm
      · cases e
    subst hm
    obtain rfl := hnil rfl
    exact ⟨v, w, run_append_owned_none w base _ ty _ i 7 hT hi v _ _ h, by simpa using h, gb_refl _ _, .inl rfl⟩
  · have hrow' : ∀ j u, (cellsA m)[j]? = some u → w.cell? (ad.add j) = some u := by
      rcases hrow with rfl | ⟨b, o, e, hc⟩
      · intro j u hj; simp [cellsA] at hj
      · cases e
        exact rowA_news (.inr ⟨b, o, rfl, hc⟩)
    obtain ⟨v', w', hr, ho, hg, _, hgr⟩ := run_append_own_at (P := P) w base T ty E i _ 7 56 hT hi hz0 hz1 hz2 rfl (by omega) v _ _ h ad m.length c (cellsA m) (cellsA_length m) hrow'
      (fun u hu => cellsA_one hu) (by unfold maxLen; omega) (by omega) hbase
    refine ⟨v', w', hr, ?_, hg, hgr⟩
    unfold OA
    rw [List.length_append, cellsA_append]
    exact ho
/-- Some new nodes that are written out. -/
theorem RowA.lit (w : World) (l : List At) (C : Array Value) (t : TypeId) (fr : Nat × Nat) (hC : C.toList = cellsA l) : RowA (w.alloc (.cells C t fr)) (some ⟨w.heap.size, 0, none⟩) l := by
  by_cases hl : l = []
  · exact .inl hl
  have hh : (w.alloc (.cells C t fr)).heap[w.heap.size]? = some (.cells C t fr) := by show (w.heap.push _)[w.heap.size]? = _; simp
  have hcell : ∀ j, (w.alloc (.cells C t fr)).cell? ⟨w.heap.size, j, none⟩ = C[j]? := fun j => by
    simp only [World.cell?, hh]
    rw [if_neg (by simp)]
  refine .inr ⟨_, _, rfl, fun i hi j hj => ?_⟩
  rw [Nat.zero_add, hcell, ← Array.getElem?_toList, hC]
  exact cellsA_at l i hi j hj
/-- A row of the call's own, cut short. -/
theorem ownsRow_take {w : World} {base : Nat} {e : TypeId} {size n k cap : Nat} {g : Nat} {xs : List Value} (h : w.ownsRow base e size (.slice (some ⟨g, 0, none⟩) n cap) n xs) (hk : k ≤ n) : w.ownsRow base e size (.slice (some ⟨g, 0, none⟩) k cap) k (xs.take (k * size)) := by
  have hm : k * size ≤ n * size := Nat.mul_le_mul_right _ hk
  refine ⟨by rw [List.length_take, h.1]; omega, ?_⟩
  rcases h.2 with ⟨h1, -⟩ | ⟨g', cap', cur, h1, h2, h3, h4, h5, h6, h7⟩
  · cases h1
  · simp only [Value.slice.injEq, Option.some.injEq, Addr.mk.injEq, and_true, true_and] at h1
    obtain ⟨rfl, rfl⟩ := h1
    refine .inr ⟨g, cap, cur, rfl, h2, h3, by omega, h5, h6, ?_⟩
    rw [← h7, List.take_take, Nat.min_eq_left hm]
theorem OA.take {w : World} {base : Nat} {E : TypeId} {g n cap : Nat} {l : List At} (h : OA w base E (.slice (some ⟨g, 0, none⟩) n cap) l) (k : Nat) (hk : k ≤ l.length) : OA w base E (.slice (some ⟨g, 0, none⟩) k cap) (l.take k) := by
  obtain rfl := h.r.2.1
  unfold OA
  rw [List.length_take, Nat.min_eq_left hk, ← cellsA_take]
  exact ownsRow_take h hk
end Go.Proofs.YtkcbekebleodaaaGreat.Un
end
