/-
  IsSet: the reference's and the program's.
-/
import Derived.Test.YtfmlenhakejefaaMDCmp
import Derived.Shelf.SlSortCmp.QuietGrown

section
namespace Go.Proofs.Ytfmlenhakejefaa.D
set_option linter.unusedVariables false
open Go.RowKit V Go.Sort

theorem mixed : Try.prog.follows .mixedOrders = true := by kernel_rfl
theorem ix_dot (b o n c k : Nat) (z : Int) (hz : z = (k : Int)) (hk : k < n) : ∀ w, (Instr.indexAt 40 (.slice (some ⟨b, o, none⟩) n c) (.int .i64 z)).run Try.prog w = .ok (.pointer (some ⟨b, o + k * 2, none⟩)) w := by
  intro w
  subst hz
  have hk2 : (k : Int) < (n : Int) := by omega
  go_simp
theorem wrap_nat {k : Nat} (h : (k : Int) ≤ 140737488355328) : IntKind.i64.wrap (k : Int) = k := by simp [IntKind.wrap, IntKind.bits, IntKind.signed]; omega
/-- A cell, in every world that lays and draws. -/
theorem cellG {w : World} {a : Addr} {v : Value} (h : w.cell? a = some v) : ∀ n os, (grow (w.drewN n) os).cell? a = some v := fun n os => cell_grown (lt_of_cell h) h n os
theorem cmpG (x y : Dt) (W : World) (n : Nat) (os : Array Obj) : Calls Try.prog 65 #[dv x, dv y] (grow (W.drewN n) os) fun e w'' => e = .returned (.int .i64 (cmpR x y)) ∧ ∃ p : GrownBy, w'' = grow (W.drewN p.n) p.os :=
  Calls.grown_of (compare_any x y _)
theorem bel_grown {B : Nat} {w w' : World} (h : Below B w w') (hB : B ≤ w'.heap.size) (n : Nat) (os : Array Obj) : Below B w (grow (w'.drewN n) os) := bel_grow (bel_drewN h n) hB os

theorem cmp_neg_lt {p q : Dt} (h : less p q = true) : ¬ (0 : Int) ≤ cmpR p q := by have := cmp_neg.2 h; omega
theorem cmp_neg_ge {p q : Dt} (h : less p q = false) : (0 : Int) ≤ cmpR p q := by
  rcases Int.lt_or_le (cmpR p q) 0 with k | k
  · rw [cmp_neg, h] at k; cases k
  · exact k
set_option maxRecDepth 100000 in
set_option maxHeartbeats 1000000 in
theorem isSet_any (l : List Dt) (a : Option Addr) (c : Nat) (w : World) (hx : RowD w a l) (hlx : l.length ≤ 140737488355328) :
    Calls Try.prog 56 #[.slice a l.length c] w fun e w' => e = .returned (.bool (isSetR l)) ∧ Below w.heap.size w w' := by
  have HX := Lib.hid hx
  have hli : (l.length : Int) ≤ 140737488355328 := by omega
  clear hx hlx
  go_enter Try.func56, Try.ntmps56
  go_wp2_with fail
  go_loopw [6] (fun i wr => ∃ k : Nat, k ≤ l.length ∧ i = .int .i64 (k : Int) ∧ Hid (Below w.heap.size w wr) ∧ Hid (∀ j (hj : j + 1 < l.length), j + 1 < k → less l[j] l[j + 1] = true)) (fun i _ => l.length - (intOf i).toNat)
  case atStart => exact ⟨0, Nat.zero_le _, rfl, Below.refl _ _, fun j _ h => by omega⟩
  case round =>
    obtain ⟨k, hk, rfl, hh, HV⟩ := hrel
    by_cases hlt : k < l.length
    · have mixed := mixed
      rcases k with _ | k
      · have hi0 : (0 : Int) < (l.length : Int) := by omega
        have hg : decide ((0 : Int) < 0) = false := rfl
        go_wp2_with fail
        refine wp_region_quiet_grown mixed (by kernel_rfl) ?_
        repeat (first | go_big_quiet_skip | (go_big_quiet_want; go_big_quiet_op; first | go_big_quiet_on | go_big_quiet_call (fail)))
        refine wpQuiet_nil ?_
        intro _ hw'
        obtain ⟨⟨nq, osq⟩, hw''⟩ := hw'
        subst hw''
        go_wp2_with fail
        go_roundw
        case rel => exact ⟨1, by omega, by go_num, bel_grown hh.out hh.out.size _ _, fun j hj hjk => by omega⟩
        case measure => simp [intOf]; omega
      · have hlt0 : k < l.length := by omega
        have hi1 : (k : Int) < (l.length : Int) := by omega
        have hi2 : (k : Int) + 1 < (l.length : Int) := by omega
        have hi3 : (0 : Int) < (k : Int) + 1 := by omega
        have hg : decide ((0 : Int) < (k : Int) + 1) = true := by rw [decide_eq_true_eq]; exact hi3
        obtain ⟨b1, o1, rfl, p0, p1⟩ := HX.out.get hh.out k hlt0
        obtain ⟨b2, o2, e2, q0, q1⟩ := HX.out.get hh.out (k + 1) hlt
        cases e2
        obtain ⟨p, hp⟩ : ∃ p, p = l[k] := ⟨_, rfl⟩
        obtain ⟨q, hq⟩ : ∃ q, q = l[k + 1] := ⟨_, rfl⟩
        rw [← hp] at p0 p1
        rw [← hq] at q0 q1
        have HP := Lib.hid hp
        have HQ := Lib.hid hq
        clear hp hq
        replace p0 := cellG p0
        replace p1 := cellG p1
        replace q0 := cellG q0
        replace q1 := cellG q1
        have HL := Lib.hid (cmpG p q wr)
        have hwr := wrap_nat (show (k : Int) ≤ 140737488355328 by omega)
        have hix := ix_dot b1 o1 l.length c (k + 1) ((k : Int) + 1) (by omega) hlt
        rcases hb : less p q with _ | _
        · have hc := cmp_neg_ge hb
          have HN : Hid (isSetR l = false) := isSet_not k hlt (by rw [← HP.out, ← HQ.out]; exact hb)
          clear hb
          generalize cmpR p q = z at *
          go_wp2_with fail
          refine wp_region_quiet_grown mixed (by kernel_rfl) ?_
          repeat (first | go_big_quiet_skip | (go_big_quiet_want; go_big_quiet_op; first | go_big_quiet_on | go_big_quiet_call ((go_at_call 65; exact HL.out _ _))))
          refine wpQuiet_nil ?_
          intro _ hw'
          obtain ⟨⟨nq, osq⟩, hw''⟩ := hw'
          subst hw''
          go_wp2_with fail
          go_ret
          exact ⟨by rw [HN.out]; rfl, bel_grown hh.out hh.out.size _ _⟩
        · have hc := cmp_neg_lt hb
          have HBB := Lib.hid hb
          clear hb
          have hc2 : decide ((0 : Int) ≤ cmpR p q) = false := by simpa using hc
          generalize cmpR p q = z at *
          go_wp2_with fail
          refine wp_region_quiet_grown mixed (by kernel_rfl) ?_
          repeat (first | go_big_quiet_skip | (go_big_quiet_want; go_big_quiet_op; first | go_big_quiet_on | go_big_quiet_call ((go_at_call 65; exact HL.out _ _))))
          refine wpQuiet_nil ?_
          intro _ hw'
          obtain ⟨⟨nq, osq⟩, hw''⟩ := hw'
          subst hw''
          go_wp2_with fail
          go_roundw
          case rel =>
            refine ⟨k + 2, by omega, by go_num, bel_grown hh.out hh.out.size _ _, fun j hj hjk => ?_⟩
            by_cases hjk2 : j = k
            · subst hjk2; rw [← HP.out, ← HQ.out]; exact HBB.out
            · exact HV.out j hj (by omega)
          case measure => simp [intOf]; omega
    · have HN : Hid (isSetR l = true) := isSet_at l fun j hj => HV.out j hj (by omega)
      have hend : ¬ (k : Int) < (l.length : Int) := by omega
      go_wp2_with fail
      go_ret
      exact ⟨by rw [HN.out]; rfl, hh.out⟩
end Go.Proofs.Ytfmlenhakejefaa.D
end

/-
  Parts of rows of dots; append and new rows in a region that draws.
-/
section
namespace Go.Proofs.Ytfmlenhakejefaa.D
set_option linter.unusedVariables false
open Go.RowKit V Go.Sort

abbrev E : TypeId := 36
theorem cut_lo (a : Option Addr) (len cap n : Nat) (hn : n ≤ cap) : ∀ wx : World,
    (Instr.slice 40 (.slice a len cap) none (some (.int .i64 (n : Int))) none).run Try.prog wx = .ok (.slice a n cap) wx := by
  obtain ⟨i, hi, hz0, hz1, hz2⟩ := G.info_of infoD
  intro wx
  have h1 : (Instr.sliceBound (.int .i64 (n : Int)) cap .sliceAcap).run Try.prog wx = .ok n wx := by
    rw [run_sliceBound _ _ _ _ _ (by omega) (by omega)]; rfl
  have h0 : (⟨0, 0, none⟩ : Addr).add 0 = ⟨0, 0, none⟩ := rfl
  by_cases hc : cap = 0
  · rw [hc] at h1
    simp [Instr.slice, run_underlying Try.underlying40, Instr.sliceBounds, h1, Result.andThen, sizeOf, typeInfo, hi, hc]
  · have : a.map (fun x => x.add 0) = a := by
      rcases a with _ | ⟨b, o, s⟩
      · rfl
      · simp [Addr.add]
    simp [Instr.slice, run_underlying Try.underlying40, Instr.sliceBounds, h1, Result.andThen, sizeOf, typeInfo, hi, hc, this]
def off (a : Option Addr) (cap m : Nat) : Option Addr := if cap = m then a else a.map (·.add (m * 2))
theorem cut_hi (a : Option Addr) (len cap m k : Nat) (hk : len = m + k) (hlc : len ≤ cap) : ∀ wx : World,
    (Instr.slice 40 (.slice a len cap) (some (.int .i64 (m : Int))) none none).run Try.prog wx = .ok (.slice (off a cap m) k (cap - m)) wx := by
  obtain ⟨i, hi, hz0, hz1, hz2⟩ := G.info_of infoD
  intro wx
  have h2 : (Instr.sliceBound (.int .i64 (m : Int)) len .sliceB).run Try.prog wx = .ok m wx := by
    rw [run_sliceBound _ _ _ _ _ (by omega) (by omega)]; rfl
  have e : len - m = k := by omega
  simp [Instr.slice, run_underlying Try.underlying40, Instr.sliceBounds, h2, Result.andThen, sizeOf, typeInfo, hi, hz1, e, off]
theorem off_row {w : World} {a : Option Addr} {l : List Dt} (h : RowD w a l) (cap m : Nat) (hlc : l.length ≤ cap) (hm : m ≤ l.length) : RowD w (off a cap m) (l.drop m) := by
  unfold off
  split
  · left
    rw [List.drop_eq_nil_iff]; omega
  · rcases h with rfl | ⟨b, o, rfl, hc⟩
    · exact .inl (by simp)
    · have e : (⟨b, o, none⟩ : Addr).add (m * 2) = ⟨b, o + m * 2, none⟩ := by unfold Addr.add; split <;> simp_all
      rw [Option.map_some, e]
      exact RowD.drop (w := w) (b := b) (o := o) (l := l) (.inr ⟨b, o, rfl, hc⟩) m hm
theorem off_none {a : Option Addr} {cap m : Nat} (h : off a cap m = none) : a = none := by
  unfold off at h
  split at h
  · exact h
  · simpa using h

section
variable {P : Program} {Q : Exit → Act → World → Prop} {S : World → Prop} {l : List Oper} {i : Nat} {op : Oper} {r : Sch.Tr} {a : Act} {w : World}
theorem tree_appD (s y : Operand) (T : TypeId) (ho : Sch.nth l i = some op) (hop : op.op = .call { callee := .builtin .append, args := #[s, y], argTypes := #[T, T] }) (hw : Region.wanted op (yielded l.toArray a.tmps) = true)
    {base : Nat} {E : TypeId} (hT : P.underlying T = some (.slice E)) (hinfo : (P.info? E).map (fun i => (i.zero, i.size, i.bytes)) = some (some (.agg #[.int .i64 0, .int .i64 0]), 2, 16))
    (v : Value) (xs : List Dt) (hs : a.eval s = v) (h : OD w base E v xs) (ad : Option Addr) (m : List Dt) (c : Nat) (hx : a.eval y = .slice ad m.length c) (hrow : RowD w ad m) (hnil : ad = none → c = 0)
    (hlen : xs.length + m.length ≤ 8796093022208) (hbase : base ≤ w.heap.size)
    (hk : ∀ v' w', OD w' base E v' (xs ++ m) → w.grownBy w' v.ownBlock → G.Grew w v v' → S w' ∧ Sch.heldT P l.toArray Q S r (a.put op.dst v') w') : Sch.heldT P l.toArray Q S (.one i r) a w := by
  obtain ⟨v', w', hr, h2, h3, h4⟩ := run_appD hT hinfo h op.type ad m c hrow hnil hlen hbase
  obtain ⟨h5, h6⟩ := hk v' w' h2 h3 h4
  refine Sch.tree_e ho hw fun K hK => ?_
  unfold Oper.wp execOp
  simp only [hop, resolve, invoke, builtin, Sem.run_bind, Sem.run_pure, Result.andThen_ok, List.map_toArray, List.map_cons, List.map_nil, hs, hx, hr]
  exact hK _ _ h5 h6
end
/-- The row of one dot that is written out. -/
theorem lit_one (w : World) (d : Dt) (t : TypeId) : RowD (w.alloc (.cells #[.int .i64 d.1, .int .i64 d.2] t)) (some ⟨w.heap.size, 0, none⟩) [d] := RowD.lit w [d] _ t (0, 0) rfl
end Go.Proofs.Ytfmlenhakejefaa.D
end
