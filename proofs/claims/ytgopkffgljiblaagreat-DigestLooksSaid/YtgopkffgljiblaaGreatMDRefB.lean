/-
  IsSet: the reference's and the program's.
-/
import Derived.Test.YtgopkffgljiblaaGreatMDCmp
import Derived.Shelf.SlSortCmp.QuietGrown

section
namespace Go.Proofs.YtgopkffgljiblaaGreat.D
set_option linter.unusedVariables false
open Go.RowKit V Go.Sort

theorem mixed : Tryz.prog.follows .mixedOrders = true := by kernel_rfl
theorem ix_dot (b o n c k : Nat) (z : Int) (hz : z = (k : Int)) (hk : k < n) : ∀ w, (Instr.indexAt 22 (.slice (some ⟨b, o, none⟩) n c) (.int .i64 z)).run Tryz.prog w = .ok (.pointer (some ⟨b, o + k * 2, none⟩)) w := by
  intro w
  subst hz
  have hk2 : (k : Int) < (n : Int) := by omega
  go_simp
theorem wrap_nat {k : Nat} (h : (k : Int) ≤ 140737488355328) : IntKind.i64.wrap (k : Int) = k := by simp [IntKind.wrap, IntKind.bits, IntKind.signed]; omega
/-- A cell, in every world that lays and draws. -/
theorem cellG {w : World} {a : Addr} {v : Value} (h : w.cell? a = some v) : ∀ n os, (grow (w.drewN n) os).cell? a = some v := fun n os => cell_grown (lt_of_cell h) h n os
theorem cmpG (x y : Dt) (W : World) (n : Nat) (os : Array Obj) : Calls Tryz.prog 72 #[dv x, dv y] (grow (W.drewN n) os) fun e w'' => e = .returned (.int .i64 (cmpR x y)) ∧ ∃ p : GrownBy, w'' = grow (W.drewN p.n) p.os :=
  Calls.grown_of (compare_any x y _)
theorem bel_grown {B : Nat} {w w' : World} (h : Below B w w') (hB : B ≤ w'.heap.size) (n : Nat) (os : Array Obj) : Below B w (grow (w'.drewN n) os) := bel_grow (bel_drewN h n) hB os

theorem cmp_neg_lt {p q : Dt} (h : less p q = true) : ¬ (0 : Int) ≤ cmpR p q := by have := cmp_neg.2 h; omega
theorem cmp_neg_ge {p q : Dt} (h : less p q = false) : (0 : Int) ≤ cmpR p q := by
  rcases Int.lt_or_le (cmpR p q) 0 with k | k
  · rw [cmp_neg, h] at k; cases k
  · exact k
set_option maxRecDepth 100000 in
set_option maxHeartbeats 1000000 in
theorem isSet_any (l : List Dt) (a : Option Addr) (c : Nat) (w : World) (hx : RowD w a l) (hlx : l.length ≤ 140737488355328) :
    Calls Tryz.prog 63 #[.slice a l.length c] w fun e w' => e = .returned (.bool (isSetR l)) ∧ Below w.heap.size w w' := by
  have HX := Lib.hid hx
  have hli : (l.length : Int) ≤ 140737488355328 := by omega
  clear hx hlx
  go_enter Tryz.func63, Tryz.ntmps63
  go_wp2_with fail
  go_loopw [6] (fun i wr => ∃ k : Nat, k ≤ l.length ∧ i = .int .i64 (k : Int) ∧ Hid (Below w.heap.size w wr) ∧ Hid (∀ j (hj : j + 1 < l.length), j + 1 < k → less l[j] l[j + 1] = true)) (fun i _ => l.length - (intOf i).toNat)
  case atStart => exact ⟨0, Nat.zero_le _, rfl, Below.refl _ _, fun j _ h => by omega⟩
  case round =>
    obtain ⟨k, hk, rfl, hh, HV⟩ := hrel
    by_cases hlt : k < l.length
    · have mixed := mixed
      rcases k with _ | k
      · have hi0 : (0 : Int) < (l.length : Int) := by omega
        have hg : decide ((0 : Int) < 0) = false := rfl
        go_wp2_with fail
        refine wp_region_quiet_grown mixed (by kernel_rfl) ?_
        repeat (first | go_big_quiet_skip | (go_big_quiet_want; go_big_quiet_op; first | go_big_quiet_on | go_big_quiet_call (fail)))
        refine wpQuiet_nil ?_
        intro _ hw'
        obtain ⟨⟨nq, osq⟩, hw''⟩ := hw'
        subst hw''
        go_wp2_with fail
        go_roundw
        case rel => exact ⟨1, by omega, by go_num, bel_grown hh.out hh.out.size _ _, fun j hj hjk => by omega⟩
        case measure => simp [intOf]; omega
      · have hlt0 : k < l.length := by omega
        have hi1 : (k : Int) < (l.length : Int) := by omega
        have hi2 : (k : Int) + 1 < (l.length : Int) := by omega
        have hi3 : (0 : Int) < (k : Int) + 1 := by omega
        have hg : decide ((0 : Int) < (k : Int) + 1) = true := by rw [decide_eq_true_eq]; exact hi3
        obtain ⟨b1, o1, rfl, p0, p1⟩ := HX.out.get hh.out k hlt0
        obtain ⟨b2, o2, e2, q0, q1⟩ := HX.out.get hh.out (k + 1) hlt
        cases e2
        obtain ⟨p, hp⟩ : ∃ p, p = l[k] := ⟨_, rfl⟩
        obtain ⟨q, hq⟩ : ∃ q, q = l[k + 1] := ⟨_, rfl⟩
        rw [← hp] at p0 p1
        rw [← hq] at q0 q1
        have HP := Lib.hid hp
        have HQ := Lib.hid hq
        clear hp hq
        replace p0 := cellG p0
        replace p1 := cellG p1
        replace q0 := cellG q0
        replace q1 := cellG q1
        have HL := Lib.hid (cmpG p q wr)
        have hwr := wrap_nat (show (k : Int) ≤ 140737488355328 by omega)
        have hix := ix_dot b1 o1 l.length c (k + 1) ((k : Int) + 1) (by omega) hlt
        rcases hb : less p q with _ | _
        · have hc := cmp_neg_ge hb
          have HN : Hid (isSetR l = false) := isSet_not k hlt (by rw [← HP.out, ← HQ.out]; exact hb)
          clear hb
          generalize cmpR p q = z at *
          go_wp2_with fail
          refine wp_region_quiet_grown mixed (by kernel_rfl) ?_
          repeat (first | go_big_quiet_skip | (go_big_quiet_want; go_big_quiet_op; first | go_big_quiet_on | go_big_quiet_call ((go_at_call 72; exact HL.out _ _))))
          refine wpQuiet_nil ?_
          intro _ hw'
          obtain ⟨⟨nq, osq⟩, hw''⟩ := hw'
          subst hw''
          go_wp2_with fail
          go_ret
          exact ⟨by rw [HN.out]; rfl, bel_grown hh.out hh.out.size _ _⟩
        · have hc := cmp_neg_lt hb
          have HBB := Lib.hid hb
          clear hb
          have hc2 : decide ((0 : Int) ≤ cmpR p q) = false := by simpa using hc
          generalize cmpR p q = z at *
          go_wp2_with fail
          refine wp_region_quiet_grown mixed (by kernel_rfl) ?_
          repeat (first | go_big_quiet_skip | (go_big_quiet_want; go_big_quiet_op; first | go_big_quiet_on | go_big_quiet_call ((go_at_call 72; exact HL.out _ _))))
          refine wpQuiet_nil ?_
          intro _ hw'
          obtain ⟨⟨nq, osq⟩, hw''⟩ := hw'
          subst hw''
          go_wp2_with fail
          go_roundw
          case rel =>
            refine ⟨k + 2, by omega, by go_num, bel_grown hh.out hh.out.size _ _, fun j hj hjk => ?_⟩
            by_cases hjk2 : j = k
            · subst hjk2; rw [← HP.out, ← HQ.out]; exact HBB.out
            · exact HV.out j hj (by omega)
          case measure => simp [intOf]; omega
    · have HN : Hid (isSetR l = true) := isSet_at l fun j hj => HV.out j hj (by omega)
      have hend : ¬ (k : Int) < (l.length : Int) := by omega
      go_wp2_with fail
      go_ret
      exact ⟨by rw [HN.out]; rfl, hh.out⟩
end Go.Proofs.YtgopkffgljiblaaGreat.D
end

/-
  Parts of rows of dots; append and new rows in a region that draws.
-/
section
namespace Go.Proofs.YtgopkffgljiblaaGreat.D
set_option linter.unusedVariables false
open Go.RowKit V Go.Sort

abbrev E : TypeId := 48
theorem cut_lo (a : Option Addr) (len cap n : Nat) (hn : n ≤ cap) : ∀ wx : World,
    (Instr.slice 22 (.slice a len cap) none (some (.int .i64 (n : Int))) none).run Tryz.prog wx = .ok (.slice a n cap) wx := by
  obtain ⟨i, hi, hz0, hz1, hz2⟩ := G.info_of infoD
  intro wx
  have h1 : (Instr.sliceBound (.int .i64 (n : Int)) cap .sliceAcap).run Tryz.prog wx = .ok n wx := by
    rw [run_sliceBound _ _ _ _ _ (by omega) (by omega)]; rfl
  have h0 : (⟨0, 0, none⟩ : Addr).add 0 = ⟨0, 0, none⟩ := rfl
  by_cases hc : cap = 0
  · rw [hc] at h1
    simp [Instr.slice, run_underlying Tryz.underlying22, Instr.sliceBounds, h1, Result.andThen, sizeOf, typeInfo, hi, hc]
  · have : a.map (fun x => x.add 0) = a := by
      rcases a with _ | ⟨b, o, s⟩
      · rfl
      · simp [Addr.add]
    simp [Instr.slice, run_underlying Tryz.underlying22, Instr.sliceBounds, h1, Result.andThen, sizeOf, typeInfo, hi, hc, this]
def off (a : Option Addr) (cap m : Nat) : Option Addr := if cap = m then a else a.map (·.add (m * 2))
theorem cut_hi (a : Option Addr) (len cap m k : Nat) (hk : len = m + k) (hlc : len ≤ cap) : ∀ wx : World,
    (Instr.slice 22 (.slice a len cap) (some (.int .i64 (m : Int))) none none).run Tryz.prog wx = .ok (.slice (off a cap m) k (cap - m)) wx := by
  obtain ⟨i, hi, hz0, hz1, hz2⟩ := G.info_of infoD
  intro wx
  have h2 : (Instr.sliceBound (.int .i64 (m : Int)) len .sliceB).run Tryz.prog wx = .ok m wx := by
    rw [run_sliceBound _ _ _ _ _ (by omega) (by omega)]; rfl
  have e : len - m = k := by omega
  simp [Instr.slice, run_underlying Tryz.underlying22, Instr.sliceBounds, h2, Result.andThen, sizeOf, typeInfo, hi, hz1, e, off]
theorem off_row {w : World} {a : Option Addr} {l : List Dt} (h : RowD w a l) (cap m : Nat) (hlc : l.length ≤ cap) (hm : m ≤ l.length) : RowD w (off a cap m) (l.drop m) := by
  unfold off
  split
  · left
    rw [List.drop_eq_nil_iff]; omega
  · rcases h with rfl | ⟨b, o, rfl, hc⟩
    · exact .inl (by simp)
    · have e : (⟨b, o, none⟩ : Addr).add (m * 2) = ⟨b, o + m * 2, none⟩ := by unfold Addr.add; split <;> simp_all
      rw [Option.map_some, e]
      exact RowD.drop (w := w) (b := b) (o := o) (l := l) (.inr ⟨b, o, rfl, hc⟩) m hm
theorem off_none {a : Option Addr} {cap m : Nat} (h : off a cap m = none) : a = none := by
  unfold off at h
  split at h
  · exact h
  · simpa using h

section
variable {P : Program} {Q : Exit → Act → World → Prop} {S : World → Prop} {l : List Oper} {i : Nat} {op : Oper} {r : Sch.Tr} {a : Act} {w : World}
theorem tree_appD (s y : Operand) (T : TypeId) (ho : Sch.nth l i = some op) (hop : op.op = .call { callee := .builtin .append, args := #[s, y], argTypes := #[T, T] }) (hw : Region.wanted op (yielded l.toArray a.tmps) = true)
    {base : Nat} {E : TypeId} (hT : P.underlying T = some (.slice E)) (hinfo : (P.info? E).map (fun i => (i.zero, i.size, i.bytes)) = some (some (.agg #[.int .i64 0, .int .i64 0]), 2, 16))
    (v : Value) (xs : List Dt) (hs : a.eval s = v) (h : OD w base E v xs) (ad : Option Addr) (m : List Dt) (c : Nat) (hx : a.eval y = .slice ad m.length c) (hrow : RowD w ad m) (hnil : ad = none → c = 0)
    (hlen : xs.length + m.length ≤ 8796093022208) (hbase : base ≤ w.heap.size)
    (hk : ∀ v' w', OD w' base E v' (xs ++ m) → w.grownBy w' v.ownBlock → G.Grew w v v' → S w' ∧ Sch.heldT P l.toArray Q S r (a.put op.dst v') w') : Sch.heldT P l.toArray Q S (.one i r) a w := by
  obtain ⟨v', w', hr, h2, h3, h4⟩ := run_appD hT hinfo h op.type ad m c hrow hnil hlen hbase
  obtain ⟨h5, h6⟩ := hk v' w' h2 h3 h4
  refine Sch.tree_e ho hw fun K hK => ?_
  unfold Oper.wp execOp
  simp only [hop, resolve, invoke, builtin, Sem.run_bind, Sem.run_pure, Result.andThen_ok, List.map_toArray, List.map_cons, List.map_nil, hs, hx, hr]
  exact hK _ _ h5 h6
end
/-- The row of one dot that is written out. -/
theorem lit_one (w : World) (d : Dt) (t : TypeId) : RowD (w.alloc (.cells #[.int .i64 d.1, .int .i64 d.2] t)) (some ⟨w.heap.size, 0, none⟩) [d] := RowD.lit w [d] _ t (0, 0) rfl
end Go.Proofs.YtgopkffgljiblaaGreat.D
end

/-
  The library's BinarySearchFunc by Compare, at a set of dots.
-/
section
namespace Go.Proofs.YtgopkffgljiblaaGreat.D
set_option linter.unusedVariables false
open Go.RowKit V Go.Sort

/-- How far the search is: before i all is less, from j on nothing. -/
structure At (l : List Dt) (d : Dt) (i j : Nat) : Prop where
  ij : i ≤ j
  jn : j ≤ l.length
  low : ∀ k (h : k < l.length), k < i → less l[k] d = true
  high : ∀ k (h : k < l.length), j ≤ k → less l[k] d = false
theorem At.start (l : List Dt) (d : Dt) : At l d 0 l.length := ⟨by omega, by omega, fun k _ h => by omega, fun k h1 h2 => by omega⟩
theorem srt_at {l : List Dt} (h : Srt l) {i j : Nat} (hij : i < j) (hj : j < l.length) : less (l[i]'(by omega)) l[j] = true := (List.pairwise_iff_getElem.1 h) i j (by omega) hj hij
theorem At.up {l : List Dt} {d : Dt} {i j h : Nat} (hs : Srt l) (ha : At l d i j) (h1 : i ≤ h) (h2 : h < j) (hl : less (l[h]'(by have := ha.jn; omega)) d = true) : At l d (h + 1) j := {
  ij := h2
  jn := ha.jn
  low := fun k hk hkh => by
    by_cases e : k = h
    · subst e; exact hl
    · have := ha.jn
      exact less_trans (srt_at hs (show k < h by omega) (by omega)) hl
  high := ha.high }
theorem At.down {l : List Dt} {d : Dt} {i j h : Nat} (hs : Srt l) (ha : At l d i j) (h1 : i ≤ h) (h2 : h < j) (hl : less (l[h]'(by have := ha.jn; omega)) d = false) : At l d i h := {
  ij := h1
  jn := by have := ha.jn; omega
  low := ha.low
  high := fun k hk hkh => by
    by_cases e : k = h
    · subst e; exact hl
    · have h3 := srt_at hs (show h < k by omega) hk
      rw [← Bool.not_eq_true]
      intro h4
      rw [less_trans h3 h4] at hl
      cases hl }
theorem At.found {l : List Dt} {d : Dt} {i : Nat} (hs : Srt l) (ha : At l d i i) (hi : i < l.length) (he : l[i] = d) : decide (d ∈ l) = true := by
  rw [decide_eq_true_eq, ← he]; exact List.getElem_mem hi
theorem At.none {l : List Dt} {d : Dt} {i : Nat} (hs : Srt l) (ha : At l d i i) (he : ∀ hi : i < l.length, ¬ l[i] = d) : decide (d ∈ l) = false := by
  rw [decide_eq_false_iff_not]
  intro h
  obtain ⟨k, hk, e⟩ := List.mem_iff_getElem.1 h
  rcases Nat.lt_trichotomy k i with h1 | h1 | h1
  · have := ha.low k hk h1
    rw [e, less_irr] at this
    cases this
  · subst h1
    exact he hk e
  · have h2 := ha.high i (by omega) (Nat.le_refl _)
    have h3 := srt_at hs h1 hk
    rw [e] at h3
    rw [h3] at h2
    cases h2

set_option maxRecDepth 100000 in
set_option maxHeartbeats 1000000 in
theorem search_any (l : List Dt) (d : Dt) (a : Option Addr) (c : Nat) (w : World) (hs : Srt l) (hx : RowD w a l) (hlx : l.length ≤ 1000000) :
    Calls Tryz.prog 71 #[.slice a l.length c, dv d, .func (.func 72) #[] #[]] w fun e w' => ∃ z : Int, e = .returned (.tuple #[.int .i64 z, .bool (decide (d ∈ l))]) ∧ Below w.heap.size w w' := by
  have HX := Lib.hid hx
  have HS := Lib.hid hs
  have hli : (l.length : Int) ≤ 1000000 := by omega
  have HF := Lib.hid (fun i ha hi he => At.found (l := l) (d := d) (i := i) hs ha hi he)
  have HN := Lib.hid (fun i ha he => At.none (l := l) (d := d) (i := i) hs ha he)
  generalize decide (d ∈ l) = R at *
  obtain ⟨d1, d2⟩ := d
  clear hx hlx hs
  go_enter Tryz.func71, Tryz.ntmps71
  go_wp2_with fail
  have k0 : (w.alloc (Obj.cells #[Value.int IntKind.i64 d1, Value.int IntKind.i64 d2] 48)).cell? ⟨w.heap.size, 0, none⟩ = some (.int .i64 d1) := by go_simp
  have k1 : (w.alloc (Obj.cells #[Value.int IntKind.i64 d1, Value.int IntKind.i64 d2] 48)).cell? ⟨w.heap.size, 1, none⟩ = some (.int .i64 d2) := by go_simp
  have hB : Below w.heap.size w (w.alloc (Obj.cells #[Value.int IntKind.i64 d1, Value.int IntKind.i64 d2] 48)) := (Below.refl _ _).alloc (Nat.le_refl _) _
  generalize w.alloc (Obj.cells #[Value.int IntKind.i64 d1, Value.int IntKind.i64 d2] 48) = w1 at *
  have H0 := Lib.hid k0
  have H1 := Lib.hid k1
  have HB := Lib.hid hB
  have HX1 : Hid (RowD w1 a l) := HX.out.keep hB
  clear k0 k1 hB HX
  go_loopw [9, 10, 11] (fun s9 s10 _ wr => ∃ i j : Nat, s9 = .int .i64 (i : Int) ∧ s10 = .int .i64 (j : Int) ∧ Hid (Below w1.heap.size w1 wr) ∧ Hid (At l (d1, d2) i j)) (fun i j _ _ => (intOf j).toNat - (intOf i).toNat)
  case atStart => exact ⟨0, l.length, rfl, rfl, Below.refl _ _, At.start _ _⟩
  case round =>
    obtain ⟨i, j, rfl, rfl, hh, hA⟩ := hrel
    have hij := hA.out.ij
    have hjn := hA.out.jn
    have mixed := mixed
    by_cases hlt : i < j
    · have hi1 : (i : Int) < (j : Int) := by omega
      have hj1 : (j : Int) ≤ 1000000 := by omega
      obtain ⟨h, hm⟩ : ∃ h : Nat, ((i : Int) + (j : Int)) / 2 = (h : Int) := ⟨(i + j) / 2, by omega⟩
      have h1 : i ≤ h := by omega
      have h2 : h < j := by omega
      have hl : h < l.length := by omega
      obtain ⟨b1, o1, rfl, p0, p1⟩ := HX1.out.get hh.out h hl
      obtain ⟨p, hp⟩ : ∃ p, p = l[h] := ⟨_, rfl⟩
      rw [← hp] at p0 p1
      have HUp : Hid (less p (d1, d2) = true → At l (d1, d2) (h + 1) j) := fun e => hA.out.up HS.out h1 h2 (by rw [← hp]; exact e)
      have HDn : Hid (less p (d1, d2) = false → At l (d1, d2) i h) := fun e => hA.out.down HS.out h1 h2 (by rw [← hp]; exact e)
      replace p0 := cellG p0
      replace p1 := cellG p1
      have q0 := cellG ((hh.out.cell (p := ⟨_, _, none⟩) (lt_of_cell H0.out)).trans H0.out)
      have q1 := cellG ((hh.out.cell (p := ⟨_, _, none⟩) (lt_of_cell H1.out)).trans H1.out)
      have HL := Lib.hid (cmpG p (d1, d2) wr)
      have hx := ix_dot b1 o1 l.length c h h rfl hl
      have H12 := Lib.hid (show i ≤ h ∧ h < j from ⟨h1, h2⟩)
      clear hp hl
      rcases hb : less p (d1, d2) with _ | _
      · have hc := cmp_neg_ge hb
        have hc2 : ¬ cmpR p (d1, d2) < 0 := by omega
        have HA2 := Lib.hid (HDn.out hb)
        clear HUp HDn hb hc
        generalize cmpR p (d1, d2) = z at *
        go_wp2_with fail
        refine wp_region_quiet_grown mixed (by kernel_rfl) ?_
        repeat (first | go_big_quiet_skip | (go_big_quiet_want; go_big_quiet_op; first | go_big_quiet_on | go_big_quiet_call ((go_at_call 72; exact HL.out _ _))))
        refine wpQuiet_nil ?_
        intro _ hw'
        obtain ⟨⟨nq, osq⟩, hw''⟩ := hw'
        subst hw''
        go_wp2_with fail
        go_roundw
        case rel => exact ⟨i, h, rfl, rfl, bel_grown hh.out hh.out.size _ _, HA2⟩
        case measure => simp [intOf]; omega
      · have hc2 : cmpR p (d1, d2) < 0 := cmp_neg.2 hb
        have HA2 := Lib.hid (HUp.out hb)
        clear HUp HDn hb
        generalize cmpR p (d1, d2) = z at *
        go_wp2_with fail
        refine wp_region_quiet_grown mixed (by kernel_rfl) ?_
        repeat (first | go_big_quiet_skip | (go_big_quiet_want; go_big_quiet_op; first | go_big_quiet_on | go_big_quiet_call ((go_at_call 72; exact HL.out _ _))))
        refine wpQuiet_nil ?_
        intro _ hw'
        obtain ⟨⟨nq, osq⟩, hw''⟩ := hw'
        subst hw''
        go_wp2_with fail
        go_roundw
        case rel => exact ⟨h + 1, j, by go_num, rfl, bel_grown hh.out hh.out.size _ _, HA2⟩
        case measure => simp [intOf]; omega
    · obtain rfl : i = j := by omega
      have hi1 : ¬ (i : Int) < (i : Int) := by omega
      by_cases hl : i < l.length
      · have hg : decide ((i : Int) < (l.length : Int)) = true := by rw [decide_eq_true_eq]; omega
        have hi2 : (i : Int) < (l.length : Int) := by omega
        obtain ⟨b1, o1, rfl, p0, p1⟩ := HX1.out.get hh.out i hl
        obtain ⟨p, hp⟩ : ∃ p, p = l[i] := ⟨_, rfl⟩
        rw [← hp] at p0 p1
        have HR : Hid (R = decide (p = (d1, d2))) := by
          by_cases e : p = (d1, d2)
          · show R = _
            rw [decide_eq_true e]
            exact HF.out i hA.out hl (by rw [← hp]; exact e)
          · show R = _
            rw [decide_eq_false e]
            exact HN.out i hA.out (fun _ => by rw [← hp]; exact e)
        replace p0 := cellG p0
        replace p1 := cellG p1
        have q0 := cellG ((hh.out.cell (p := ⟨_, _, none⟩) (lt_of_cell H0.out)).trans H0.out)
        have q1 := cellG ((hh.out.cell (p := ⟨_, _, none⟩) (lt_of_cell H1.out)).trans H1.out)
        have HL := Lib.hid (cmpG p (d1, d2) wr)
        have hx := ix_dot b1 o1 l.length c i i rfl hl
        clear hp hl
        by_cases hb : p = (d1, d2)
        · have hr := HR.out
          rw [decide_eq_true hb] at hr
          have hz : (cmpR p (d1, d2) == 0) = true := by rw [beq_iff_eq]; exact cmp_zero.2 hb
          generalize cmpR p (d1, d2) = z at *
          clear HR HF HN hb
          subst hr
          go_wp2_with fail
          refine wp_region_quiet_grown mixed (by kernel_rfl) ?_
          repeat (first | go_big_quiet_skip | (go_big_quiet_want; go_big_quiet_op; first | go_big_quiet_on | go_big_quiet_call ((go_at_call 72; exact HL.out _ _))))
          refine wpQuiet_nil ?_
          intro _ hw'
          obtain ⟨⟨nq, osq⟩, hw''⟩ := hw'
          subst hw''
          go_wp2_with fail
          go_ret2
          exact ⟨_, rfl, HB.out.trans ((bel_grown hh.out hh.out.size _ _).mono HB.out.size)⟩
        · have hr := HR.out
          rw [decide_eq_false hb] at hr
          have hz : (cmpR p (d1, d2) == 0) = false := by rw [beq_eq_false_iff_ne]; exact fun e => hb (cmp_zero.1 e)
          generalize cmpR p (d1, d2) = z at *
          clear HR HF HN hb
          subst hr
          go_wp2_with fail
          refine wp_region_quiet_grown mixed (by kernel_rfl) ?_
          repeat (first | go_big_quiet_skip | (go_big_quiet_want; go_big_quiet_op; first | go_big_quiet_on | go_big_quiet_call ((go_at_call 72; exact HL.out _ _))))
          refine wpQuiet_nil ?_
          intro _ hw'
          obtain ⟨⟨nq, osq⟩, hw''⟩ := hw'
          subst hw''
          go_wp2_with fail
          go_ret2
          exact ⟨_, rfl, HB.out.trans ((bel_grown hh.out hh.out.size _ _).mono HB.out.size)⟩
      · have hg : decide ((i : Int) < (l.length : Int)) = false := by rw [decide_eq_false_iff_not]; omega
        have hr := HN.out i hA.out (fun h => absurd h hl)
        clear HF HN
        subst hr
        go_wp2_with fail
        go_quiet (fail)
        go_wp2_with fail
        go_ret2
        exact ⟨_, rfl, bel_drewN (HB.out.trans (hh.out.mono HB.out.size)) _⟩
end Go.Proofs.YtgopkffgljiblaaGreat.D
end
