/-
  Which dots are valid: nothing but new blocks; the counter of a replica, the program's and the reference's.
-/
import Derived.Test.YtfmlenhakejefaaDVal
import Derived.Test.YtfmlenhakejefaaMDRefB
import Derived.Test.YtfmlenhakejefaaMDText

section
namespace Go.Proofs.Ytfmlenhakejefaa.E
set_option linter.unusedVariables false
open Go.RowKit V Go.Sort D

theorem lays_alloc (w : World) (o : Obj) : Lays w (w.alloc o) := ⟨0, _, by rw [alloc_eq_grow]; rfl⟩
theorem lays_refl (w : World) : Lays w w := ⟨0, #[], by cases w; simp [grow, World.drewN]⟩
theorem lays_tr {a b c : World} (h : Lays a b) (k : Lays b c) : Lays a c := by
  obtain ⟨q, os, rfl⟩ := h
  obtain ⟨q2, os2, rfl⟩ := k
  refine ⟨q + q2, os ++ os2, ?_⟩
  rw [← World.drewN_drewN, ← grow_grow]
  rfl
theorem lays_drewN {a b : World} (h : Lays a b) (n : Nat) : Lays a (b.drewN n) := lays_tr h ⟨n, #[], by cases b; simp [grow, World.drewN]⟩

set_option maxRecDepth 100000 in
set_option maxHeartbeats 1000000 in
theorem valid_lays (d : Dt) (w : World) : Calls Try.prog 61 #[dv d] w fun e w' => e = .returned (.bool (validR d)) ∧ Lays w w' := by
  have HE : Hid (validR d = (decide (0 < d.1) && decide (d.1 ≤ 64) && decide (0 < d.2) && decide (d.2 ≤ 4294967295))) := rfl
  obtain ⟨d1, d2⟩ := d
  generalize validR (d1, d2) = R at *
  by_cases h1 : 1 ≤ d1
  · by_cases h2 : d1 ≤ 64
    · by_cases h3 : 1 ≤ d2
      · by_cases h4 : d2 ≤ 4294967295
        · have hR : R = true := by rw [HE.out]; simp; omega
          clear HE
          subst hR
          go_enter Try.func61, Try.ntmps61
          go_wp2_with fail
          go_ret
          exact ⟨rfl, lays_alloc _ _⟩
        · have hR : R = false := by rw [HE.out]; simp; omega
          clear HE
          subst hR
          go_enter Try.func61, Try.ntmps61
          go_wp2_with fail
          go_ret
          exact ⟨rfl, lays_alloc _ _⟩
      · have hR : R = false := by rw [HE.out]; simp; omega
        clear HE
        subst hR
        go_enter Try.func61, Try.ntmps61
        go_wp2_with fail
        go_ret
        exact ⟨rfl, lays_alloc _ _⟩
    · have hR : R = false := by rw [HE.out]; simp; omega
      clear HE
      subst hR
      go_enter Try.func61, Try.ntmps61
      go_wp2_with fail
      go_ret
      exact ⟨rfl, lays_alloc _ _⟩
  · have hR : R = false := by rw [HE.out]; simp; omega
    clear HE
    subst hR
    go_enter Try.func61, Try.ntmps61
    go_wp2_with fail
    go_ret
    exact ⟨rfl, lays_alloc _ _⟩
theorem validG (d : Dt) (W : World) (n : Nat) (os : Array Obj) : Calls Try.prog 61 #[dv d] (grow (W.drewN n) os) fun e w'' => e = .returned (.bool (validR d)) ∧ ∃ p : GrownBy, w'' = grow (W.drewN p.n) p.os :=
  Calls.grown_of (valid_lays d _)
/-! ### The counter of a replica -/
theorem get_pass {v : List Dt} {r : Int} : ∀ {k : Nat}, (∀ j (hj : j < v.length), j < k → v[j].1 ≠ r) → getV v r = getV (v.drop k) r := by
  intro k
  induction k with
  | zero => intro _; rw [List.drop_zero]
  | succ k ih =>
    intro h
    rw [ih fun j hj hjk => h j hj (by omega)]
    by_cases hk : k < v.length
    · rw [List.drop_eq_getElem_cons hk, getV, if_neg (h k hk (by omega))]
    · rw [List.drop_of_length_le (by omega), List.drop_of_length_le (by omega)]
theorem get_here {v : List Dt} {r : Int} {k : Nat} (hk : k < v.length) (h : ∀ j (hj : j < v.length), j < k → v[j].1 ≠ r) (e : v[k].1 = r) : getV v r = v[k].2 := by
  rw [get_pass h, List.drop_eq_getElem_cons hk, getV, if_pos e]
theorem get_away {v : List Dt} {r : Int} (h : ∀ j (hj : j < v.length), v[j].1 ≠ r) : getV v r = 0 :=
  get_none fun x hx => by
    obtain ⟨j, hj, rfl⟩ := List.mem_iff_getElem.1 hx
    exact h j hj

end Go.Proofs.Ytfmlenhakejefaa.E
end

/-
  Whether a dot is in a vector, and whether a vector is valid: the program's and the reference's.
-/
section
namespace Go.Proofs.Ytfmlenhakejefaa.E
set_option linter.unusedVariables false
open Go.RowKit V Go.Sort D

/-! ### Valid vectors -/
theorem bad_at {v : List Dt} {k : Nat} (hk : k < v.length) (h : validR v[k] = false) : validV v = false := by
  rw [← Bool.not_eq_true, valid_vd]
  intro hv
  have := hv.1 v[k] (List.getElem_mem hk)
  rw [h] at this
  cases this
theorem bad_pair {v : List Dt} {k : Nat} (hk : k + 1 < v.length) (h : v[k + 1].1 ≤ v[k].1) : validV v = false := by
  rw [← Bool.not_eq_true, valid_vd]
  intro hv
  have := List.pairwise_iff_getElem.1 hv.2 k (k + 1) (by omega) hk (by omega)
  omega
theorem good_all : ∀ {v : List Dt}, (∀ j (hj : j < v.length), validR v[j] = true) → (∀ j (hj : j + 1 < v.length), v[j].1 < v[j + 1].1) → validV v = true
  | [], _, _ => rfl
  | [a], h, _ => h 0 (by simp)
  | a :: b :: t, h, g => by
    have h0 : validR a = true := h 0 (by simp)
    rw [validV, h0, good_all (v := b :: t) (fun j hj => h (j + 1) (by simpa using hj)) (fun j hj => g (j + 1) (by simpa using hj))]
    simpa using g 0 (by simp)

theorem ix_vec (b o n c k : Nat) (z : Int) (hz : z = (k : Int)) (hk : k < n) : ∀ w, (Instr.indexAt 41 (.slice (some ⟨b, o, none⟩) n c) (.int .i64 z)).run Try.prog w = .ok (.pointer (some ⟨b, o + k * 2, none⟩)) w := by
  intro w
  subst hz
  have hk2 : (k : Int) < (n : Int) := by omega
  go_simp

set_option maxRecDepth 100000 in
set_option maxHeartbeats 1000000 in
theorem validV_any (v : List Dt) (a : Option Addr) (c : Nat) (w : World) (hx : RowD w a v) (hlx : v.length ≤ 140737488355328) :
    Calls Try.prog 55 #[.slice a v.length c] w fun e w' => e = .returned (.bool (validV v)) ∧ Lays w w' := by
  have HX := Lib.hid hx
  have hli : (v.length : Int) ≤ 140737488355328 := by omega
  clear hx hlx
  go_enter Try.func55, Try.ntmps55
  go_wp2_with fail
  go_loopw [7, 3, 4] (fun i _ _ wr => ∃ k : Nat, k ≤ v.length ∧ i = .int .i64 (k : Int) ∧ Hid (Lays w wr) ∧ Hid (∀ j (hj : j < v.length), j < k → validR v[j] = true) ∧ Hid (∀ j (hj : j + 1 < v.length), j + 1 < k → v[j].1 < v[j + 1].1)) (fun i _ _ _ => v.length - (intOf i).toNat)
  case atStart => exact ⟨0, Nat.zero_le _, rfl, lays_refl _, fun j _ h => by omega, fun j _ h => by omega⟩
  case round =>
    obtain ⟨k, hk, rfl, hh, HV, HI⟩ := hrel
    by_cases hlt : k < v.length
    · have mixed := mixed
      have hi0 : (k : Int) < (v.length : Int) := by omega
      obtain ⟨b2, o2, rfl, q0, q1⟩ := HX.out.get hh.out.bel k hlt
      obtain ⟨q, hq⟩ : ∃ q, q = v[k] := ⟨_, rfl⟩
      rw [← hq] at q0 q1
      have HQ := Lib.hid hq
      clear hq
      have HG := Lib.hid (fun W n os => validG q W n os)
      rcases hb : validR q with _ | _
      · have HN : Hid (validV v = false) := bad_at hlt (by rw [← HQ.out]; exact hb)
        rw [hb] at HG
        clear hb
        go_wp2_with fail
        have r0 : (wr.alloc (Obj.cells #[Value.int IntKind.i64 q.1, Value.int IntKind.i64 q.2] 36)).cell? ⟨wr.heap.size, 0, none⟩ = some (.int .i64 q.1) := by go_simp
        have r1 : (wr.alloc (Obj.cells #[Value.int IntKind.i64 q.1, Value.int IntKind.i64 q.2] 36)).cell? ⟨wr.heap.size, 1, none⟩ = some (.int .i64 q.2) := by go_simp
        have hL2 : Lays w (wr.alloc (Obj.cells #[Value.int IntKind.i64 q.1, Value.int IntKind.i64 q.2] 36)) := lays_tr hh.out (lays_alloc _ _)
        generalize hw2 : (wr.alloc (Obj.cells #[Value.int IntKind.i64 q.1, Value.int IntKind.i64 q.2] 36)) = w2 at *
        have HL2 := Lib.hid hL2
        clear hL2 hw2
        replace r0 := cellG r0
        replace r1 := cellG r1
        refine wp_region_quiet_grown mixed (by kernel_rfl) ?_
        repeat (first | go_big_quiet_skip | (go_big_quiet_want; go_big_quiet_op; go_big_quiet_on))
        go_big_quiet_want
        go_big_quiet_op
        go_big_quiet_call ((go_at_call 61; exact HG.out _ _ _))
        repeat (first | go_big_quiet_skip | (go_big_quiet_want; go_big_quiet_op; go_big_quiet_on))
        refine wpQuiet_nil ?_
        intro _ hw'
        obtain ⟨⟨nq, osq⟩, hw''⟩ := hw'
        subst hw''
        go_wp2_with fail
        go_ret
        exact ⟨by rw [HN.out]; rfl, lays_tr HL2.out ⟨_, _, rfl⟩⟩
      · have HVq : Hid (∀ j (hj : j < v.length), j < k + 1 → validR v[j] = true) := fun j hj hjk => by
          by_cases e : j = k
          · subst e; rw [← HQ.out]; exact hb
          · exact HV.out j hj (by omega)
        rw [hb] at HG
        clear hb
        rcases k with _ | k
        · have hg : decide ((0 : Int) < 0) = false := rfl
          simp only [Nat.zero_mul, Nat.add_zero] at q0 q1
          go_wp2_with fail
          have r0 : (wr.alloc (Obj.cells #[Value.int IntKind.i64 q.1, Value.int IntKind.i64 q.2] 36)).cell? ⟨wr.heap.size, 0, none⟩ = some (.int .i64 q.1) := by go_simp
          have r1 : (wr.alloc (Obj.cells #[Value.int IntKind.i64 q.1, Value.int IntKind.i64 q.2] 36)).cell? ⟨wr.heap.size, 1, none⟩ = some (.int .i64 q.2) := by go_simp
          have hL2 : Lays w (wr.alloc (Obj.cells #[Value.int IntKind.i64 q.1, Value.int IntKind.i64 q.2] 36)) := lays_tr hh.out (lays_alloc _ _)
          generalize hw2 : (wr.alloc (Obj.cells #[Value.int IntKind.i64 q.1, Value.int IntKind.i64 q.2] 36)) = w2 at *
          have HL2 := Lib.hid hL2
          clear hL2 hw2
          replace r0 := cellG r0
          replace r1 := cellG r1
          refine wp_region_quiet_grown mixed (by kernel_rfl) ?_
          repeat (first | go_big_quiet_skip | (go_big_quiet_want; go_big_quiet_op; go_big_quiet_on))
          go_big_quiet_want
          go_big_quiet_op
          go_big_quiet_call ((go_at_call 61; exact HG.out _ _ _))
          repeat (first | go_big_quiet_skip | (go_big_quiet_want; go_big_quiet_op; go_big_quiet_on))
          refine wpQuiet_nil ?_
          intro _ hw'
          obtain ⟨⟨nq, osq⟩, hw''⟩ := hw'
          subst hw''
          go_wp2_with fail
          go_roundw
          case rel => exact ⟨1, by omega, by go_num, lays_tr HL2.out ⟨_, _, rfl⟩, HVq, fun j hj hjk => by omega⟩
          case measure => simp [intOf]; omega
        · have hlt0 : k < v.length := by omega
          have hi3 : (0 : Int) < (k : Int) + 1 := by omega
          have hg : decide ((0 : Int) < (k : Int) + 1) = true := by rw [decide_eq_true_eq]; exact hi3
          obtain ⟨b1, o1, e2, p0, p1⟩ := HX.out.get hh.out.bel k hlt0
          cases e2
          obtain ⟨p, hp⟩ : ∃ p, p = v[k] := ⟨_, rfl⟩
          rw [← hp] at p0 p1
          have HP := Lib.hid hp
          clear hp
          have hwr := wrap_nat (show (k : Int) ≤ 140737488355328 by omega)
          have hix := ix_vec b2 o2 v.length c k (k : Int) rfl hlt0
          have hix2 := ix_vec b2 o2 v.length c (k + 1) ((k : Int) + 1) (by omega) hlt
          by_cases hpq : q.1 ≤ p.1
          · have HN : Hid (validV v = false) := bad_pair hlt (by rw [← HP.out, ← HQ.out]; exact hpq)
            have hd : decide (q.1 ≤ p.1) = true := by simpa using hpq
            go_wp2_with fail
            have r0 : (wr.alloc (Obj.cells #[Value.int IntKind.i64 q.1, Value.int IntKind.i64 q.2] 36)).cell? ⟨wr.heap.size, 0, none⟩ = some (.int .i64 q.1) := by go_simp
            have r1 : (wr.alloc (Obj.cells #[Value.int IntKind.i64 q.1, Value.int IntKind.i64 q.2] 36)).cell? ⟨wr.heap.size, 1, none⟩ = some (.int .i64 q.2) := by go_simp
            have hL2 : Lays w (wr.alloc (Obj.cells #[Value.int IntKind.i64 q.1, Value.int IntKind.i64 q.2] 36)) := lays_tr hh.out (lays_alloc _ _)
            replace p0 := (Lib.cell?_alloc_some (Obj.cells #[Value.int IntKind.i64 q.1, Value.int IntKind.i64 q.2] 36) p0)
            replace p1 := Lib.cell?_alloc_some (Obj.cells #[Value.int IntKind.i64 q.1, Value.int IntKind.i64 q.2] 36) p1
            generalize hw2 : (wr.alloc (Obj.cells #[Value.int IntKind.i64 q.1, Value.int IntKind.i64 q.2] 36)) = w2 at *
            have HL2 := Lib.hid hL2
            clear hL2 hw2
            replace r0 := cellG r0
            replace r1 := cellG r1
            replace p0 := cellG p0
            replace p1 := cellG p1
            refine wp_region_quiet_grown mixed (by kernel_rfl) ?_
            repeat (first | go_big_quiet_skip | (go_big_quiet_want; go_big_quiet_op; go_big_quiet_on))
            go_big_quiet_want
            go_big_quiet_op
            go_big_quiet_call ((go_at_call 61; exact HG.out _ _ _))
            repeat (first | go_big_quiet_skip | (go_big_quiet_want; go_big_quiet_op; go_big_quiet_on))
            refine wpQuiet_nil ?_
            intro _ hw'
            obtain ⟨⟨nq, osq⟩, hw''⟩ := hw'
            subst hw''
            go_wp2_with fail
            go_ret
            exact ⟨by rw [HN.out]; rfl, lays_tr HL2.out ⟨_, _, rfl⟩⟩
          · have hd : decide (q.1 ≤ p.1) = false := by simpa using hpq
            have HPQ := Lib.hid hpq
            go_wp2_with fail
            have r0 : (wr.alloc (Obj.cells #[Value.int IntKind.i64 q.1, Value.int IntKind.i64 q.2] 36)).cell? ⟨wr.heap.size, 0, none⟩ = some (.int .i64 q.1) := by go_simp
            have r1 : (wr.alloc (Obj.cells #[Value.int IntKind.i64 q.1, Value.int IntKind.i64 q.2] 36)).cell? ⟨wr.heap.size, 1, none⟩ = some (.int .i64 q.2) := by go_simp
            have hL2 : Lays w (wr.alloc (Obj.cells #[Value.int IntKind.i64 q.1, Value.int IntKind.i64 q.2] 36)) := lays_tr hh.out (lays_alloc _ _)
            replace p0 := (Lib.cell?_alloc_some (Obj.cells #[Value.int IntKind.i64 q.1, Value.int IntKind.i64 q.2] 36) p0)
            replace p1 := Lib.cell?_alloc_some (Obj.cells #[Value.int IntKind.i64 q.1, Value.int IntKind.i64 q.2] 36) p1
            generalize hw2 : (wr.alloc (Obj.cells #[Value.int IntKind.i64 q.1, Value.int IntKind.i64 q.2] 36)) = w2 at *
            have HL2 := Lib.hid hL2
            clear hL2 hw2
            replace r0 := cellG r0
            replace r1 := cellG r1
            replace p0 := cellG p0
            replace p1 := cellG p1
            refine wp_region_quiet_grown mixed (by kernel_rfl) ?_
            repeat (first | go_big_quiet_skip | (go_big_quiet_want; go_big_quiet_op; go_big_quiet_on))
            go_big_quiet_want
            go_big_quiet_op
            go_big_quiet_call ((go_at_call 61; exact HG.out _ _ _))
            repeat (first | go_big_quiet_skip | (go_big_quiet_want; go_big_quiet_op; go_big_quiet_on))
            refine wpQuiet_nil ?_
            intro _ hw'
            obtain ⟨⟨nq, osq⟩, hw''⟩ := hw'
            subst hw''
            go_wp2_with fail
            go_roundw
            case rel =>
              refine ⟨k + 2, by omega, by go_num, lays_tr HL2.out ⟨_, _, rfl⟩, HVq, fun j hj hjk => ?_⟩
              by_cases hjk2 : j = k
              · subst hjk2; rw [← HP.out, ← HQ.out]; have := HPQ.out; omega
              · exact HI.out j hj (by omega)
            case measure => simp [intOf]; omega
    · have HN : Hid (validV v = true) := good_all (fun j hj => HV.out j hj (by omega)) (fun j hj => HI.out j hj (by omega))
      have hend : ¬ (k : Int) < (v.length : Int) := by omega
      go_wp2_with fail
      go_ret
      exact ⟨by rw [HN.out]; rfl, hh.out⟩
end Go.Proofs.Ytfmlenhakejefaa.E
end

/-
  Which vector has all dots of which: the program's and the reference's within and Order.
-/
section
namespace Go.Proofs.Ytfmlenhakejefaa.E
set_option linter.unusedVariables false
open Go.RowKit V Go.Sort D

theorem within_no {a b : List Dt} {k : Nat} (hk : k < a.length) (h : hasV b a[k] = false) : withinV a b = false := by
  unfold withinV
  rw [List.all_eq_false]
  exact ⟨a[k], List.getElem_mem hk, by rw [h]; simp⟩
theorem within_yes {a b : List Dt} (h : ∀ j (hj : j < a.length), hasV b a[j] = true) : withinV a b = true := by
  unfold withinV
  rw [List.all_eq_true]
  intro x hx
  obtain ⟨j, hj, rfl⟩ := List.mem_iff_getElem.1 hx
  exact h j hj

/-- What Order says: a number, or an error. -/
def ordR (xs ys : List Dt) : Int × Int := if validV xs = true ∧ validV ys = true then (orderR xs ys, 0) else (0, 2)
end Go.Proofs.Ytfmlenhakejefaa.E
end

/-
  The reference's Raise: one more dot.
-/
section
namespace Go.Proofs.Ytfmlenhakejefaa.E
set_option linter.unusedVariables false
open Go.RowKit V Go.Sort D

theorem raise_step {d x : Dt} {dn : Bool} {t : List Dt} : raiseW d dn (x :: t) = (if dn = false ∧ d.1 ≤ x.1 then [d] else []) ++ (if x.1 ≠ d.1 then [x] else []) ++ raiseW d (dn || decide (d.1 ≤ x.1)) t := by rw [raiseW]
theorem raise_len {d : Dt} : ∀ {dn : Bool} {v : List Dt}, (raiseW d dn v).length ≤ 2 * v.length + 1
  | dn, [] => by unfold raiseW; split <;> simp
  | dn, x :: t => by
    have := raise_len (d := d) (dn := dn || decide (d.1 ≤ x.1)) (v := t)
    rw [raise_step]
    have h1 : (if dn = false ∧ d.1 ≤ x.1 then [d] else []).length ≤ 1 := by split <;> simp
    have h2 : (if x.1 ≠ d.1 then [x] else []).length ≤ 1 := by split <;> simp
    simp only [List.length_append, List.length_cons]
    omega

end Go.Proofs.Ytfmlenhakejefaa.E
end

/-
  The reference's Of and Merge.
-/
section
namespace Go.Proofs.Ytfmlenhakejefaa.E
set_option linter.unusedVariables false
open Go.RowKit V Go.Sort D

/-- A slice whose dots are these. -/
def SV (w : World) (v : Value) (l : List Dt) : Prop := ∃ a c, v = .slice a l.length c ∧ RowD w a l ∧ (a = none → c = 0) ∧ l.length ≤ c
theorem SV.nil (w : World) : SV w (.slice none 0 0) [] := ⟨none, 0, rfl, .inl rfl, fun _ => rfl, Nat.le_refl _⟩
theorem SV.keep {w w' : World} {v : Value} {l : List Dt} (h : SV w v l) (hb : Below w.heap.size w w') : SV w' v l := by
  obtain ⟨a, c, e, hr, hn, hc⟩ := h
  exact ⟨a, c, e, hr.keep hb, hn, hc⟩
theorem SV.of_od {w : World} {base : Nat} {v : Value} {l : List Dt} (h : OD w base E v l) : SV w v l := by
  obtain ⟨a, c, e, hr, hn, hc, -⟩ := h.row
  exact ⟨a, c, e, hr, fun h => (hn h).1, hc⟩

theorem raise_len1 {d : Dt} : ∀ {v : List Dt}, (raiseW d true v).length ≤ v.length ∧ (raiseW d false v).length ≤ v.length + 1
  | [] => by constructor <;> simp [raiseW]
  | x :: t => by
    obtain ⟨h1, h2⟩ := raise_len1 (d := d) (v := t)
    have k : (if x.1 ≠ d.1 then [x] else []).length ≤ 1 := by split <;> simp
    constructor
    · rw [raise_step, if_neg (by simp)]
      simp only [List.length_append, List.length_cons, List.length_nil, Bool.true_or]
      omega
    · rw [raise_step]
      by_cases h : d.1 ≤ x.1
      · rw [if_pos ⟨rfl, h⟩, decide_eq_true h]
        simp only [List.length_append, List.length_cons, List.length_nil, Bool.false_or]
        omega
      · rw [if_neg (fun e => h e.2), decide_eq_false h]
        simp only [List.length_append, List.length_cons, List.length_nil, Bool.false_or]
        omega
theorem raiseR_len (v : List Dt) (d : Dt) : (raiseR v d).length ≤ v.length + 1 := by
  unfold raiseR
  split
  · omega
  · exact raise_len1.2
theorem fold_raise_len : ∀ (l v : List Dt), (l.foldl raiseR v).length ≤ v.length + l.length
  | [], v => by simp
  | d :: t, v => by
    have h1 := fold_raise_len t (raiseR v d)
    have h2 := raiseR_len v d
    simp only [List.foldl_cons, List.length_cons]
    omega
theorem fold_take {l : List Dt} {k : Nat} (h : k < l.length) (f : List Dt → Dt → List Dt) (s : List Dt) : (l.take (k + 1)).foldl f s = f ((l.take k).foldl f s) l[k] := by
  rw [List.take_succ_eq_append_getElem h, List.foldl_append]
  rfl
theorem fold_take_len (l s : List Dt) (k : Nat) : ((l.take k).foldl raiseR s).length ≤ s.length + l.length := by
  have := fold_raise_len (l.take k) s
  rw [List.length_take] at this
  omega

/-- The vector of some dots, or none and an error. -/
def ofB (l : List Dt) : List Dt × Int := if l.all validR = true then (ofR l, 0) else ([], 2)
theorem all_no {l : List Dt} {k : Nat} (hk : k < l.length) (h : validR l[k] = false) : ofB l = ([], 2) := by
  unfold ofB
  rw [if_neg]
  rw [Bool.not_eq_true, List.all_eq_false]
  exact ⟨l[k], List.getElem_mem hk, by rw [h]; simp⟩
theorem all_yes {l : List Dt} (h : ∀ j (hj : j < l.length), validR l[j] = true) : ofB l = (ofR l, 0) := by
  unfold ofB
  rw [if_pos]
  rw [List.all_eq_true]
  intro x hx
  obtain ⟨j, hj, rfl⟩ := List.mem_iff_getElem.1 hx
  exact h j hj
end Go.Proofs.Ytfmlenhakejefaa.E
end
