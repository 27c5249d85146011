/-
  Whether a dot is in a vector, and whether a vector is valid: the program's and the reference's.
-/
import Derived.Test.YtefnoajkdhgonaaEVal
namespace Go.Proofs.Ytefnoajkdhgonaa.E
set_option linter.unusedVariables false
open Go.RowKit V Go.Sort D

set_option maxRecDepth 100000 in
set_option maxHeartbeats 1000000 in
theorem has_any (v : List Dt) (d : Dt) (a : Option Addr) (c : Nat) (w : World) (hx : RowD w a v) (hlx : v.length ≤ 140737488355328) :
    Calls Try.prog 54 #[.slice a v.length c, dv d] w fun e w' => e = .returned (.bool (hasV v d)) ∧ Lays w w' := by
  have HE : Hid (hasV v d = (validR d && decide (d.2 ≤ getV v d.1))) := rfl
  have hB : Lays w (w.alloc (Obj.cells #[.int .i64 d.1, .int .i64 d.2] 38)) := lays_alloc _ _
  have HV := Lib.hid (fun W n os => validG d W n os)
  have HG := Lib.hid (fun n os => getG v d.1 a c _ (hx.keep hB.bel) hlx n os)
  have k0 : (w.alloc (Obj.cells #[Value.int IntKind.i64 d.1, Value.int IntKind.i64 d.2] 38)).cell? ⟨w.heap.size, 0, none⟩ = some (.int .i64 d.1) := by go_simp
  have k1 : (w.alloc (Obj.cells #[Value.int IntKind.i64 d.1, Value.int IntKind.i64 d.2] 38)).cell? ⟨w.heap.size, 1, none⟩ = some (.int .i64 d.2) := by go_simp
  have HB := Lib.hid hB
  replace k0 := cellG k0
  replace k1 := cellG k1
  clear hB hx hlx
  obtain ⟨d1, d2⟩ := d
  generalize hasV v (d1, d2) = R at *
  have mixed := mixed
  simp only at *
  rcases hv : validR (d1, d2) with _ | _
  · have hR : R = false := by rw [HE.out, hv]; rfl
    rw [hv] at HV
    clear HE hv HG
    subst hR
    go_enter Try.func54, Try.ntmps54
    go_wp2_with fail
    generalize w.alloc (Obj.cells #[Value.int IntKind.i64 d1, Value.int IntKind.i64 d2] 38) = w1 at *
    refine wp_region_quiet_grown mixed (by kernel_rfl) ?_
    repeat (first | go_big_quiet_skip | (go_big_quiet_want; go_big_quiet_op; go_big_quiet_on))
    go_big_quiet_want
    go_big_quiet_op
    go_big_quiet_call ((go_at_call 57; exact HV.out _ _ _))
    repeat (first | go_big_quiet_skip | (go_big_quiet_want; go_big_quiet_op; go_big_quiet_on))
    refine wpQuiet_nil ?_
    intro _ hw'
    obtain ⟨⟨nq, osq⟩, hw''⟩ := hw'
    subst hw''
    go_wp2_with fail
    go_ret
    exact ⟨rfl, lays_tr HB.out ⟨_, _, rfl⟩⟩
  · have hR : R = decide (d2 ≤ getV v d1) := by rw [HE.out, hv]; rfl
    rw [hv] at HV
    clear HE hv
    generalize getV v d1 = g at *
    subst hR
    go_enter Try.func54, Try.ntmps54
    go_wp2_with fail
    generalize w.alloc (Obj.cells #[Value.int IntKind.i64 d1, Value.int IntKind.i64 d2] 38) = w1 at *
    refine wp_region_quiet_grown mixed (by kernel_rfl) ?_
    repeat (first | go_big_quiet_skip | (go_big_quiet_want; go_big_quiet_op; go_big_quiet_on))
    go_big_quiet_want
    go_big_quiet_op
    go_big_quiet_call ((go_at_call 57; exact HV.out _ _ _))
    repeat (first | go_big_quiet_skip | (go_big_quiet_want; go_big_quiet_op; go_big_quiet_on))
    go_big_quiet_want
    go_big_quiet_op
    go_big_quiet_call ((go_at_call 75; exact HG.out _ _))
    repeat (first | go_big_quiet_skip | (go_big_quiet_want; go_big_quiet_op; go_big_quiet_on))
    refine wpQuiet_nil ?_
    intro _ hw'
    obtain ⟨⟨nq, osq⟩, hw''⟩ := hw'
    subst hw''
    go_wp2_with fail
    go_ret
    exact ⟨rfl, lays_tr HB.out ⟨_, _, rfl⟩⟩
set_option maxRecDepth 100000 in
set_option maxHeartbeats 1000000 in
theorem has_ref (v : List Dt) (d : Dt) (a : Option Addr) (c : Nat) (w : World) (hx : RowD w a v) (hlx : v.length ≤ 140737488355328) :
    Calls Try.prog 50 #[.slice a v.length c, dv d] w fun e w' => e = .returned (.bool (hasV v d)) ∧ Lays w w' := by
  have HE : Hid (hasV v d = (validR d && decide (d.2 ≤ getV v d.1))) := rfl
  have hB : Lays w (w.alloc (Obj.cells #[.int .i64 d.1, .int .i64 d.2] 38)) := lays_alloc _ _
  have HV := Lib.hid (fun W n os => validG_ref d W n os)
  have HG := Lib.hid (fun n os => getG_ref v d.1 a c _ (hx.keep hB.bel) hlx n os)
  have k0 : (w.alloc (Obj.cells #[Value.int IntKind.i64 d.1, Value.int IntKind.i64 d.2] 38)).cell? ⟨w.heap.size, 0, none⟩ = some (.int .i64 d.1) := by go_simp
  have k1 : (w.alloc (Obj.cells #[Value.int IntKind.i64 d.1, Value.int IntKind.i64 d.2] 38)).cell? ⟨w.heap.size, 1, none⟩ = some (.int .i64 d.2) := by go_simp
  have HB := Lib.hid hB
  replace k0 := cellG k0
  replace k1 := cellG k1
  clear hB hx hlx
  obtain ⟨d1, d2⟩ := d
  generalize hasV v (d1, d2) = R at *
  have mixed := mixed
  simp only at *
  rcases hv : validR (d1, d2) with _ | _
  · have hR : R = false := by rw [HE.out, hv]; rfl
    rw [hv] at HV
    clear HE hv HG
    subst hR
    go_enter Try.func50, Try.ntmps50
    go_wp2_with fail
    generalize w.alloc (Obj.cells #[Value.int IntKind.i64 d1, Value.int IntKind.i64 d2] 38) = w1 at *
    refine wp_region_quiet_grown mixed (by kernel_rfl) ?_
    repeat (first | go_big_quiet_skip | (go_big_quiet_want; go_big_quiet_op; go_big_quiet_on))
    go_big_quiet_want
    go_big_quiet_op
    go_big_quiet_call ((go_at_call 59; exact HV.out _ _ _))
    repeat (first | go_big_quiet_skip | (go_big_quiet_want; go_big_quiet_op; go_big_quiet_on))
    refine wpQuiet_nil ?_
    intro _ hw'
    obtain ⟨⟨nq, osq⟩, hw''⟩ := hw'
    subst hw''
    go_wp2_with fail
    go_ret
    exact ⟨rfl, lays_tr HB.out ⟨_, _, rfl⟩⟩
  · have hR : R = decide (d2 ≤ getV v d1) := by rw [HE.out, hv]; rfl
    rw [hv] at HV
    clear HE hv
    generalize getV v d1 = g at *
    subst hR
    go_enter Try.func50, Try.ntmps50
    go_wp2_with fail
    generalize w.alloc (Obj.cells #[Value.int IntKind.i64 d1, Value.int IntKind.i64 d2] 38) = w1 at *
    refine wp_region_quiet_grown mixed (by kernel_rfl) ?_
    repeat (first | go_big_quiet_skip | (go_big_quiet_want; go_big_quiet_op; go_big_quiet_on))
    go_big_quiet_want
    go_big_quiet_op
    go_big_quiet_call ((go_at_call 59; exact HV.out _ _ _))
    repeat (first | go_big_quiet_skip | (go_big_quiet_want; go_big_quiet_op; go_big_quiet_on))
    go_big_quiet_want
    go_big_quiet_op
    go_big_quiet_call ((go_at_call 51; exact HG.out _ _))
    repeat (first | go_big_quiet_skip | (go_big_quiet_want; go_big_quiet_op; go_big_quiet_on))
    refine wpQuiet_nil ?_
    intro _ hw'
    obtain ⟨⟨nq, osq⟩, hw''⟩ := hw'
    subst hw''
    go_wp2_with fail
    go_ret
    exact ⟨rfl, lays_tr HB.out ⟨_, _, rfl⟩⟩

/-! ### Valid vectors -/
theorem bad_at {v : List Dt} {k : Nat} (hk : k < v.length) (h : validR v[k] = false) : validV v = false := by
  rw [← Bool.not_eq_true, valid_vd]
  intro hv
  have := hv.1 v[k] (List.getElem_mem hk)
  rw [h] at this
  cases this
theorem bad_pair {v : List Dt} {k : Nat} (hk : k + 1 < v.length) (h : v[k + 1].1 ≤ v[k].1) : validV v = false := by
  rw [← Bool.not_eq_true, valid_vd]
  intro hv
  have := List.pairwise_iff_getElem.1 hv.2 k (k + 1) (by omega) hk (by omega)
  omega
theorem good_all : ∀ {v : List Dt}, (∀ j (hj : j < v.length), validR v[j] = true) → (∀ j (hj : j + 1 < v.length), v[j].1 < v[j + 1].1) → validV v = true
  | [], _, _ => rfl
  | [a], h, _ => h 0 (by simp)
  | a :: b :: t, h, g => by
    have h0 : validR a = true := h 0 (by simp)
    rw [validV, h0, good_all (v := b :: t) (fun j hj => h (j + 1) (by simpa using hj)) (fun j hj => g (j + 1) (by simpa using hj))]
    simpa using g 0 (by simp)

theorem ix_vec (b o n c k : Nat) (z : Int) (hz : z = (k : Int)) (hk : k < n) : ∀ w, (Instr.indexAt 23 (.slice (some ⟨b, o, none⟩) n c) (.int .i64 z)).run Try.prog w = .ok (.pointer (some ⟨b, o + k * 2, none⟩)) w := by
  intro w
  subst hz
  have hk2 : (k : Int) < (n : Int) := by omega
  go_simp

set_option maxRecDepth 100000 in
set_option maxHeartbeats 1000000 in
theorem validV_ref (v : List Dt) (a : Option Addr) (c : Nat) (w : World) (hx : RowD w a v) (hlx : v.length ≤ 140737488355328) :
    Calls Try.prog 46 #[.slice a v.length c] w fun e w' => e = .returned (.bool (validV v)) ∧ Lays w w' := by
  have HX := Lib.hid hx
  have hli : (v.length : Int) ≤ 140737488355328 := by omega
  clear hx hlx
  go_enter Try.func46, Try.ntmps46
  go_wp2_with fail
  go_loopw [3] (fun i  wr => ∃ k : Nat, k ≤ v.length ∧ i = .int .i64 (k : Int) ∧ Hid (Lays w wr) ∧ Hid (∀ j (hj : j < v.length), j < k → validR v[j] = true) ∧ Hid (∀ j (hj : j + 1 < v.length), j + 1 < k → v[j].1 < v[j + 1].1)) (fun i  _ => v.length - (intOf i).toNat)
  case atStart => exact ⟨0, Nat.zero_le _, rfl, lays_refl _, fun j _ h => by omega, fun j _ h => by omega⟩
  case round =>
    obtain ⟨k, hk, rfl, hh, HV, HI⟩ := hrel
    by_cases hlt : k < v.length
    · have mixed := mixed
      have hi0 : (k : Int) < (v.length : Int) := by omega
      obtain ⟨b2, o2, rfl, q0, q1⟩ := HX.out.get hh.out.bel k hlt
      obtain ⟨q, hq⟩ : ∃ q, q = v[k] := ⟨_, rfl⟩
      rw [← hq] at q0 q1
      have HQ := Lib.hid hq
      clear hq
      have HG := Lib.hid (fun W n os => validG_ref q W n os)
      rcases hb : validR q with _ | _
      · have HN : Hid (validV v = false) := bad_at hlt (by rw [← HQ.out]; exact hb)
        rw [hb] at HG
        clear hb
        replace q0 := cellG q0
        replace q1 := cellG q1
        go_wp2_with fail
        refine wp_region_quiet_grown mixed (by kernel_rfl) ?_
        repeat (first | go_big_quiet_skip | (go_big_quiet_want; go_big_quiet_op; go_big_quiet_on))
        go_big_quiet_want
        go_big_quiet_op
        go_big_quiet_call ((go_at_call 59; exact HG.out _ _ _))
        repeat (first | go_big_quiet_skip | (go_big_quiet_want; go_big_quiet_op; go_big_quiet_on))
        refine wpQuiet_nil ?_
        intro _ hw'
        obtain ⟨⟨nq, osq⟩, hw''⟩ := hw'
        subst hw''
        go_wp2_with fail
        go_ret
        exact ⟨by rw [HN.out]; rfl, lays_tr hh.out ⟨_, _, rfl⟩⟩
      · have HVq : Hid (∀ j (hj : j < v.length), j < k + 1 → validR v[j] = true) := fun j hj hjk => by
          by_cases e : j = k
          · subst e; rw [← HQ.out]; exact hb
          · exact HV.out j hj (by omega)
        rw [hb] at HG
        clear hb
        rcases k with _ | k
        · have hg : decide ((0 : Int) < 0) = false := rfl
          simp only [Nat.zero_mul, Nat.add_zero] at q0 q1
          replace q0 := cellG q0
          replace q1 := cellG q1
          go_wp2_with fail
          refine wp_region_quiet_grown mixed (by kernel_rfl) ?_
          repeat (first | go_big_quiet_skip | (go_big_quiet_want; go_big_quiet_op; go_big_quiet_on))
          go_big_quiet_want
          go_big_quiet_op
          go_big_quiet_call ((go_at_call 59; exact HG.out _ _ _))
          repeat (first | go_big_quiet_skip | (go_big_quiet_want; go_big_quiet_op; go_big_quiet_on))
          refine wpQuiet_nil ?_
          intro _ hw'
          obtain ⟨⟨nq, osq⟩, hw''⟩ := hw'
          subst hw''
          go_wp2_with fail
          go_roundw
          case rel => exact ⟨1, by omega, by go_num, lays_tr hh.out ⟨_, _, rfl⟩, HVq, fun j hj hjk => by omega⟩
          case measure => simp [intOf]; omega
        · have hlt0 : k < v.length := by omega
          have hi3 : (0 : Int) < (k : Int) + 1 := by omega
          have hg : decide ((0 : Int) < (k : Int) + 1) = true := by rw [decide_eq_true_eq]; exact hi3
          obtain ⟨b1, o1, e2, p0, p1⟩ := HX.out.get hh.out.bel k hlt0
          cases e2
          obtain ⟨p, hp⟩ : ∃ p, p = v[k] := ⟨_, rfl⟩
          rw [← hp] at p0 p1
          have HP := Lib.hid hp
          clear hp
          have hwr := wrap_nat (show (k : Int) ≤ 140737488355328 by omega)
          have hix := ix_vec b2 o2 v.length c k (k : Int) rfl hlt0
          have hix2 := ix_vec b2 o2 v.length c (k + 1) ((k : Int) + 1) (by omega) hlt
          by_cases hpq : q.1 ≤ p.1
          · have HN : Hid (validV v = false) := bad_pair hlt (by rw [← HP.out, ← HQ.out]; exact hpq)
            have hd : decide (q.1 ≤ p.1) = true := by simpa using hpq
            replace q0 := cellG q0
            replace q1 := cellG q1
            replace p0 := cellG p0
            replace p1 := cellG p1
            go_wp2_with fail
            refine wp_region_quiet_grown mixed (by kernel_rfl) ?_
            repeat (first | go_big_quiet_skip | (go_big_quiet_want; go_big_quiet_op; go_big_quiet_on))
            go_big_quiet_want
            go_big_quiet_op
            go_big_quiet_call ((go_at_call 59; exact HG.out _ _ _))
            repeat (first | go_big_quiet_skip | (go_big_quiet_want; go_big_quiet_op; go_big_quiet_on))
            refine wpQuiet_nil ?_
            intro _ hw'
            obtain ⟨⟨nq, osq⟩, hw''⟩ := hw'
            subst hw''
            go_wp2_with fail
            go_ret
            exact ⟨by rw [HN.out]; rfl, lays_tr hh.out ⟨_, _, rfl⟩⟩
          · have hd : decide (q.1 ≤ p.1) = false := by simpa using hpq
            have HPQ := Lib.hid hpq
            replace q0 := cellG q0
            replace q1 := cellG q1
            replace p0 := cellG p0
            replace p1 := cellG p1
            go_wp2_with fail
            refine wp_region_quiet_grown mixed (by kernel_rfl) ?_
            repeat (first | go_big_quiet_skip | (go_big_quiet_want; go_big_quiet_op; go_big_quiet_on))
            go_big_quiet_want
            go_big_quiet_op
            go_big_quiet_call ((go_at_call 59; exact HG.out _ _ _))
            repeat (first | go_big_quiet_skip | (go_big_quiet_want; go_big_quiet_op; go_big_quiet_on))
            refine wpQuiet_nil ?_
            intro _ hw'
            obtain ⟨⟨nq, osq⟩, hw''⟩ := hw'
            subst hw''
            go_wp2_with fail
            go_roundw
            case rel =>
              refine ⟨k + 2, by omega, by go_num, lays_tr hh.out ⟨_, _, rfl⟩, HVq, fun j hj hjk => ?_⟩
              by_cases hjk2 : j = k
              · subst hjk2; rw [← HP.out, ← HQ.out]; have := HPQ.out; omega
              · exact HI.out j hj (by omega)
            case measure => simp [intOf]; omega
    · have HN : Hid (validV v = true) := good_all (fun j hj => HV.out j hj (by omega)) (fun j hj => HI.out j hj (by omega))
      have hend : ¬ (k : Int) < (v.length : Int) := by omega
      go_wp2_with fail
      go_ret
      exact ⟨by rw [HN.out]; rfl, hh.out⟩

set_option maxRecDepth 100000 in
set_option maxHeartbeats 1000000 in
theorem validV_any (v : List Dt) (a : Option Addr) (c : Nat) (w : World) (hx : RowD w a v) (hlx : v.length ≤ 140737488355328) :
    Calls Try.prog 42 #[.slice a v.length c] w fun e w' => e = .returned (.bool (validV v)) ∧ Lays w w' := by
  have HX := Lib.hid hx
  have hli : (v.length : Int) ≤ 140737488355328 := by omega
  clear hx hlx
  go_enter Try.func42, Try.ntmps42
  go_wp2_with fail
  go_loopw [7, 3, 4] (fun i _ _ wr => ∃ k : Nat, k ≤ v.length ∧ i = .int .i64 (k : Int) ∧ Hid (Lays w wr) ∧ Hid (∀ j (hj : j < v.length), j < k → validR v[j] = true) ∧ Hid (∀ j (hj : j + 1 < v.length), j + 1 < k → v[j].1 < v[j + 1].1)) (fun i _ _ _ => v.length - (intOf i).toNat)
  case atStart => exact ⟨0, Nat.zero_le _, rfl, lays_refl _, fun j _ h => by omega, fun j _ h => by omega⟩
  case round =>
    obtain ⟨k, hk, rfl, hh, HV, HI⟩ := hrel
    by_cases hlt : k < v.length
    · have mixed := mixed
      have hi0 : (k : Int) < (v.length : Int) := by omega
      obtain ⟨b2, o2, rfl, q0, q1⟩ := HX.out.get hh.out.bel k hlt
      obtain ⟨q, hq⟩ : ∃ q, q = v[k] := ⟨_, rfl⟩
      rw [← hq] at q0 q1
      have HQ := Lib.hid hq
      clear hq
      have HG := Lib.hid (fun W n os => validG q W n os)
      rcases hb : validR q with _ | _
      · have HN : Hid (validV v = false) := bad_at hlt (by rw [← HQ.out]; exact hb)
        rw [hb] at HG
        clear hb
        go_wp2_with fail
        have r0 : (wr.alloc (Obj.cells #[Value.int IntKind.i64 q.1, Value.int IntKind.i64 q.2] 38)).cell? ⟨wr.heap.size, 0, none⟩ = some (.int .i64 q.1) := by go_simp
        have r1 : (wr.alloc (Obj.cells #[Value.int IntKind.i64 q.1, Value.int IntKind.i64 q.2] 38)).cell? ⟨wr.heap.size, 1, none⟩ = some (.int .i64 q.2) := by go_simp
        have hL2 : Lays w (wr.alloc (Obj.cells #[Value.int IntKind.i64 q.1, Value.int IntKind.i64 q.2] 38)) := lays_tr hh.out (lays_alloc _ _)
        generalize hw2 : (wr.alloc (Obj.cells #[Value.int IntKind.i64 q.1, Value.int IntKind.i64 q.2] 38)) = w2 at *
        have HL2 := Lib.hid hL2
        clear hL2 hw2
        replace r0 := cellG r0
        replace r1 := cellG r1
        refine wp_region_quiet_grown mixed (by kernel_rfl) ?_
        repeat (first | go_big_quiet_skip | (go_big_quiet_want; go_big_quiet_op; go_big_quiet_on))
        go_big_quiet_want
        go_big_quiet_op
        go_big_quiet_call ((go_at_call 57; exact HG.out _ _ _))
        repeat (first | go_big_quiet_skip | (go_big_quiet_want; go_big_quiet_op; go_big_quiet_on))
        refine wpQuiet_nil ?_
        intro _ hw'
        obtain ⟨⟨nq, osq⟩, hw''⟩ := hw'
        subst hw''
        go_wp2_with fail
        go_ret
        exact ⟨by rw [HN.out]; rfl, lays_tr HL2.out ⟨_, _, rfl⟩⟩
      · have HVq : Hid (∀ j (hj : j < v.length), j < k + 1 → validR v[j] = true) := fun j hj hjk => by
          by_cases e : j = k
          · subst e; rw [← HQ.out]; exact hb
          · exact HV.out j hj (by omega)
        rw [hb] at HG
        clear hb
        rcases k with _ | k
        · have hg : decide ((0 : Int) < 0) = false := rfl
          simp only [Nat.zero_mul, Nat.add_zero] at q0 q1
          go_wp2_with fail
          have r0 : (wr.alloc (Obj.cells #[Value.int IntKind.i64 q.1, Value.int IntKind.i64 q.2] 38)).cell? ⟨wr.heap.size, 0, none⟩ = some (.int .i64 q.1) := by go_simp
          have r1 : (wr.alloc (Obj.cells #[Value.int IntKind.i64 q.1, Value.int IntKind.i64 q.2] 38)).cell? ⟨wr.heap.size, 1, none⟩ = some (.int .i64 q.2) := by go_simp
          have hL2 : Lays w (wr.alloc (Obj.cells #[Value.int IntKind.i64 q.1, Value.int IntKind.i64 q.2] 38)) := lays_tr hh.out (lays_alloc _ _)
          generalize hw2 : (wr.alloc (Obj.cells #[Value.int IntKind.i64 q.1, Value.int IntKind.i64 q.2] 38)) = w2 at *
          have HL2 := Lib.hid hL2
          clear hL2 hw2
          replace r0 := cellG r0
          replace r1 := cellG r1
          refine wp_region_quiet_grown mixed (by kernel_rfl) ?_
          repeat (first | go_big_quiet_skip | (go_big_quiet_want; go_big_quiet_op; go_big_quiet_on))
          go_big_quiet_want
          go_big_quiet_op
          go_big_quiet_call ((go_at_call 57; exact HG.out _ _ _))
          repeat (first | go_big_quiet_skip | (go_big_quiet_want; go_big_quiet_op; go_big_quiet_on))
          refine wpQuiet_nil ?_
          intro _ hw'
          obtain ⟨⟨nq, osq⟩, hw''⟩ := hw'
          subst hw''
          go_wp2_with fail
          go_roundw
          case rel => exact ⟨1, by omega, by go_num, lays_tr HL2.out ⟨_, _, rfl⟩, HVq, fun j hj hjk => by omega⟩
          case measure => simp [intOf]; omega
        · have hlt0 : k < v.length := by omega
          have hi3 : (0 : Int) < (k : Int) + 1 := by omega
          have hg : decide ((0 : Int) < (k : Int) + 1) = true := by rw [decide_eq_true_eq]; exact hi3
          obtain ⟨b1, o1, e2, p0, p1⟩ := HX.out.get hh.out.bel k hlt0
          cases e2
          obtain ⟨p, hp⟩ : ∃ p, p = v[k] := ⟨_, rfl⟩
          rw [← hp] at p0 p1
          have HP := Lib.hid hp
          clear hp
          have hwr := wrap_nat (show (k : Int) ≤ 140737488355328 by omega)
          have hix := ix_vec b2 o2 v.length c k (k : Int) rfl hlt0
          have hix2 := ix_vec b2 o2 v.length c (k + 1) ((k : Int) + 1) (by omega) hlt
          by_cases hpq : q.1 ≤ p.1
          · have HN : Hid (validV v = false) := bad_pair hlt (by rw [← HP.out, ← HQ.out]; exact hpq)
            have hd : decide (q.1 ≤ p.1) = true := by simpa using hpq
            go_wp2_with fail
            have r0 : (wr.alloc (Obj.cells #[Value.int IntKind.i64 q.1, Value.int IntKind.i64 q.2] 38)).cell? ⟨wr.heap.size, 0, none⟩ = some (.int .i64 q.1) := by go_simp
            have r1 : (wr.alloc (Obj.cells #[Value.int IntKind.i64 q.1, Value.int IntKind.i64 q.2] 38)).cell? ⟨wr.heap.size, 1, none⟩ = some (.int .i64 q.2) := by go_simp
            have hL2 : Lays w (wr.alloc (Obj.cells #[Value.int IntKind.i64 q.1, Value.int IntKind.i64 q.2] 38)) := lays_tr hh.out (lays_alloc _ _)
            replace p0 := (Lib.cell?_alloc_some (Obj.cells #[Value.int IntKind.i64 q.1, Value.int IntKind.i64 q.2] 38) p0)
            replace p1 := Lib.cell?_alloc_some (Obj.cells #[Value.int IntKind.i64 q.1, Value.int IntKind.i64 q.2] 38) p1
            generalize hw2 : (wr.alloc (Obj.cells #[Value.int IntKind.i64 q.1, Value.int IntKind.i64 q.2] 38)) = w2 at *
            have HL2 := Lib.hid hL2
            clear hL2 hw2
            replace r0 := cellG r0
            replace r1 := cellG r1
            replace p0 := cellG p0
            replace p1 := cellG p1
            refine wp_region_quiet_grown mixed (by kernel_rfl) ?_
            repeat (first | go_big_quiet_skip | (go_big_quiet_want; go_big_quiet_op; go_big_quiet_on))
            go_big_quiet_want
            go_big_quiet_op
            go_big_quiet_call ((go_at_call 57; exact HG.out _ _ _))
            repeat (first | go_big_quiet_skip | (go_big_quiet_want; go_big_quiet_op; go_big_quiet_on))
            refine wpQuiet_nil ?_
            intro _ hw'
            obtain ⟨⟨nq, osq⟩, hw''⟩ := hw'
            subst hw''
            go_wp2_with fail
            go_ret
            exact ⟨by rw [HN.out]; rfl, lays_tr HL2.out ⟨_, _, rfl⟩⟩
          · have hd : decide (q.1 ≤ p.1) = false := by simpa using hpq
            have HPQ := Lib.hid hpq
            go_wp2_with fail
            have r0 : (wr.alloc (Obj.cells #[Value.int IntKind.i64 q.1, Value.int IntKind.i64 q.2] 38)).cell? ⟨wr.heap.size, 0, none⟩ = some (.int .i64 q.1) := by go_simp
            have r1 : (wr.alloc (Obj.cells #[Value.int IntKind.i64 q.1, Value.int IntKind.i64 q.2] 38)).cell? ⟨wr.heap.size, 1, none⟩ = some (.int .i64 q.2) := by go_simp
            have hL2 : Lays w (wr.alloc (Obj.cells #[Value.int IntKind.i64 q.1, Value.int IntKind.i64 q.2] 38)) := lays_tr hh.out (lays_alloc _ _)
            replace p0 := (Lib.cell?_alloc_some (Obj.cells #[Value.int IntKind.i64 q.1, Value.int IntKind.i64 q.2] 38) p0)
            replace p1 := Lib.cell?_alloc_some (Obj.cells #[Value.int IntKind.i64 q.1, Value.int IntKind.i64 q.2] 38) p1
            generalize hw2 : (wr.alloc (Obj.cells #[Value.int IntKind.i64 q.1, Value.int IntKind.i64 q.2] 38)) = w2 at *
            have HL2 := Lib.hid hL2
            clear hL2 hw2
            replace r0 := cellG r0
            replace r1 := cellG r1
            replace p0 := cellG p0
            replace p1 := cellG p1
            refine wp_region_quiet_grown mixed (by kernel_rfl) ?_
            repeat (first | go_big_quiet_skip | (go_big_quiet_want; go_big_quiet_op; go_big_quiet_on))
            go_big_quiet_want
            go_big_quiet_op
            go_big_quiet_call ((go_at_call 57; exact HG.out _ _ _))
            repeat (first | go_big_quiet_skip | (go_big_quiet_want; go_big_quiet_op; go_big_quiet_on))
            refine wpQuiet_nil ?_
            intro _ hw'
            obtain ⟨⟨nq, osq⟩, hw''⟩ := hw'
            subst hw''
            go_wp2_with fail
            go_roundw
            case rel =>
              refine ⟨k + 2, by omega, by go_num, lays_tr HL2.out ⟨_, _, rfl⟩, HVq, fun j hj hjk => ?_⟩
              by_cases hjk2 : j = k
              · subst hjk2; rw [← HP.out, ← HQ.out]; have := HPQ.out; omega
              · exact HI.out j hj (by omega)
            case measure => simp [intOf]; omega
    · have HN : Hid (validV v = true) := good_all (fun j hj => HV.out j hj (by omega)) (fun j hj => HI.out j hj (by omega))
      have hend : ¬ (k : Int) < (v.length : Int) := by omega
      go_wp2_with fail
      go_ret
      exact ⟨by rw [HN.out]; rfl, hh.out⟩
end Go.Proofs.Ytefnoajkdhgonaa.E
