/-
  Which dots are valid: nothing but new blocks; the counter of a replica, the program's and the reference's.
-/
import Derived.Test.YtfpfihmihlmobaaGreatDVal
import Derived.Test.YtfpfihmihlmobaaGreatMDRefB
import Derived.Test.YtfpfihmihlmobaaGreatMDText

section
namespace Go.Proofs.YtfpfihmihlmobaaGreat.E
set_option linter.unusedVariables false
open Go.RowKit V Go.Sort D

theorem lays_alloc (w : World) (o : Obj) : Lays w (w.alloc o) := ⟨0, _, by rw [alloc_eq_grow]; rfl⟩
theorem lays_refl (w : World) : Lays w w := ⟨0, #[], by cases w; simp [grow, World.drewN]⟩
theorem lays_tr {a b c : World} (h : Lays a b) (k : Lays b c) : Lays a c := by
  obtain ⟨q, os, rfl⟩ := h
  obtain ⟨q2, os2, rfl⟩ := k
  refine ⟨q + q2, os ++ os2, ?_⟩
  rw [← World.drewN_drewN, ← grow_grow]
  rfl
theorem lays_drewN {a b : World} (h : Lays a b) (n : Nat) : Lays a (b.drewN n) := lays_tr h ⟨n, #[], by cases b; simp [grow, World.drewN]⟩

set_option maxRecDepth 100000 in
set_option maxHeartbeats 1000000 in
theorem valid_lays (d : Dt) (w : World) : Calls Tryz.prog 66 #[dv d] w fun e w' => e = .returned (.bool (validR d)) ∧ Lays w w' := by
  have HE : Hid (validR d = (decide (0 < d.1) && decide (d.1 ≤ 64) && decide (0 < d.2) && decide (d.2 ≤ 4294967295))) := rfl
  obtain ⟨d1, d2⟩ := d
  generalize validR (d1, d2) = R at *
  by_cases h1 : 1 ≤ d1
  · by_cases h2 : d1 ≤ 64
    · by_cases h3 : 1 ≤ d2
      · by_cases h4 : d2 ≤ 4294967295
        · have hR : R = true := by rw [HE.out]; simp; omega
          clear HE
          subst hR
          go_enter Tryz.func66, Tryz.ntmps66
          go_wp2_with fail
          go_ret
          exact ⟨rfl, lays_alloc _ _⟩
        · have hR : R = false := by rw [HE.out]; simp; omega
          clear HE
          subst hR
          go_enter Tryz.func66, Tryz.ntmps66
          go_wp2_with fail
          go_ret
          exact ⟨rfl, lays_alloc _ _⟩
      · have hR : R = false := by rw [HE.out]; simp; omega
        clear HE
        subst hR
        go_enter Tryz.func66, Tryz.ntmps66
        go_wp2_with fail
        go_ret
        exact ⟨rfl, lays_alloc _ _⟩
    · have hR : R = false := by rw [HE.out]; simp; omega
      clear HE
      subst hR
      go_enter Tryz.func66, Tryz.ntmps66
      go_wp2_with fail
      go_ret
      exact ⟨rfl, lays_alloc _ _⟩
  · have hR : R = false := by rw [HE.out]; simp; omega
    clear HE
    subst hR
    go_enter Tryz.func66, Tryz.ntmps66
    go_wp2_with fail
    go_ret
    exact ⟨rfl, lays_alloc _ _⟩
set_option maxRecDepth 100000 in
set_option maxHeartbeats 1000000 in
theorem valid_lays_ref (d : Dt) (w : World) : Calls Tryz.prog 18 #[dv d] w fun e w' => e = .returned (.bool (validR d)) ∧ Lays w w' := by
  have HE : Hid (validR d = (decide (0 < d.1) && decide (d.1 ≤ 64) && decide (0 < d.2) && decide (d.2 ≤ 4294967295))) := rfl
  obtain ⟨d1, d2⟩ := d
  generalize validR (d1, d2) = R at *
  by_cases h1 : 0 < d1
  · by_cases h2 : d1 ≤ 64
    · by_cases h3 : 0 < d2
      · by_cases h4 : d2 ≤ 4294967295
        · have hR : R = true := by rw [HE.out]; simp; omega
          clear HE
          subst hR
          go_enter Tryz.func18, Tryz.ntmps18
          go_wp2_with fail
          go_ret
          exact ⟨rfl, lays_alloc _ _⟩
        · have hR : R = false := by rw [HE.out]; simp; omega
          clear HE
          subst hR
          go_enter Tryz.func18, Tryz.ntmps18
          go_wp2_with fail
          go_ret
          exact ⟨rfl, lays_alloc _ _⟩
      · have hR : R = false := by rw [HE.out]; simp; omega
        clear HE
        subst hR
        go_enter Tryz.func18, Tryz.ntmps18
        go_wp2_with fail
        go_ret
        exact ⟨rfl, lays_alloc _ _⟩
    · have hR : R = false := by rw [HE.out]; simp; omega
      clear HE
      subst hR
      go_enter Tryz.func18, Tryz.ntmps18
      go_wp2_with fail
      go_ret
      exact ⟨rfl, lays_alloc _ _⟩
  · have hR : R = false := by rw [HE.out]; simp; omega
    clear HE
    subst hR
    go_enter Tryz.func18, Tryz.ntmps18
    go_wp2_with fail
    go_ret
    exact ⟨rfl, lays_alloc _ _⟩
theorem validG (d : Dt) (W : World) (n : Nat) (os : Array Obj) : Calls Tryz.prog 66 #[dv d] (grow (W.drewN n) os) fun e w'' => e = .returned (.bool (validR d)) ∧ ∃ p : GrownBy, w'' = grow (W.drewN p.n) p.os :=
  Calls.grown_of (valid_lays d _)
theorem validG_ref (d : Dt) (W : World) (n : Nat) (os : Array Obj) : Calls Tryz.prog 18 #[dv d] (grow (W.drewN n) os) fun e w'' => e = .returned (.bool (validR d)) ∧ ∃ p : GrownBy, w'' = grow (W.drewN p.n) p.os :=
  Calls.grown_of (valid_lays_ref d _)

/-! ### The counter of a replica -/
theorem get_pass {v : List Dt} {r : Int} : ∀ {k : Nat}, (∀ j (hj : j < v.length), j < k → v[j].1 ≠ r) → getV v r = getV (v.drop k) r := by
  intro k
  induction k with
  | zero => intro _; rw [List.drop_zero]
  | succ k ih =>
    intro h
    rw [ih fun j hj hjk => h j hj (by omega)]
    by_cases hk : k < v.length
    · rw [List.drop_eq_getElem_cons hk, getV, if_neg (h k hk (by omega))]
    · rw [List.drop_of_length_le (by omega), List.drop_of_length_le (by omega)]
theorem get_here {v : List Dt} {r : Int} {k : Nat} (hk : k < v.length) (h : ∀ j (hj : j < v.length), j < k → v[j].1 ≠ r) (e : v[k].1 = r) : getV v r = v[k].2 := by
  rw [get_pass h, List.drop_eq_getElem_cons hk, getV, if_pos e]
theorem get_away {v : List Dt} {r : Int} (h : ∀ j (hj : j < v.length), v[j].1 ≠ r) : getV v r = 0 :=
  get_none fun x hx => by
    obtain ⟨j, hj, rfl⟩ := List.mem_iff_getElem.1 hx
    exact h j hj

set_option maxRecDepth 100000 in
set_option maxHeartbeats 1000000 in
theorem get_ref (v : List Dt) (r : Int) (a : Option Addr) (c : Nat) (w : World) (hx : RowD w a v) (hlx : v.length ≤ 140737488355328) :
    Calls Tryz.prog 111 #[.slice a v.length c, .int .i64 r] w fun e w' => e = .returned (.int .i64 (getV v r)) ∧ Lays w w' := by
  have HX := Lib.hid hx
  have hli : (v.length : Int) ≤ 140737488355328 := by omega
  clear hx hlx
  go_enter Tryz.func111, Tryz.ntmps111
  go_wp2_with fail
  go_loopw [5] (fun i wr => ∃ k : Nat, k ≤ v.length ∧ i = .int .i64 k ∧ Hid (Lays w wr) ∧ Hid (∀ j (hj : j < v.length), j < k → v[j].1 ≠ r)) (fun i _ => v.length - (intOf i).toNat)
  case atStart => exact ⟨0, Nat.zero_le _, rfl, lays_refl _, fun j _ h => by omega⟩
  case round =>
    obtain ⟨k, hk, rfl, hh, HV⟩ := hrel
    by_cases hlt : k < v.length
    · obtain ⟨b1, o1, rfl, p0, p1⟩ := HX.out.get hh.out.bel k hlt
      obtain ⟨p, hp⟩ : ∃ p, p = v[k] := ⟨_, rfl⟩
      rw [← hp] at p0 p1
      have HP := Lib.hid hp
      clear hp
      by_cases hpq : p.1 = r
      · have HN : Hid (getV v r = p.2) := by
          show _ = _
          rw [HP.out]
          exact get_here hlt HV.out (by rw [← HP.out]; exact hpq)
        obtain ⟨p1', p2'⟩ := p
        simp only at hpq p0 p1
        subst hpq
        go_wp2_with fail
        go_ret
        exact ⟨by rw [HN.out]; rfl, hh.out⟩
      · have hne : (p.1 == r) = false := by rw [beq_eq_false_iff_ne]; exact hpq
        go_wp2_with fail
        go_roundw
        case rel =>
          refine ⟨k + 1, by omega, by go_num, hh, fun j hj hjk => ?_⟩
          by_cases hjk2 : j = k
          · subst hjk2; rw [← HP.out]; exact hpq
          · exact HV.out j hj (by omega)
        case measure => simp [intOf]; omega
    · have HN : Hid (getV v r = 0) := get_away fun j hj => HV.out j hj (by omega)
      have hend : ¬ (k : Int) < (v.length : Int) := by omega
      go_wp2_with fail
      go_ret
      exact ⟨by rw [HN.out]; rfl, hh.out⟩

set_option maxRecDepth 100000 in
set_option maxHeartbeats 1000000 in
theorem get_any (v : List Dt) (r : Int) (a : Option Addr) (c : Nat) (w : World) (hx : RowD w a v) (hlx : v.length ≤ 140737488355328) :
    Calls Tryz.prog 114 #[.slice a v.length c, .int .i64 r] w fun e w' => e = .returned (.int .i64 (getV v r)) ∧ Lays w w' := by
  have HX := Lib.hid hx
  have hli : (v.length : Int) ≤ 140737488355328 := by omega
  clear hx hlx
  go_enter Tryz.func114, Tryz.ntmps114
  go_wp2_with fail
  go_loopw [9, 6] (fun i _ wr => ∃ k : Nat, k ≤ v.length ∧ i = .int .i64 k ∧ Hid (Lays w wr) ∧ Hid (∀ j (hj : j < v.length), j < k → v[j].1 ≠ r)) (fun i _ _ => v.length - (intOf i).toNat)
  case atStart => exact ⟨0, Nat.zero_le _, rfl, lays_refl _, fun j _ h => by omega⟩
  case round =>
    obtain ⟨k, hk, rfl, hh, HV⟩ := hrel
    by_cases hlt : k < v.length
    · obtain ⟨b1, o1, rfl, p0, p1⟩ := HX.out.get hh.out.bel k hlt
      obtain ⟨p, hp⟩ : ∃ p, p = v[k] := ⟨_, rfl⟩
      rw [← hp] at p0 p1
      have HP := Lib.hid hp
      clear hp
      by_cases hpq : p.1 = r
      · have HN : Hid (getV v r = p.2) := by
          show _ = _
          rw [HP.out]
          exact get_here hlt HV.out (by rw [← HP.out]; exact hpq)
        obtain ⟨p1', p2'⟩ := p
        simp only at hpq p0 p1
        subst hpq
        go_wp2_with fail
        go_ret
        exact ⟨by rw [HN.out]; rfl, lays_tr hh.out (lays_alloc _ _)⟩
      · have hne : (p.1 == r) = false := by rw [beq_eq_false_iff_ne]; exact hpq
        go_wp2_with fail
        go_roundw
        case rel =>
          refine ⟨k + 1, by omega, by go_num, lays_tr hh.out (lays_alloc _ _), fun j hj hjk => ?_⟩
          by_cases hjk2 : j = k
          · subst hjk2; rw [← HP.out]; exact hpq
          · exact HV.out j hj (by omega)
        case measure => simp [intOf]; omega
    · have HN : Hid (getV v r = 0) := get_away fun j hj => HV.out j hj (by omega)
      have hend : ¬ (k : Int) < (v.length : Int) := by omega
      go_wp2_with fail
      go_ret
      exact ⟨by rw [HN.out]; rfl, hh.out⟩
theorem getG (v : List Dt) (r : Int) (a : Option Addr) (c : Nat) (W : World) (hx : RowD W a v) (hlx : v.length ≤ 140737488355328) (n : Nat) (os : Array Obj) :
    Calls Tryz.prog 114 #[.slice a v.length c, .int .i64 r] (grow (W.drewN n) os) fun e w'' => e = .returned (.int .i64 (getV v r)) ∧ ∃ p : GrownBy, w'' = grow (W.drewN p.n) p.os :=
  Calls.grown_of (get_any v r a c _ (hx.keep (bel_grown (Below.refl _ _) (Nat.le_refl _) n os)) hlx)
theorem getG_ref (v : List Dt) (r : Int) (a : Option Addr) (c : Nat) (W : World) (hx : RowD W a v) (hlx : v.length ≤ 140737488355328) (n : Nat) (os : Array Obj) :
    Calls Tryz.prog 111 #[.slice a v.length c, .int .i64 r] (grow (W.drewN n) os) fun e w'' => e = .returned (.int .i64 (getV v r)) ∧ ∃ p : GrownBy, w'' = grow (W.drewN p.n) p.os :=
  Calls.grown_of (get_ref v r a c _ (hx.keep (bel_grown (Below.refl _ _) (Nat.le_refl _) n os)) hlx)
end Go.Proofs.YtfpfihmihlmobaaGreat.E
end

/-
  Whether a dot is in a vector, and whether a vector is valid: the program's and the reference's.
-/
section
namespace Go.Proofs.YtfpfihmihlmobaaGreat.E
set_option linter.unusedVariables false
open Go.RowKit V Go.Sort D

set_option maxRecDepth 100000 in
set_option maxHeartbeats 1000000 in
theorem has_any (v : List Dt) (d : Dt) (a : Option Addr) (c : Nat) (w : World) (hx : RowD w a v) (hlx : v.length ≤ 140737488355328) :
    Calls Tryz.prog 92 #[.slice a v.length c, dv d] w fun e w' => e = .returned (.bool (hasV v d)) ∧ Lays w w' := by
  have HE : Hid (hasV v d = (validR d && decide (d.2 ≤ getV v d.1))) := rfl
  have hB : Lays w (w.alloc (Obj.cells #[.int .i64 d.1, .int .i64 d.2] 33)) := lays_alloc _ _
  have HV := Lib.hid (fun W n os => validG d W n os)
  have HG := Lib.hid (fun n os => getG v d.1 a c _ (hx.keep hB.bel) hlx n os)
  have k0 : (w.alloc (Obj.cells #[Value.int IntKind.i64 d.1, Value.int IntKind.i64 d.2] 33)).cell? ⟨w.heap.size, 0, none⟩ = some (.int .i64 d.1) := by go_simp
  have k1 : (w.alloc (Obj.cells #[Value.int IntKind.i64 d.1, Value.int IntKind.i64 d.2] 33)).cell? ⟨w.heap.size, 1, none⟩ = some (.int .i64 d.2) := by go_simp
  have HB := Lib.hid hB
  replace k0 := cellG k0
  replace k1 := cellG k1
  clear hB hx hlx
  obtain ⟨d1, d2⟩ := d
  generalize hasV v (d1, d2) = R at *
  have mixed := mixed
  simp only at *
  rcases hv : validR (d1, d2) with _ | _
  · have hR : R = false := by rw [HE.out, hv]; rfl
    rw [hv] at HV
    clear HE hv HG
    subst hR
    go_enter Tryz.func92, Tryz.ntmps92
    go_wp2_with fail
    generalize w.alloc (Obj.cells #[Value.int IntKind.i64 d1, Value.int IntKind.i64 d2] 33) = w1 at *
    refine wp_region_quiet_grown mixed (by kernel_rfl) ?_
    repeat (first | go_big_quiet_skip | (go_big_quiet_want; go_big_quiet_op; go_big_quiet_on))
    go_big_quiet_want
    go_big_quiet_op
    go_big_quiet_call ((go_at_call 66; exact HV.out _ _ _))
    repeat (first | go_big_quiet_skip | (go_big_quiet_want; go_big_quiet_op; go_big_quiet_on))
    refine wpQuiet_nil ?_
    intro _ hw'
    obtain ⟨⟨nq, osq⟩, hw''⟩ := hw'
    subst hw''
    go_wp2_with fail
    go_ret
    exact ⟨rfl, lays_tr HB.out ⟨_, _, rfl⟩⟩
  · have hR : R = decide (d2 ≤ getV v d1) := by rw [HE.out, hv]; rfl
    rw [hv] at HV
    clear HE hv
    generalize getV v d1 = g at *
    subst hR
    go_enter Tryz.func92, Tryz.ntmps92
    go_wp2_with fail
    generalize w.alloc (Obj.cells #[Value.int IntKind.i64 d1, Value.int IntKind.i64 d2] 33) = w1 at *
    refine wp_region_quiet_grown mixed (by kernel_rfl) ?_
    repeat (first | go_big_quiet_skip | (go_big_quiet_want; go_big_quiet_op; go_big_quiet_on))
    go_big_quiet_want
    go_big_quiet_op
    go_big_quiet_call ((go_at_call 66; exact HV.out _ _ _))
    repeat (first | go_big_quiet_skip | (go_big_quiet_want; go_big_quiet_op; go_big_quiet_on))
    go_big_quiet_want
    go_big_quiet_op
    go_big_quiet_call ((go_at_call 114; exact HG.out _ _))
    repeat (first | go_big_quiet_skip | (go_big_quiet_want; go_big_quiet_op; go_big_quiet_on))
    refine wpQuiet_nil ?_
    intro _ hw'
    obtain ⟨⟨nq, osq⟩, hw''⟩ := hw'
    subst hw''
    go_wp2_with fail
    go_ret
    exact ⟨rfl, lays_tr HB.out ⟨_, _, rfl⟩⟩
set_option maxRecDepth 100000 in
set_option maxHeartbeats 1000000 in
theorem has_ref (v : List Dt) (d : Dt) (a : Option Addr) (c : Nat) (w : World) (hx : RowD w a v) (hlx : v.length ≤ 140737488355328) :
    Calls Tryz.prog 110 #[.slice a v.length c, dv d] w fun e w' => e = .returned (.bool (hasV v d)) ∧ Lays w w' := by
  have HE : Hid (hasV v d = (validR d && decide (d.2 ≤ getV v d.1))) := rfl
  have hB : Lays w (w.alloc (Obj.cells #[.int .i64 d.1, .int .i64 d.2] 33)) := lays_alloc _ _
  have HV := Lib.hid (fun W n os => validG_ref d W n os)
  have HG := Lib.hid (fun n os => getG_ref v d.1 a c _ (hx.keep hB.bel) hlx n os)
  have k0 : (w.alloc (Obj.cells #[Value.int IntKind.i64 d.1, Value.int IntKind.i64 d.2] 33)).cell? ⟨w.heap.size, 0, none⟩ = some (.int .i64 d.1) := by go_simp
  have k1 : (w.alloc (Obj.cells #[Value.int IntKind.i64 d.1, Value.int IntKind.i64 d.2] 33)).cell? ⟨w.heap.size, 1, none⟩ = some (.int .i64 d.2) := by go_simp
  have HB := Lib.hid hB
  replace k0 := cellG k0
  replace k1 := cellG k1
  clear hB hx hlx
  obtain ⟨d1, d2⟩ := d
  generalize hasV v (d1, d2) = R at *
  have mixed := mixed
  simp only at *
  rcases hv : validR (d1, d2) with _ | _
  · have hR : R = false := by rw [HE.out, hv]; rfl
    rw [hv] at HV
    clear HE hv HG
    subst hR
    go_enter Tryz.func110, Tryz.ntmps110
    go_wp2_with fail
    generalize w.alloc (Obj.cells #[Value.int IntKind.i64 d1, Value.int IntKind.i64 d2] 33) = w1 at *
    refine wp_region_quiet_grown mixed (by kernel_rfl) ?_
    repeat (first | go_big_quiet_skip | (go_big_quiet_want; go_big_quiet_op; go_big_quiet_on))
    go_big_quiet_want
    go_big_quiet_op
    go_big_quiet_call ((go_at_call 18; exact HV.out _ _ _))
    repeat (first | go_big_quiet_skip | (go_big_quiet_want; go_big_quiet_op; go_big_quiet_on))
    refine wpQuiet_nil ?_
    intro _ hw'
    obtain ⟨⟨nq, osq⟩, hw''⟩ := hw'
    subst hw''
    go_wp2_with fail
    go_ret
    exact ⟨rfl, lays_tr HB.out ⟨_, _, rfl⟩⟩
  · have hR : R = decide (d2 ≤ getV v d1) := by rw [HE.out, hv]; rfl
    rw [hv] at HV
    clear HE hv
    generalize getV v d1 = g at *
    subst hR
    go_enter Tryz.func110, Tryz.ntmps110
    go_wp2_with fail
    generalize w.alloc (Obj.cells #[Value.int IntKind.i64 d1, Value.int IntKind.i64 d2] 33) = w1 at *
    refine wp_region_quiet_grown mixed (by kernel_rfl) ?_
    repeat (first | go_big_quiet_skip | (go_big_quiet_want; go_big_quiet_op; go_big_quiet_on))
    go_big_quiet_want
    go_big_quiet_op
    go_big_quiet_call ((go_at_call 18; exact HV.out _ _ _))
    repeat (first | go_big_quiet_skip | (go_big_quiet_want; go_big_quiet_op; go_big_quiet_on))
    go_big_quiet_want
    go_big_quiet_op
    go_big_quiet_call ((go_at_call 111; exact HG.out _ _))
    repeat (first | go_big_quiet_skip | (go_big_quiet_want; go_big_quiet_op; go_big_quiet_on))
    refine wpQuiet_nil ?_
    intro _ hw'
    obtain ⟨⟨nq, osq⟩, hw''⟩ := hw'
    subst hw''
    go_wp2_with fail
    go_ret
    exact ⟨rfl, lays_tr HB.out ⟨_, _, rfl⟩⟩

/-! ### Valid vectors -/
theorem bad_at {v : List Dt} {k : Nat} (hk : k < v.length) (h : validR v[k] = false) : validV v = false := by
  rw [← Bool.not_eq_true, valid_vd]
  intro hv
  have := hv.1 v[k] (List.getElem_mem hk)
  rw [h] at this
  cases this
theorem bad_pair {v : List Dt} {k : Nat} (hk : k + 1 < v.length) (h : v[k + 1].1 ≤ v[k].1) : validV v = false := by
  rw [← Bool.not_eq_true, valid_vd]
  intro hv
  have := List.pairwise_iff_getElem.1 hv.2 k (k + 1) (by omega) hk (by omega)
  omega
theorem good_all : ∀ {v : List Dt}, (∀ j (hj : j < v.length), validR v[j] = true) → (∀ j (hj : j + 1 < v.length), v[j].1 < v[j + 1].1) → validV v = true
  | [], _, _ => rfl
  | [a], h, _ => h 0 (by simp)
  | a :: b :: t, h, g => by
    have h0 : validR a = true := h 0 (by simp)
    rw [validV, h0, good_all (v := b :: t) (fun j hj => h (j + 1) (by simpa using hj)) (fun j hj => g (j + 1) (by simpa using hj))]
    simpa using g 0 (by simp)

theorem ix_vec (b o n c k : Nat) (z : Int) (hz : z = (k : Int)) (hk : k < n) : ∀ w, (Instr.indexAt 49 (.slice (some ⟨b, o, none⟩) n c) (.int .i64 z)).run Tryz.prog w = .ok (.pointer (some ⟨b, o + k * 2, none⟩)) w := by
  intro w
  subst hz
  have hk2 : (k : Int) < (n : Int) := by omega
  go_simp

set_option maxRecDepth 100000 in
set_option maxHeartbeats 1000000 in
theorem validV_ref (v : List Dt) (a : Option Addr) (c : Nat) (w : World) (hx : RowD w a v) (hlx : v.length ≤ 140737488355328) :
    Calls Tryz.prog 128 #[.slice a v.length c] w fun e w' => e = .returned (.bool (validV v)) ∧ Lays w w' := by
  have HX := Lib.hid hx
  have hli : (v.length : Int) ≤ 140737488355328 := by omega
  clear hx hlx
  go_enter Tryz.func128, Tryz.ntmps128
  go_wp2_with fail
  go_loopw [3] (fun i  wr => ∃ k : Nat, k ≤ v.length ∧ i = .int .i64 (k : Int) ∧ Hid (Lays w wr) ∧ Hid (∀ j (hj : j < v.length), j < k → validR v[j] = true) ∧ Hid (∀ j (hj : j + 1 < v.length), j + 1 < k → v[j].1 < v[j + 1].1)) (fun i  _ => v.length - (intOf i).toNat)
  case atStart => exact ⟨0, Nat.zero_le _, rfl, lays_refl _, fun j _ h => by omega, fun j _ h => by omega⟩
  case round =>
    obtain ⟨k, hk, rfl, hh, HV, HI⟩ := hrel
    by_cases hlt : k < v.length
    · have mixed := mixed
      have hi0 : (k : Int) < (v.length : Int) := by omega
      obtain ⟨b2, o2, rfl, q0, q1⟩ := HX.out.get hh.out.bel k hlt
      obtain ⟨q, hq⟩ : ∃ q, q = v[k] := ⟨_, rfl⟩
      rw [← hq] at q0 q1
      have HQ := Lib.hid hq
      clear hq
      have HG := Lib.hid (fun W n os => validG_ref q W n os)
      rcases hb : validR q with _ | _
      · have HN : Hid (validV v = false) := bad_at hlt (by rw [← HQ.out]; exact hb)
        rw [hb] at HG
        clear hb
        replace q0 := cellG q0
        replace q1 := cellG q1
        go_wp2_with fail
        refine wp_region_quiet_grown mixed (by kernel_rfl) ?_
        repeat (first | go_big_quiet_skip | (go_big_quiet_want; go_big_quiet_op; go_big_quiet_on))
        go_big_quiet_want
        go_big_quiet_op
        go_big_quiet_call ((go_at_call 18; exact HG.out _ _ _))
        repeat (first | go_big_quiet_skip | (go_big_quiet_want; go_big_quiet_op; go_big_quiet_on))
        refine wpQuiet_nil ?_
        intro _ hw'
        obtain ⟨⟨nq, osq⟩, hw''⟩ := hw'
        subst hw''
        go_wp2_with fail
        go_ret
        exact ⟨by rw [HN.out]; rfl, lays_tr hh.out ⟨_, _, rfl⟩⟩
      · have HVq : Hid (∀ j (hj : j < v.length), j < k + 1 → validR v[j] = true) := fun j hj hjk => by
          by_cases e : j = k
          · subst e; rw [← HQ.out]; exact hb
          · exact HV.out j hj (by omega)
        rw [hb] at HG
        clear hb
        rcases k with _ | k
        · have hg : decide ((0 : Int) < 0) = false := rfl
          simp only [Nat.zero_mul, Nat.add_zero] at q0 q1
          replace q0 := cellG q0
          replace q1 := cellG q1
          go_wp2_with fail
          refine wp_region_quiet_grown mixed (by kernel_rfl) ?_
          repeat (first | go_big_quiet_skip | (go_big_quiet_want; go_big_quiet_op; go_big_quiet_on))
          go_big_quiet_want
          go_big_quiet_op
          go_big_quiet_call ((go_at_call 18; exact HG.out _ _ _))
          repeat (first | go_big_quiet_skip | (go_big_quiet_want; go_big_quiet_op; go_big_quiet_on))
          refine wpQuiet_nil ?_
          intro _ hw'
          obtain ⟨⟨nq, osq⟩, hw''⟩ := hw'
          subst hw''
          go_wp2_with fail
          go_roundw
          case rel => exact ⟨1, by omega, by go_num, lays_tr hh.out ⟨_, _, rfl⟩, HVq, fun j hj hjk => by omega⟩
          case measure => simp [intOf]; omega
        · have hlt0 : k < v.length := by omega
          have hi3 : (0 : Int) < (k : Int) + 1 := by omega
          have hg : decide ((0 : Int) < (k : Int) + 1) = true := by rw [decide_eq_true_eq]; exact hi3
          obtain ⟨b1, o1, e2, p0, p1⟩ := HX.out.get hh.out.bel k hlt0
          cases e2
          obtain ⟨p, hp⟩ : ∃ p, p = v[k] := ⟨_, rfl⟩
          rw [← hp] at p0 p1
          have HP := Lib.hid hp
          clear hp
          have hwr := wrap_nat (show (k : Int) ≤ 140737488355328 by omega)
          have hix := ix_vec b2 o2 v.length c k (k : Int) rfl hlt0
          have hix2 := ix_vec b2 o2 v.length c (k + 1) ((k : Int) + 1) (by omega) hlt
          by_cases hpq : q.1 ≤ p.1
          · have HN : Hid (validV v = false) := bad_pair hlt (by rw [← HP.out, ← HQ.out]; exact hpq)
            have hd : decide (q.1 ≤ p.1) = true := by simpa using hpq
            replace q0 := cellG q0
            replace q1 := cellG q1
            replace p0 := cellG p0
            replace p1 := cellG p1
            go_wp2_with fail
            refine wp_region_quiet_grown mixed (by kernel_rfl) ?_
            repeat (first | go_big_quiet_skip | (go_big_quiet_want; go_big_quiet_op; go_big_quiet_on))
            go_big_quiet_want
            go_big_quiet_op
            go_big_quiet_call ((go_at_call 18; exact HG.out _ _ _))
            repeat (first | go_big_quiet_skip | (go_big_quiet_want; go_big_quiet_op; go_big_quiet_on))
            refine wpQuiet_nil ?_
            intro _ hw'
            obtain ⟨⟨nq, osq⟩, hw''⟩ := hw'
            subst hw''
            go_wp2_with fail
            go_ret
            exact ⟨by rw [HN.out]; rfl, lays_tr hh.out ⟨_, _, rfl⟩⟩
          · have hd : decide (q.1 ≤ p.1) = false := by simpa using hpq
            have HPQ := Lib.hid hpq
            replace q0 := cellG q0
            replace q1 := cellG q1
            replace p0 := cellG p0
            replace p1 := cellG p1
            go_wp2_with fail
            refine wp_region_quiet_grown mixed (by kernel_rfl) ?_
            repeat (first | go_big_quiet_skip | (go_big_quiet_want; go_big_quiet_op; go_big_quiet_on))
            go_big_quiet_want
            go_big_quiet_op
            go_big_quiet_call ((go_at_call 18; exact HG.out _ _ _))
            repeat (first | go_big_quiet_skip | (go_big_quiet_want; go_big_quiet_op; go_big_quiet_on))
            refine wpQuiet_nil ?_
            intro _ hw'
            obtain ⟨⟨nq, osq⟩, hw''⟩ := hw'
            subst hw''
            go_wp2_with fail
            go_roundw
            case rel =>
              refine ⟨k + 2, by omega, by go_num, lays_tr hh.out ⟨_, _, rfl⟩, HVq, fun j hj hjk => ?_⟩
              by_cases hjk2 : j = k
              · subst hjk2; rw [← HP.out, ← HQ.out]; have := HPQ.out; omega
              · exact HI.out j hj (by omega)
            case measure => simp [intOf]; omega
    · have HN : Hid (validV v = true) := good_all (fun j hj => HV.out j hj (by omega)) (fun j hj => HI.out j hj (by omega))
      have hend : ¬ (k : Int) < (v.length : Int) := by omega
      go_wp2_with fail
      go_ret
      exact ⟨by rw [HN.out]; rfl, hh.out⟩

set_option maxRecDepth 100000 in
set_option maxHeartbeats 1000000 in
theorem validV_any (v : List Dt) (a : Option Addr) (c : Nat) (w : World) (hx : RowD w a v) (hlx : v.length ≤ 140737488355328) :
    Calls Tryz.prog 130 #[.slice a v.length c] w fun e w' => e = .returned (.bool (validV v)) ∧ Lays w w' := by
  have HX := Lib.hid hx
  have hli : (v.length : Int) ≤ 140737488355328 := by omega
  clear hx hlx
  go_enter Tryz.func130, Tryz.ntmps130
  go_wp2_with fail
  go_loopw [7, 3, 4] (fun i _ _ wr => ∃ k : Nat, k ≤ v.length ∧ i = .int .i64 (k : Int) ∧ Hid (Lays w wr) ∧ Hid (∀ j (hj : j < v.length), j < k → validR v[j] = true) ∧ Hid (∀ j (hj : j + 1 < v.length), j + 1 < k → v[j].1 < v[j + 1].1)) (fun i _ _ _ => v.length - (intOf i).toNat)
  case atStart => exact ⟨0, Nat.zero_le _, rfl, lays_refl _, fun j _ h => by omega, fun j _ h => by omega⟩
  case round =>
    obtain ⟨k, hk, rfl, hh, HV, HI⟩ := hrel
    by_cases hlt : k < v.length
    · have mixed := mixed
      have hi0 : (k : Int) < (v.length : Int) := by omega
      obtain ⟨b2, o2, rfl, q0, q1⟩ := HX.out.get hh.out.bel k hlt
      obtain ⟨q, hq⟩ : ∃ q, q = v[k] := ⟨_, rfl⟩
      rw [← hq] at q0 q1
      have HQ := Lib.hid hq
      clear hq
      have HG := Lib.hid (fun W n os => validG q W n os)
      rcases hb : validR q with _ | _
      · have HN : Hid (validV v = false) := bad_at hlt (by rw [← HQ.out]; exact hb)
        rw [hb] at HG
        clear hb
        go_wp2_with fail
        have r0 : (wr.alloc (Obj.cells #[Value.int IntKind.i64 q.1, Value.int IntKind.i64 q.2] 33)).cell? ⟨wr.heap.size, 0, none⟩ = some (.int .i64 q.1) := by go_simp
        have r1 : (wr.alloc (Obj.cells #[Value.int IntKind.i64 q.1, Value.int IntKind.i64 q.2] 33)).cell? ⟨wr.heap.size, 1, none⟩ = some (.int .i64 q.2) := by go_simp
        have hL2 : Lays w (wr.alloc (Obj.cells #[Value.int IntKind.i64 q.1, Value.int IntKind.i64 q.2] 33)) := lays_tr hh.out (lays_alloc _ _)
        generalize hw2 : (wr.alloc (Obj.cells #[Value.int IntKind.i64 q.1, Value.int IntKind.i64 q.2] 33)) = w2 at *
        have HL2 := Lib.hid hL2
        clear hL2 hw2
        replace r0 := cellG r0
        replace r1 := cellG r1
        refine wp_region_quiet_grown mixed (by kernel_rfl) ?_
        repeat (first | go_big_quiet_skip | (go_big_quiet_want; go_big_quiet_op; go_big_quiet_on))
        go_big_quiet_want
        go_big_quiet_op
        go_big_quiet_call ((go_at_call 66; exact HG.out _ _ _))
        repeat (first | go_big_quiet_skip | (go_big_quiet_want; go_big_quiet_op; go_big_quiet_on))
        refine wpQuiet_nil ?_
        intro _ hw'
        obtain ⟨⟨nq, osq⟩, hw''⟩ := hw'
        subst hw''
        go_wp2_with fail
        go_ret
        exact ⟨by rw [HN.out]; rfl, lays_tr HL2.out ⟨_, _, rfl⟩⟩
      · have HVq : Hid (∀ j (hj : j < v.length), j < k + 1 → validR v[j] = true) := fun j hj hjk => by
          by_cases e : j = k
          · subst e; rw [← HQ.out]; exact hb
          · exact HV.out j hj (by omega)
        rw [hb] at HG
        clear hb
        rcases k with _ | k
        · have hg : decide ((0 : Int) < 0) = false := rfl
          simp only [Nat.zero_mul, Nat.add_zero] at q0 q1
          go_wp2_with fail
          have r0 : (wr.alloc (Obj.cells #[Value.int IntKind.i64 q.1, Value.int IntKind.i64 q.2] 33)).cell? ⟨wr.heap.size, 0, none⟩ = some (.int .i64 q.1) := by go_simp
          have r1 : (wr.alloc (Obj.cells #[Value.int IntKind.i64 q.1, Value.int IntKind.i64 q.2] 33)).cell? ⟨wr.heap.size, 1, none⟩ = some (.int .i64 q.2) := by go_simp
          have hL2 : Lays w (wr.alloc (Obj.cells #[Value.int IntKind.i64 q.1, Value.int IntKind.i64 q.2] 33)) := lays_tr hh.out (lays_alloc _ _)
          generalize hw2 : (wr.alloc (Obj.cells #[Value.int IntKind.i64 q.1, Value.int IntKind.i64 q.2] 33)) = w2 at *
          have HL2 := Lib.hid hL2
          clear hL2 hw2
          replace r0 := cellG r0
          replace r1 := cellG r1
          refine wp_region_quiet_grown mixed (by kernel_rfl) ?_
          repeat (first | go_big_quiet_skip | (go_big_quiet_want; go_big_quiet_op; go_big_quiet_on))
          go_big_quiet_want
          go_big_quiet_op
          go_big_quiet_call ((go_at_call 66; exact HG.out _ _ _))
          repeat (first | go_big_quiet_skip | (go_big_quiet_want; go_big_quiet_op; go_big_quiet_on))
          refine wpQuiet_nil ?_
          intro _ hw'
          obtain ⟨⟨nq, osq⟩, hw''⟩ := hw'
          subst hw''
          go_wp2_with fail
          go_roundw
          case rel => exact ⟨1, by omega, by go_num, lays_tr HL2.out ⟨_, _, rfl⟩, HVq, fun j hj hjk => by omega⟩
          case measure => simp [intOf]; omega
        · have hlt0 : k < v.length := by omega
          have hi3 : (0 : Int) < (k : Int) + 1 := by omega
          have hg : decide ((0 : Int) < (k : Int) + 1) = true := by rw [decide_eq_true_eq]; exact hi3
          obtain ⟨b1, o1, e2, p0, p1⟩ := HX.out.get hh.out.bel k hlt0
          cases e2
          obtain ⟨p, hp⟩ : ∃ p, p = v[k] := ⟨_, rfl⟩
          rw [← hp] at p0 p1
          have HP := Lib.hid hp
          clear hp
          have hwr := wrap_nat (show (k : Int) ≤ 140737488355328 by omega)
          have hix := ix_vec b2 o2 v.length c k (k : Int) rfl hlt0
          have hix2 := ix_vec b2 o2 v.length c (k + 1) ((k : Int) + 1) (by omega) hlt
          by_cases hpq : q.1 ≤ p.1
          · have HN : Hid (validV v = false) := bad_pair hlt (by rw [← HP.out, ← HQ.out]; exact hpq)
            have hd : decide (q.1 ≤ p.1) = true := by simpa using hpq
            go_wp2_with fail
            have r0 : (wr.alloc (Obj.cells #[Value.int IntKind.i64 q.1, Value.int IntKind.i64 q.2] 33)).cell? ⟨wr.heap.size, 0, none⟩ = some (.int .i64 q.1) := by go_simp
            have r1 : (wr.alloc (Obj.cells #[Value.int IntKind.i64 q.1, Value.int IntKind.i64 q.2] 33)).cell? ⟨wr.heap.size, 1, none⟩ = some (.int .i64 q.2) := by go_simp
            have hL2 : Lays w (wr.alloc (Obj.cells #[Value.int IntKind.i64 q.1, Value.int IntKind.i64 q.2] 33)) := lays_tr hh.out (lays_alloc _ _)
            replace p0 := (Lib.cell?_alloc_some (Obj.cells #[Value.int IntKind.i64 q.1, Value.int IntKind.i64 q.2] 33) p0)
            replace p1 := Lib.cell?_alloc_some (Obj.cells #[Value.int IntKind.i64 q.1, Value.int IntKind.i64 q.2] 33) p1
            generalize hw2 : (wr.alloc (Obj.cells #[Value.int IntKind.i64 q.1, Value.int IntKind.i64 q.2] 33)) = w2 at *
            have HL2 := Lib.hid hL2
            clear hL2 hw2
            replace r0 := cellG r0
            replace r1 := cellG r1
            replace p0 := cellG p0
            replace p1 := cellG p1
            refine wp_region_quiet_grown mixed (by kernel_rfl) ?_
            repeat (first | go_big_quiet_skip | (go_big_quiet_want; go_big_quiet_op; go_big_quiet_on))
            go_big_quiet_want
            go_big_quiet_op
            go_big_quiet_call ((go_at_call 66; exact HG.out _ _ _))
            repeat (first | go_big_quiet_skip | (go_big_quiet_want; go_big_quiet_op; go_big_quiet_on))
            refine wpQuiet_nil ?_
            intro _ hw'
            obtain ⟨⟨nq, osq⟩, hw''⟩ := hw'
            subst hw''
            go_wp2_with fail
            go_ret
            exact ⟨by rw [HN.out]; rfl, lays_tr HL2.out ⟨_, _, rfl⟩⟩
          · have hd : decide (q.1 ≤ p.1) = false := by simpa using hpq
            have HPQ := Lib.hid hpq
            go_wp2_with fail
            have r0 : (wr.alloc (Obj.cells #[Value.int IntKind.i64 q.1, Value.int IntKind.i64 q.2] 33)).cell? ⟨wr.heap.size, 0, none⟩ = some (.int .i64 q.1) := by go_simp
            have r1 : (wr.alloc (Obj.cells #[Value.int IntKind.i64 q.1, Value.int IntKind.i64 q.2] 33)).cell? ⟨wr.heap.size, 1, none⟩ = some (.int .i64 q.2) := by go_simp
            have hL2 : Lays w (wr.alloc (Obj.cells #[Value.int IntKind.i64 q.1, Value.int IntKind.i64 q.2] 33)) := lays_tr hh.out (lays_alloc _ _)
            replace p0 := (Lib.cell?_alloc_some (Obj.cells #[Value.int IntKind.i64 q.1, Value.int IntKind.i64 q.2] 33) p0)
            replace p1 := Lib.cell?_alloc_some (Obj.cells #[Value.int IntKind.i64 q.1, Value.int IntKind.i64 q.2] 33) p1
            generalize hw2 : (wr.alloc (Obj.cells #[Value.int IntKind.i64 q.1, Value.int IntKind.i64 q.2] 33)) = w2 at *
            have HL2 := Lib.hid hL2
            clear hL2 hw2
            replace r0 := cellG r0
            replace r1 := cellG r1
            replace p0 := cellG p0
            replace p1 := cellG p1
            refine wp_region_quiet_grown mixed (by kernel_rfl) ?_
            repeat (first | go_big_quiet_skip | (go_big_quiet_want; go_big_quiet_op; go_big_quiet_on))
            go_big_quiet_want
            go_big_quiet_op
            go_big_quiet_call ((go_at_call 66; exact HG.out _ _ _))
            repeat (first | go_big_quiet_skip | (go_big_quiet_want; go_big_quiet_op; go_big_quiet_on))
            refine wpQuiet_nil ?_
            intro _ hw'
            obtain ⟨⟨nq, osq⟩, hw''⟩ := hw'
            subst hw''
            go_wp2_with fail
            go_roundw
            case rel =>
              refine ⟨k + 2, by omega, by go_num, lays_tr HL2.out ⟨_, _, rfl⟩, HVq, fun j hj hjk => ?_⟩
              by_cases hjk2 : j = k
              · subst hjk2; rw [← HP.out, ← HQ.out]; have := HPQ.out; omega
              · exact HI.out j hj (by omega)
            case measure => simp [intOf]; omega
    · have HN : Hid (validV v = true) := good_all (fun j hj => HV.out j hj (by omega)) (fun j hj => HI.out j hj (by omega))
      have hend : ¬ (k : Int) < (v.length : Int) := by omega
      go_wp2_with fail
      go_ret
      exact ⟨by rw [HN.out]; rfl, hh.out⟩
end Go.Proofs.YtfpfihmihlmobaaGreat.E
end

/-
  Which vector has all dots of which: the program's and the reference's within and Order.
-/
section
namespace Go.Proofs.YtfpfihmihlmobaaGreat.E
set_option linter.unusedVariables false
open Go.RowKit V Go.Sort D

theorem within_no {a b : List Dt} {k : Nat} (hk : k < a.length) (h : hasV b a[k] = false) : withinV a b = false := by
  unfold withinV
  rw [List.all_eq_false]
  exact ⟨a[k], List.getElem_mem hk, by rw [h]; simp⟩
theorem within_yes {a b : List Dt} (h : ∀ j (hj : j < a.length), hasV b a[j] = true) : withinV a b = true := by
  unfold withinV
  rw [List.all_eq_true]
  intro x hx
  obtain ⟨j, hj, rfl⟩ := List.mem_iff_getElem.1 hx
  exact h j hj

/-- What Order says: a number, or an error. -/
def ordR (xs ys : List Dt) : Int × Int := if validV xs = true ∧ validV ys = true then (orderR xs ys, 0) else (0, 2)
end Go.Proofs.YtfpfihmihlmobaaGreat.E
end

/-
  The reference's Raise: one more dot.
-/
section
namespace Go.Proofs.YtfpfihmihlmobaaGreat.E
set_option linter.unusedVariables false
open Go.RowKit V Go.Sort D

theorem raise_step {d x : Dt} {dn : Bool} {t : List Dt} : raiseW d dn (x :: t) = (if dn = false ∧ d.1 ≤ x.1 then [d] else []) ++ (if x.1 ≠ d.1 then [x] else []) ++ raiseW d (dn || decide (d.1 ≤ x.1)) t := by rw [raiseW]
theorem raise_len {d : Dt} : ∀ {dn : Bool} {v : List Dt}, (raiseW d dn v).length ≤ 2 * v.length + 1
  | dn, [] => by unfold raiseW; split <;> simp
  | dn, x :: t => by
    have := raise_len (d := d) (dn := dn || decide (d.1 ≤ x.1)) (v := t)
    rw [raise_step]
    have h1 : (if dn = false ∧ d.1 ≤ x.1 then [d] else []).length ≤ 1 := by split <;> simp
    have h2 : (if x.1 ≠ d.1 then [x] else []).length ≤ 1 := by split <;> simp
    simp only [List.length_append, List.length_cons]
    omega

set_option maxRecDepth 100000 in
set_option maxHeartbeats 4000000 in
theorem raise_ref (v : List Dt) (d : Dt) (a : Option Addr) (c : Nat) (w : World) (hx : RowD w a v) (hn : a = none → c = 0) (hlc : v.length ≤ c) (hlx : v.length ≤ 1000000) :
    Calls Tryz.prog 112 #[.slice a v.length c, dv d] w fun e w' => ∃ a' c', e = .returned (.slice a' (raiseR v d).length c') ∧ RowD w' a' (raiseR v d) ∧ (a' = none → c' = 0) ∧ (raiseR v d).length ≤ c' ∧ Below w.heap.size w w' := by
  have HX := Lib.hid hx
  have HN := Lib.hid hn
  have HC := Lib.hid hlc
  have HLX := Lib.hid hlx
  have hB : Below w.heap.size w (w.alloc (Obj.cells #[.int .i64 d.1, .int .i64 d.2] 33)) := (Below.refl _ _).alloc (Nat.le_refl _) _
  have HH := Lib.hid (has_ref v d a c _ (hx.keep hB) (by omega))
  have HE : Hid (raiseR v d = if hasV v d = true then v else raiseW d false v) := rfl
  have k0 : (w.alloc (Obj.cells #[Value.int IntKind.i64 d.1, Value.int IntKind.i64 d.2] 33)).cell? ⟨w.heap.size, 0, none⟩ = some (.int .i64 d.1) := by go_simp
  have k1 : (w.alloc (Obj.cells #[Value.int IntKind.i64 d.1, Value.int IntKind.i64 d.2] 33)).cell? ⟨w.heap.size, 1, none⟩ = some (.int .i64 d.2) := by go_simp
  have hli : (v.length : Int) ≤ 1000000 := by omega
  have HB := Lib.hid hB
  clear hx hn hlc hlx hB
  obtain ⟨d1, d2⟩ := d
  simp only at *
  generalize raiseR v (d1, d2) = R at *
  go_enter Tryz.func112, Tryz.ntmps112
  go_wp2_with fail
  refine HH.out.mono ?_
  rintro e w1 ⟨rfl, hl⟩
  have H0 : Hid (w1.cell? ⟨w.heap.size, 0, none⟩ = some (.int .i64 d1)) := (hl.bel.cell (p := ⟨_, _, none⟩) (lt_of_cell k0)).trans k0
  have H1 : Hid (w1.cell? ⟨w.heap.size, 1, none⟩ = some (.int .i64 d2)) := (hl.bel.cell (p := ⟨_, _, none⟩) (lt_of_cell k1)).trans k1
  replace HB := bel_tr HB hl.bel
  clear hl k0 k1 HH
  rcases hb : hasV v (d1, d2) with _ | _
  · have hR : R = raiseW (d1, d2) false v := by rw [HE.out, hb, if_neg (by simp)]
    clear hb HE
    subst hR
    have HX1 := Lib.hid (HX.out.keep HB.out)
    go_wp2_with fail
    go_loopw [7, 5, 6] (fun i o dn wr => ∃ (k : Nat) (b : Bool) (acc : List Dt), k ≤ v.length ∧ i = .int .i64 (k : Int) ∧ dn = .bool b ∧ Hid (Below w1.heap.size w1 wr) ∧ Hid (OD wr w1.heap.size E o acc) ∧ Hid (raiseW (d1, d2) false v = acc ++ raiseW (d1, d2) b (v.drop k)) ∧ Hid (acc.length ≤ 2 * k)) (fun i _ _ _ => v.length - (intOf i).toNat)
    case atStart => exact ⟨0, false, [], Nat.zero_le _, rfl, rfl, Below.refl _ _, OD.nil _ _ _, by show _ = _; simp, Nat.zero_le _⟩
    case round =>
      obtain ⟨k, b, acc, hk, rfl, rfl, hh, HO, HF, HL⟩ := hrel
      obtain ⟨a2, c2, rfl, -⟩ := HO.out.row
      by_cases hlt : k < v.length
      · have mixed := mixed
        have hi0 : (k : Int) < (v.length : Int) := by omega
        obtain ⟨b2, o2, rfl, q0, q1⟩ := HX1.out.get (Below.refl _ _) k hlt
        obtain ⟨q, hq⟩ : ∃ q, q = v[k] := ⟨_, rfl⟩
        rw [← hq] at q0 q1
        have HF2 : Hid (raiseW (d1, d2) false v = acc ++ raiseW (d1, d2) b (q :: v.drop (k + 1))) := by show _ = _; rw [HF.out, List.drop_eq_getElem_cons hlt, hq]
        clear hq HF
        have hix := ix_vec b2 o2 v.length c k (k : Int) rfl hlt
        obtain ⟨q1', q2'⟩ := q
        simp only at q0 q1
        have Q0 := Lib.hid q0
        have Q1 := Lib.hid q1
        clear q0 q1
        by_cases hge : d1 ≤ q1'
        · have hd : decide (d1 ≤ q1') = true := by simpa using hge
          have HGE := Lib.hid hge
          rcases b with _ | _
          · by_cases hne : q1' = d1
            · have r0 := (hh.out.cell (p := ⟨_, _, none⟩) (lt_of_cell H0.out)).trans H0.out
              have r1 := (hh.out.cell (p := ⟨_, _, none⟩) (lt_of_cell H1.out)).trans H1.out
              have q0 := (hh.out.cell (p := ⟨_, _, none⟩) (lt_of_cell Q0.out)).trans Q0.out
              have q1 := (hh.out.cell (p := ⟨_, _, none⟩) (lt_of_cell Q1.out)).trans Q1.out
              go_wp2_with fail
              go_quiet (fail)
              replace hh := Lib.hid (bel_drewN hh.out nq)
              replace HO := Lib.hid (HO.out.below (bel_drewN (Below.refl _ _) nq))
              generalize hwz : World.drewN _ nq = wz at *
              clear hwz r0 r1 q0 q1
              have r0 := (hh.out.cell (p := ⟨_, _, none⟩) (lt_of_cell H0.out)).trans H0.out
              have r1 := (hh.out.cell (p := ⟨_, _, none⟩) (lt_of_cell H1.out)).trans H1.out
              have q0 := (hh.out.cell (p := ⟨_, _, none⟩) (lt_of_cell Q0.out)).trans Q0.out
              have q1 := (hh.out.cell (p := ⟨_, _, none⟩) (lt_of_cell Q1.out)).trans Q1.out
              go_wp2_with (at_builtin; refine wpList_appD rfl _ _ _ rfl Tryz.underlying49 infoD _ _ rfl (HO.out.below ((Below.refl _ _).alloc (Nat.le_refl _) _)) (some ⟨wz.heap.size, 0, none⟩) [(d1, d2)] 1 rfl (lit_one wz (d1, d2) _) (fun h => by cases h) (by have := HL.out; have := HLX.out; simp; omega) (hh.out.alloc hh.out.size _).size ?_)
              intro v2 w2 ho hg _
              replace hh := Lib.hid ((hh.out.alloc hh.out.size (Obj.cells #[Value.int IntKind.i64 d1, Value.int IntKind.i64 d2] 33)).grown hg (hh.out.alloc hh.out.size _).size (fun j hj => (HO.out.lt j hj).1))
              replace HO := Lib.hid ho
              obtain ⟨a2, c2, rfl, -⟩ := HO.out.row
              clear ho hg r0 r1 q0 q1
              have r0 := (hh.out.cell (p := ⟨_, _, none⟩) (lt_of_cell H0.out)).trans H0.out
              have r1 := (hh.out.cell (p := ⟨_, _, none⟩) (lt_of_cell H1.out)).trans H1.out
              have q0 := (hh.out.cell (p := ⟨_, _, none⟩) (lt_of_cell Q0.out)).trans Q0.out
              have q1 := (hh.out.cell (p := ⟨_, _, none⟩) (lt_of_cell Q1.out)).trans Q1.out
              go_wp2_with fail
              go_quiet (fail)
              replace hh := Lib.hid (bel_drewN hh.out nq)
              replace HO := Lib.hid (HO.out.below (bel_drewN (Below.refl _ _) nq))
              generalize hwz : World.drewN _ nq = wz at *
              clear hwz r0 r1 q0 q1
              have r0 := (hh.out.cell (p := ⟨_, _, none⟩) (lt_of_cell H0.out)).trans H0.out
              have r1 := (hh.out.cell (p := ⟨_, _, none⟩) (lt_of_cell H1.out)).trans H1.out
              have q0 := (hh.out.cell (p := ⟨_, _, none⟩) (lt_of_cell Q0.out)).trans Q0.out
              have q1 := (hh.out.cell (p := ⟨_, _, none⟩) (lt_of_cell Q1.out)).trans Q1.out
              go_wp2_with fail
              go_roundw
              case rel => exact ⟨k + 1, true, acc ++ [(d1, d2)], by omega, by go_num, rfl, hh, HO, (by
                show _ = _
                have hge : d1 ≤ q1' := by have := HGE.out; omega
                rw [HF2.out, raise_step]; simp [hge, hne]), by show _ ≤ _; have := HL.out; simp; omega⟩
              case measure => simp [intOf]; omega
            · have hnb : (q1' != d1) = true := by rw [bne_iff_ne]; exact hne
              have r0 := (hh.out.cell (p := ⟨_, _, none⟩) (lt_of_cell H0.out)).trans H0.out
              have r1 := (hh.out.cell (p := ⟨_, _, none⟩) (lt_of_cell H1.out)).trans H1.out
              have q0 := (hh.out.cell (p := ⟨_, _, none⟩) (lt_of_cell Q0.out)).trans Q0.out
              have q1 := (hh.out.cell (p := ⟨_, _, none⟩) (lt_of_cell Q1.out)).trans Q1.out
              go_wp2_with fail
              go_quiet (fail)
              replace hh := Lib.hid (bel_drewN hh.out nq)
              replace HO := Lib.hid (HO.out.below (bel_drewN (Below.refl _ _) nq))
              generalize hwz : World.drewN _ nq = wz at *
              clear hwz r0 r1 q0 q1
              have r0 := (hh.out.cell (p := ⟨_, _, none⟩) (lt_of_cell H0.out)).trans H0.out
              have r1 := (hh.out.cell (p := ⟨_, _, none⟩) (lt_of_cell H1.out)).trans H1.out
              have q0 := (hh.out.cell (p := ⟨_, _, none⟩) (lt_of_cell Q0.out)).trans Q0.out
              have q1 := (hh.out.cell (p := ⟨_, _, none⟩) (lt_of_cell Q1.out)).trans Q1.out
              go_wp2_with (at_builtin; refine wpList_appD rfl _ _ _ rfl Tryz.underlying49 infoD _ _ rfl (HO.out.below ((Below.refl _ _).alloc (Nat.le_refl _) _)) (some ⟨wz.heap.size, 0, none⟩) [(d1, d2)] 1 rfl (lit_one wz (d1, d2) _) (fun h => by cases h) (by have := HL.out; have := HLX.out; simp; omega) (hh.out.alloc hh.out.size _).size ?_)
              intro v2 w2 ho hg _
              replace hh := Lib.hid ((hh.out.alloc hh.out.size (Obj.cells #[Value.int IntKind.i64 d1, Value.int IntKind.i64 d2] 33)).grown hg (hh.out.alloc hh.out.size _).size (fun j hj => (HO.out.lt j hj).1))
              generalize hq : acc ++ [(d1, d2)] = acc2 at *
              have HL2 : Hid (acc2.length ≤ 2 * k + 1) := by show _ ≤ _; have := HL.out; rw [← hq]; simp; omega
              have Hq := Lib.hid hq
              clear hq HL
              replace HO := Lib.hid ho
              obtain ⟨a2, c2, rfl, -⟩ := HO.out.row
              clear ho hg r0 r1 q0 q1
              have r0 := (hh.out.cell (p := ⟨_, _, none⟩) (lt_of_cell H0.out)).trans H0.out
              have r1 := (hh.out.cell (p := ⟨_, _, none⟩) (lt_of_cell H1.out)).trans H1.out
              have q0 := (hh.out.cell (p := ⟨_, _, none⟩) (lt_of_cell Q0.out)).trans Q0.out
              have q1 := (hh.out.cell (p := ⟨_, _, none⟩) (lt_of_cell Q1.out)).trans Q1.out
              go_wp2_with fail
              go_quiet (fail)
              replace hh := Lib.hid (bel_drewN hh.out nq)
              replace HO := Lib.hid (HO.out.below (bel_drewN (Below.refl _ _) nq))
              generalize hwz : World.drewN _ nq = wz at *
              clear hwz r0 r1 q0 q1
              have r0 := (hh.out.cell (p := ⟨_, _, none⟩) (lt_of_cell H0.out)).trans H0.out
              have r1 := (hh.out.cell (p := ⟨_, _, none⟩) (lt_of_cell H1.out)).trans H1.out
              have q0 := (hh.out.cell (p := ⟨_, _, none⟩) (lt_of_cell Q0.out)).trans Q0.out
              have q1 := (hh.out.cell (p := ⟨_, _, none⟩) (lt_of_cell Q1.out)).trans Q1.out
              go_wp2_with (at_builtin; refine wpList_appD rfl _ _ _ rfl Tryz.underlying49 infoD _ _ rfl (HO.out.below ((Below.refl _ _).alloc (Nat.le_refl _) _)) (some ⟨wz.heap.size, 0, none⟩) [(q1', q2')] 1 rfl (lit_one wz (q1', q2') _) (fun h => by cases h) (by have := HL2.out; have := HLX.out; simp; omega) (hh.out.alloc hh.out.size _).size ?_)
              intro v2 w2 ho hg _
              replace hh := Lib.hid ((hh.out.alloc hh.out.size (Obj.cells #[Value.int IntKind.i64 q1', Value.int IntKind.i64 q2'] 33)).grown hg (hh.out.alloc hh.out.size _).size (fun j hj => (HO.out.lt j hj).1))
              replace HO := Lib.hid ho
              obtain ⟨a2, c2, rfl, -⟩ := HO.out.row
              clear ho hg r0 r1 q0 q1
              have r0 := (hh.out.cell (p := ⟨_, _, none⟩) (lt_of_cell H0.out)).trans H0.out
              have r1 := (hh.out.cell (p := ⟨_, _, none⟩) (lt_of_cell H1.out)).trans H1.out
              have q0 := (hh.out.cell (p := ⟨_, _, none⟩) (lt_of_cell Q0.out)).trans Q0.out
              have q1 := (hh.out.cell (p := ⟨_, _, none⟩) (lt_of_cell Q1.out)).trans Q1.out
              go_wp2_with fail
              go_roundw
              case rel => exact ⟨k + 1, true, acc2 ++ [(q1', q2')], by omega, by go_num, rfl, hh, HO, (by
                show _ = _
                have hge : d1 ≤ q1' := by have := HGE.out; omega
                rw [← Hq.out]; rw [HF2.out, raise_step]; simp [hge, hne]), by show _ ≤ _; have := HL2.out; simp; omega⟩
              case measure => simp [intOf]; omega
          · by_cases hne : q1' = d1
            · have r0 := (hh.out.cell (p := ⟨_, _, none⟩) (lt_of_cell H0.out)).trans H0.out
              have r1 := (hh.out.cell (p := ⟨_, _, none⟩) (lt_of_cell H1.out)).trans H1.out
              have q0 := (hh.out.cell (p := ⟨_, _, none⟩) (lt_of_cell Q0.out)).trans Q0.out
              have q1 := (hh.out.cell (p := ⟨_, _, none⟩) (lt_of_cell Q1.out)).trans Q1.out
              go_wp2_with fail
              go_quiet (fail)
              replace hh := Lib.hid (bel_drewN hh.out nq)
              replace HO := Lib.hid (HO.out.below (bel_drewN (Below.refl _ _) nq))
              generalize hwz : World.drewN _ nq = wz at *
              clear hwz r0 r1 q0 q1
              have r0 := (hh.out.cell (p := ⟨_, _, none⟩) (lt_of_cell H0.out)).trans H0.out
              have r1 := (hh.out.cell (p := ⟨_, _, none⟩) (lt_of_cell H1.out)).trans H1.out
              have q0 := (hh.out.cell (p := ⟨_, _, none⟩) (lt_of_cell Q0.out)).trans Q0.out
              have q1 := (hh.out.cell (p := ⟨_, _, none⟩) (lt_of_cell Q1.out)).trans Q1.out
              go_wp2_with fail
              go_quiet (fail)
              replace hh := Lib.hid (bel_drewN hh.out nq)
              replace HO := Lib.hid (HO.out.below (bel_drewN (Below.refl _ _) nq))
              generalize hwz : World.drewN _ nq = wz at *
              clear hwz r0 r1 q0 q1
              have r0 := (hh.out.cell (p := ⟨_, _, none⟩) (lt_of_cell H0.out)).trans H0.out
              have r1 := (hh.out.cell (p := ⟨_, _, none⟩) (lt_of_cell H1.out)).trans H1.out
              have q0 := (hh.out.cell (p := ⟨_, _, none⟩) (lt_of_cell Q0.out)).trans Q0.out
              have q1 := (hh.out.cell (p := ⟨_, _, none⟩) (lt_of_cell Q1.out)).trans Q1.out
              go_wp2_with fail
              go_roundw
              case rel => exact ⟨k + 1, true, acc, by omega, by go_num, rfl, hh, HO, (by
                show _ = _
                have hge : d1 ≤ q1' := by have := HGE.out; omega
                rw [HF2.out, raise_step]; simp [hge, hne]), by show _ ≤ _; have := HL.out; simp; omega⟩
              case measure => simp [intOf]; omega
            · have hnb : (q1' != d1) = true := by rw [bne_iff_ne]; exact hne
              have r0 := (hh.out.cell (p := ⟨_, _, none⟩) (lt_of_cell H0.out)).trans H0.out
              have r1 := (hh.out.cell (p := ⟨_, _, none⟩) (lt_of_cell H1.out)).trans H1.out
              have q0 := (hh.out.cell (p := ⟨_, _, none⟩) (lt_of_cell Q0.out)).trans Q0.out
              have q1 := (hh.out.cell (p := ⟨_, _, none⟩) (lt_of_cell Q1.out)).trans Q1.out
              go_wp2_with fail
              go_quiet (fail)
              replace hh := Lib.hid (bel_drewN hh.out nq)
              replace HO := Lib.hid (HO.out.below (bel_drewN (Below.refl _ _) nq))
              generalize hwz : World.drewN _ nq = wz at *
              clear hwz r0 r1 q0 q1
              have r0 := (hh.out.cell (p := ⟨_, _, none⟩) (lt_of_cell H0.out)).trans H0.out
              have r1 := (hh.out.cell (p := ⟨_, _, none⟩) (lt_of_cell H1.out)).trans H1.out
              have q0 := (hh.out.cell (p := ⟨_, _, none⟩) (lt_of_cell Q0.out)).trans Q0.out
              have q1 := (hh.out.cell (p := ⟨_, _, none⟩) (lt_of_cell Q1.out)).trans Q1.out
              go_wp2_with fail
              go_quiet (fail)
              replace hh := Lib.hid (bel_drewN hh.out nq)
              replace HO := Lib.hid (HO.out.below (bel_drewN (Below.refl _ _) nq))
              generalize hwz : World.drewN _ nq = wz at *
              clear hwz r0 r1 q0 q1
              have r0 := (hh.out.cell (p := ⟨_, _, none⟩) (lt_of_cell H0.out)).trans H0.out
              have r1 := (hh.out.cell (p := ⟨_, _, none⟩) (lt_of_cell H1.out)).trans H1.out
              have q0 := (hh.out.cell (p := ⟨_, _, none⟩) (lt_of_cell Q0.out)).trans Q0.out
              have q1 := (hh.out.cell (p := ⟨_, _, none⟩) (lt_of_cell Q1.out)).trans Q1.out
              go_wp2_with (at_builtin; refine wpList_appD rfl _ _ _ rfl Tryz.underlying49 infoD _ _ rfl (HO.out.below ((Below.refl _ _).alloc (Nat.le_refl _) _)) (some ⟨wz.heap.size, 0, none⟩) [(q1', q2')] 1 rfl (lit_one wz (q1', q2') _) (fun h => by cases h) (by have := HL.out; have := HLX.out; simp; omega) (hh.out.alloc hh.out.size _).size ?_)
              intro v2 w2 ho hg _
              replace hh := Lib.hid ((hh.out.alloc hh.out.size (Obj.cells #[Value.int IntKind.i64 q1', Value.int IntKind.i64 q2'] 33)).grown hg (hh.out.alloc hh.out.size _).size (fun j hj => (HO.out.lt j hj).1))
              replace HO := Lib.hid ho
              obtain ⟨a2, c2, rfl, -⟩ := HO.out.row
              clear ho hg r0 r1 q0 q1
              have r0 := (hh.out.cell (p := ⟨_, _, none⟩) (lt_of_cell H0.out)).trans H0.out
              have r1 := (hh.out.cell (p := ⟨_, _, none⟩) (lt_of_cell H1.out)).trans H1.out
              have q0 := (hh.out.cell (p := ⟨_, _, none⟩) (lt_of_cell Q0.out)).trans Q0.out
              have q1 := (hh.out.cell (p := ⟨_, _, none⟩) (lt_of_cell Q1.out)).trans Q1.out
              go_wp2_with fail
              go_roundw
              case rel => exact ⟨k + 1, true, acc ++ [(q1', q2')], by omega, by go_num, rfl, hh, HO, (by
                show _ = _
                have hge : d1 ≤ q1' := by have := HGE.out; omega
                rw [HF2.out, raise_step]; simp [hge, hne]), by show _ ≤ _; have := HL.out; simp; omega⟩
              case measure => simp [intOf]; omega
        · have hd : decide (d1 ≤ q1') = false := by simpa using hge
          have HGE := Lib.hid hge
          have hne : ¬ q1' = d1 := by omega
          have hnb : (q1' != d1) = true := by rw [bne_iff_ne]; exact hne
          rcases b with _ | _
          · have r0 := (hh.out.cell (p := ⟨_, _, none⟩) (lt_of_cell H0.out)).trans H0.out
            have r1 := (hh.out.cell (p := ⟨_, _, none⟩) (lt_of_cell H1.out)).trans H1.out
            have q0 := (hh.out.cell (p := ⟨_, _, none⟩) (lt_of_cell Q0.out)).trans Q0.out
            have q1 := (hh.out.cell (p := ⟨_, _, none⟩) (lt_of_cell Q1.out)).trans Q1.out
            go_wp2_with fail
            go_quiet (fail)
            replace hh := Lib.hid (bel_drewN hh.out nq)
            replace HO := Lib.hid (HO.out.below (bel_drewN (Below.refl _ _) nq))
            generalize hwz : World.drewN _ nq = wz at *
            clear hwz r0 r1 q0 q1
            have r0 := (hh.out.cell (p := ⟨_, _, none⟩) (lt_of_cell H0.out)).trans H0.out
            have r1 := (hh.out.cell (p := ⟨_, _, none⟩) (lt_of_cell H1.out)).trans H1.out
            have q0 := (hh.out.cell (p := ⟨_, _, none⟩) (lt_of_cell Q0.out)).trans Q0.out
            have q1 := (hh.out.cell (p := ⟨_, _, none⟩) (lt_of_cell Q1.out)).trans Q1.out
            go_wp2_with fail
            go_quiet (fail)
            replace hh := Lib.hid (bel_drewN hh.out nq)
            replace HO := Lib.hid (HO.out.below (bel_drewN (Below.refl _ _) nq))
            generalize hwz : World.drewN _ nq = wz at *
            clear hwz r0 r1 q0 q1
            have r0 := (hh.out.cell (p := ⟨_, _, none⟩) (lt_of_cell H0.out)).trans H0.out
            have r1 := (hh.out.cell (p := ⟨_, _, none⟩) (lt_of_cell H1.out)).trans H1.out
            have q0 := (hh.out.cell (p := ⟨_, _, none⟩) (lt_of_cell Q0.out)).trans Q0.out
            have q1 := (hh.out.cell (p := ⟨_, _, none⟩) (lt_of_cell Q1.out)).trans Q1.out
            go_wp2_with (at_builtin; refine wpList_appD rfl _ _ _ rfl Tryz.underlying49 infoD _ _ rfl (HO.out.below ((Below.refl _ _).alloc (Nat.le_refl _) _)) (some ⟨wz.heap.size, 0, none⟩) [(q1', q2')] 1 rfl (lit_one wz (q1', q2') _) (fun h => by cases h) (by have := HL.out; have := HLX.out; simp; omega) (hh.out.alloc hh.out.size _).size ?_)
            intro v2 w2 ho hg _
            replace hh := Lib.hid ((hh.out.alloc hh.out.size (Obj.cells #[Value.int IntKind.i64 q1', Value.int IntKind.i64 q2'] 33)).grown hg (hh.out.alloc hh.out.size _).size (fun j hj => (HO.out.lt j hj).1))
            replace HO := Lib.hid ho
            obtain ⟨a2, c2, rfl, -⟩ := HO.out.row
            clear ho hg r0 r1 q0 q1
            have r0 := (hh.out.cell (p := ⟨_, _, none⟩) (lt_of_cell H0.out)).trans H0.out
            have r1 := (hh.out.cell (p := ⟨_, _, none⟩) (lt_of_cell H1.out)).trans H1.out
            have q0 := (hh.out.cell (p := ⟨_, _, none⟩) (lt_of_cell Q0.out)).trans Q0.out
            have q1 := (hh.out.cell (p := ⟨_, _, none⟩) (lt_of_cell Q1.out)).trans Q1.out
            go_wp2_with fail
            go_roundw
            case rel => exact ⟨k + 1, false, acc ++ [(q1', q2')], by omega, by go_num, rfl, hh, HO, (by
              show _ = _
              have hge : ¬ d1 ≤ q1' := by have := HGE.out; omega
              rw [HF2.out, raise_step]; simp [hge, hne]), by show _ ≤ _; have := HL.out; simp; omega⟩
            case measure => simp [intOf]; omega
          · have r0 := (hh.out.cell (p := ⟨_, _, none⟩) (lt_of_cell H0.out)).trans H0.out
            have r1 := (hh.out.cell (p := ⟨_, _, none⟩) (lt_of_cell H1.out)).trans H1.out
            have q0 := (hh.out.cell (p := ⟨_, _, none⟩) (lt_of_cell Q0.out)).trans Q0.out
            have q1 := (hh.out.cell (p := ⟨_, _, none⟩) (lt_of_cell Q1.out)).trans Q1.out
            go_wp2_with fail
            go_quiet (fail)
            replace hh := Lib.hid (bel_drewN hh.out nq)
            replace HO := Lib.hid (HO.out.below (bel_drewN (Below.refl _ _) nq))
            generalize hwz : World.drewN _ nq = wz at *
            clear hwz r0 r1 q0 q1
            have r0 := (hh.out.cell (p := ⟨_, _, none⟩) (lt_of_cell H0.out)).trans H0.out
            have r1 := (hh.out.cell (p := ⟨_, _, none⟩) (lt_of_cell H1.out)).trans H1.out
            have q0 := (hh.out.cell (p := ⟨_, _, none⟩) (lt_of_cell Q0.out)).trans Q0.out
            have q1 := (hh.out.cell (p := ⟨_, _, none⟩) (lt_of_cell Q1.out)).trans Q1.out
            go_wp2_with fail
            go_quiet (fail)
            replace hh := Lib.hid (bel_drewN hh.out nq)
            replace HO := Lib.hid (HO.out.below (bel_drewN (Below.refl _ _) nq))
            generalize hwz : World.drewN _ nq = wz at *
            clear hwz r0 r1 q0 q1
            have r0 := (hh.out.cell (p := ⟨_, _, none⟩) (lt_of_cell H0.out)).trans H0.out
            have r1 := (hh.out.cell (p := ⟨_, _, none⟩) (lt_of_cell H1.out)).trans H1.out
            have q0 := (hh.out.cell (p := ⟨_, _, none⟩) (lt_of_cell Q0.out)).trans Q0.out
            have q1 := (hh.out.cell (p := ⟨_, _, none⟩) (lt_of_cell Q1.out)).trans Q1.out
            go_wp2_with (at_builtin; refine wpList_appD rfl _ _ _ rfl Tryz.underlying49 infoD _ _ rfl (HO.out.below ((Below.refl _ _).alloc (Nat.le_refl _) _)) (some ⟨wz.heap.size, 0, none⟩) [(q1', q2')] 1 rfl (lit_one wz (q1', q2') _) (fun h => by cases h) (by have := HL.out; have := HLX.out; simp; omega) (hh.out.alloc hh.out.size _).size ?_)
            intro v2 w2 ho hg _
            replace hh := Lib.hid ((hh.out.alloc hh.out.size (Obj.cells #[Value.int IntKind.i64 q1', Value.int IntKind.i64 q2'] 33)).grown hg (hh.out.alloc hh.out.size _).size (fun j hj => (HO.out.lt j hj).1))
            replace HO := Lib.hid ho
            obtain ⟨a2, c2, rfl, -⟩ := HO.out.row
            clear ho hg r0 r1 q0 q1
            have r0 := (hh.out.cell (p := ⟨_, _, none⟩) (lt_of_cell H0.out)).trans H0.out
            have r1 := (hh.out.cell (p := ⟨_, _, none⟩) (lt_of_cell H1.out)).trans H1.out
            have q0 := (hh.out.cell (p := ⟨_, _, none⟩) (lt_of_cell Q0.out)).trans Q0.out
            have q1 := (hh.out.cell (p := ⟨_, _, none⟩) (lt_of_cell Q1.out)).trans Q1.out
            go_wp2_with fail
            go_roundw
            case rel => exact ⟨k + 1, true, acc ++ [(q1', q2')], by omega, by go_num, rfl, hh, HO, (by
              show _ = _
              have hge : ¬ d1 ≤ q1' := by have := HGE.out; omega
              rw [HF2.out, raise_step]; simp [hge, hne]), by show _ ≤ _; have := HL.out; simp; omega⟩
            case measure => simp [intOf]; omega
      · obtain rfl : k = v.length := by omega
        have hend : ¬ (v.length : Int) < (v.length : Int) := by omega
        have HF2 : Hid (raiseW (d1, d2) false v = acc ++ raiseW (d1, d2) b []) := by show _ = _; rw [HF.out, List.drop_length]
        have r0 := (hh.out.cell (p := ⟨_, _, none⟩) (lt_of_cell H0.out)).trans H0.out
        have r1 := (hh.out.cell (p := ⟨_, _, none⟩) (lt_of_cell H1.out)).trans H1.out
        clear HF
        rcases b with _ | _
        · generalize hwz : wr = wz at *
          clear hwz
          go_wp2_with (at_builtin; refine wpList_appD rfl _ _ _ rfl Tryz.underlying49 infoD _ _ rfl (HO.out.below ((Below.refl _ _).alloc (Nat.le_refl _) _)) (some ⟨wz.heap.size, 0, none⟩) [(d1, d2)] 1 rfl (lit_one wz (d1, d2) _) (fun h => by cases h) (by have := HL.out; have := HLX.out; simp; omega) (hh.out.alloc hh.out.size _).size ?_)
          intro v2 w2 ho hg _
          replace hh := Lib.hid ((hh.out.alloc hh.out.size (Obj.cells #[Value.int IntKind.i64 d1, Value.int IntKind.i64 d2] 33)).grown hg (hh.out.alloc hh.out.size _).size (fun j hj => (HO.out.lt j hj).1))
          have e : acc ++ [(d1, d2)] = raiseW (d1, d2) false v := by rw [HF2.out]; simp [raiseW]
          rw [e] at ho
          obtain ⟨a2, c2, rfl, hr, hn, hc, -⟩ := ho.row
          have HR := Lib.hid hr
          have HN := Lib.hid (fun h => (hn h).1)
          have HC := Lib.hid hc
          clear ho hg hr hn hc e
          go_wp2_with fail
          go_ret
          exact ⟨_, _, rfl, HR.out, HN.out, HC.out, HB.out.trans (hh.out.mono HB.out.size)⟩
        · have e : acc = raiseW (d1, d2) false v := by rw [HF2.out]; simp [raiseW]
          have ho := HO.out
          subst e
          obtain ⟨a2, c2, e, hr, hn, hc, -⟩ := ho.row
          cases e
          have HR := Lib.hid hr
          have HN := Lib.hid (fun h => (hn h).1)
          have HC := Lib.hid hc
          clear ho hr hn hc
          go_wp2_with fail
          go_ret
          exact ⟨_, _, rfl, HR.out, HN.out, HC.out, HB.out.trans (hh.out.mono HB.out.size)⟩
  · have hR : R = v := by rw [HE.out, hb, if_pos rfl]
    clear hb HE
    subst hR
    go_wp2_with fail
    go_ret
    exact ⟨_, _, rfl, HX.out.keep HB.out, HN.out, HC.out, HB.out⟩
end Go.Proofs.YtfpfihmihlmobaaGreat.E
end

/-
  The reference's Of and Merge.
-/
section
namespace Go.Proofs.YtfpfihmihlmobaaGreat.E
set_option linter.unusedVariables false
open Go.RowKit V Go.Sort D

/-- A slice whose dots are these. -/
def SV (w : World) (v : Value) (l : List Dt) : Prop := ∃ a c, v = .slice a l.length c ∧ RowD w a l ∧ (a = none → c = 0) ∧ l.length ≤ c
theorem SV.nil (w : World) : SV w (.slice none 0 0) [] := ⟨none, 0, rfl, .inl rfl, fun _ => rfl, Nat.le_refl _⟩
theorem SV.keep {w w' : World} {v : Value} {l : List Dt} (h : SV w v l) (hb : Below w.heap.size w w') : SV w' v l := by
  obtain ⟨a, c, e, hr, hn, hc⟩ := h
  exact ⟨a, c, e, hr.keep hb, hn, hc⟩
theorem SV.of_od {w : World} {base : Nat} {v : Value} {l : List Dt} (h : OD w base E v l) : SV w v l := by
  obtain ⟨a, c, e, hr, hn, hc, -⟩ := h.row
  exact ⟨a, c, e, hr, fun h => (hn h).1, hc⟩

theorem raise_len1 {d : Dt} : ∀ {v : List Dt}, (raiseW d true v).length ≤ v.length ∧ (raiseW d false v).length ≤ v.length + 1
  | [] => by constructor <;> simp [raiseW]
  | x :: t => by
    obtain ⟨h1, h2⟩ := raise_len1 (d := d) (v := t)
    have k : (if x.1 ≠ d.1 then [x] else []).length ≤ 1 := by split <;> simp
    constructor
    · rw [raise_step, if_neg (by simp)]
      simp only [List.length_append, List.length_cons, List.length_nil, Bool.true_or]
      omega
    · rw [raise_step]
      by_cases h : d.1 ≤ x.1
      · rw [if_pos ⟨rfl, h⟩, decide_eq_true h]
        simp only [List.length_append, List.length_cons, List.length_nil, Bool.false_or]
        omega
      · rw [if_neg (fun e => h e.2), decide_eq_false h]
        simp only [List.length_append, List.length_cons, List.length_nil, Bool.false_or]
        omega
theorem raiseR_len (v : List Dt) (d : Dt) : (raiseR v d).length ≤ v.length + 1 := by
  unfold raiseR
  split
  · omega
  · exact raise_len1.2
theorem fold_raise_len : ∀ (l v : List Dt), (l.foldl raiseR v).length ≤ v.length + l.length
  | [], v => by simp
  | d :: t, v => by
    have h1 := fold_raise_len t (raiseR v d)
    have h2 := raiseR_len v d
    simp only [List.foldl_cons, List.length_cons]
    omega
theorem fold_take {l : List Dt} {k : Nat} (h : k < l.length) (f : List Dt → Dt → List Dt) (s : List Dt) : (l.take (k + 1)).foldl f s = f ((l.take k).foldl f s) l[k] := by
  rw [List.take_succ_eq_append_getElem h, List.foldl_append]
  rfl
theorem fold_take_len (l s : List Dt) (k : Nat) : ((l.take k).foldl raiseR s).length ≤ s.length + l.length := by
  have := fold_raise_len (l.take k) s
  rw [List.length_take] at this
  omega

/-- The vector of some dots, or none and an error. -/
def ofB (l : List Dt) : List Dt × Int := if l.all validR = true then (ofR l, 0) else ([], 2)
theorem all_no {l : List Dt} {k : Nat} (hk : k < l.length) (h : validR l[k] = false) : ofB l = ([], 2) := by
  unfold ofB
  rw [if_neg]
  rw [Bool.not_eq_true, List.all_eq_false]
  exact ⟨l[k], List.getElem_mem hk, by rw [h]; simp⟩
theorem all_yes {l : List Dt} (h : ∀ j (hj : j < l.length), validR l[j] = true) : ofB l = (ofR l, 0) := by
  unfold ofB
  rw [if_pos]
  rw [List.all_eq_true]
  intro x hx
  obtain ⟨j, hj, rfl⟩ := List.mem_iff_getElem.1 hx
  exact h j hj
end Go.Proofs.YtfpfihmihlmobaaGreat.E
end

/-
  The reference's Raise: a dot that was not there makes a new row.
-/
section
namespace Go.Proofs.YtfpfihmihlmobaaGreat.F
set_option linter.unusedVariables false
open Go.RowKit V Go.Sort D
open E (hasV raiseR raiseW raise_step raise_len ix_vec validV)


set_option maxRecDepth 100000 in
set_option maxHeartbeats 4000000 in
theorem raise_new (v : List Dt) (d : Dt) (a : Option Addr) (c : Nat) (w : World) (hx : RowD w a v) (hn : a = none → c = 0) (hlc : v.length ≤ c) (hlx : v.length ≤ 1000000) :
    Calls Tryz.prog 112 #[.slice a v.length c, dv d] w fun e w' => ∃ a' c', e = .returned (.slice a' (raiseR v d).length c') ∧ RowD w' a' (raiseR v d) ∧ (a' = none → c' = 0) ∧ (raiseR v d).length ≤ c' ∧ (hasV v d = false → ∀ x, a' = some x → w.heap.size ≤ x.block) ∧ Below w.heap.size w w' := by
  have HX := Lib.hid hx
  have HN := Lib.hid hn
  have HC := Lib.hid hlc
  have HLX := Lib.hid hlx
  have hB : Below w.heap.size w (w.alloc (Obj.cells #[.int .i64 d.1, .int .i64 d.2] 33)) := (Below.refl _ _).alloc (Nat.le_refl _) _
  have HH := Lib.hid (E.has_ref v d a c _ (hx.keep hB) (by omega))
  have HG : Hid (hasV v d = hasV v d) := rfl
  have HE : Hid (raiseR v d = if hasV v d = true then v else raiseW d false v) := rfl
  have k0 : (w.alloc (Obj.cells #[Value.int IntKind.i64 d.1, Value.int IntKind.i64 d.2] 33)).cell? ⟨w.heap.size, 0, none⟩ = some (.int .i64 d.1) := by go_simp
  have k1 : (w.alloc (Obj.cells #[Value.int IntKind.i64 d.1, Value.int IntKind.i64 d.2] 33)).cell? ⟨w.heap.size, 1, none⟩ = some (.int .i64 d.2) := by go_simp
  have hli : (v.length : Int) ≤ 1000000 := by omega
  have HB := Lib.hid hB
  clear hx hn hlc hlx hB
  obtain ⟨d1, d2⟩ := d
  simp only at *
  generalize raiseR v (d1, d2) = R at *
  go_enter Tryz.func112, Tryz.ntmps112
  go_wp2_with fail
  refine HH.out.mono ?_
  rintro e w1 ⟨rfl, hl⟩
  have H0 : Hid (w1.cell? ⟨w.heap.size, 0, none⟩ = some (.int .i64 d1)) := (hl.bel.cell (p := ⟨_, _, none⟩) (lt_of_cell k0)).trans k0
  have H1 : Hid (w1.cell? ⟨w.heap.size, 1, none⟩ = some (.int .i64 d2)) := (hl.bel.cell (p := ⟨_, _, none⟩) (lt_of_cell k1)).trans k1
  replace HB := bel_tr HB hl.bel
  clear hl k0 k1 HH
  rcases hb : hasV v (d1, d2) with _ | _
  · have hR : R = raiseW (d1, d2) false v := by rw [HE.out, hb, if_neg (by simp)]
    clear hb HE
    subst hR
    have HX1 := Lib.hid (HX.out.keep HB.out)
    go_wp2_with fail
    go_loopw [7, 5, 6] (fun i o dn wr => ∃ (k : Nat) (b : Bool) (acc : List Dt), k ≤ v.length ∧ i = .int .i64 (k : Int) ∧ dn = .bool b ∧ Hid (Below w1.heap.size w1 wr) ∧ Hid (OD wr w1.heap.size E o acc) ∧ Hid (raiseW (d1, d2) false v = acc ++ raiseW (d1, d2) b (v.drop k)) ∧ Hid (acc.length ≤ 2 * k)) (fun i _ _ _ => v.length - (intOf i).toNat)
    case atStart => exact ⟨0, false, [], Nat.zero_le _, rfl, rfl, Below.refl _ _, OD.nil _ _ _, by show _ = _; simp, Nat.zero_le _⟩
    case round =>
      obtain ⟨k, b, acc, hk, rfl, rfl, hh, HO, HF, HL⟩ := hrel
      obtain ⟨a2, c2, rfl, -⟩ := HO.out.row
      by_cases hlt : k < v.length
      · have mixed := mixed
        have hi0 : (k : Int) < (v.length : Int) := by omega
        obtain ⟨b2, o2, rfl, q0, q1⟩ := HX1.out.get (Below.refl _ _) k hlt
        obtain ⟨q, hq⟩ : ∃ q, q = v[k] := ⟨_, rfl⟩
        rw [← hq] at q0 q1
        have HF2 : Hid (raiseW (d1, d2) false v = acc ++ raiseW (d1, d2) b (q :: v.drop (k + 1))) := by show _ = _; rw [HF.out, List.drop_eq_getElem_cons hlt, hq]
        clear hq HF
        have hix := ix_vec b2 o2 v.length c k (k : Int) rfl hlt
        obtain ⟨q1', q2'⟩ := q
        simp only at q0 q1
        have Q0 := Lib.hid q0
        have Q1 := Lib.hid q1
        clear q0 q1
        by_cases hge : d1 ≤ q1'
        · have hd : decide (d1 ≤ q1') = true := by simpa using hge
          have HGE := Lib.hid hge
          rcases b with _ | _
          · by_cases hne : q1' = d1
            · have r0 := (hh.out.cell (p := ⟨_, _, none⟩) (lt_of_cell H0.out)).trans H0.out
              have r1 := (hh.out.cell (p := ⟨_, _, none⟩) (lt_of_cell H1.out)).trans H1.out
              have q0 := (hh.out.cell (p := ⟨_, _, none⟩) (lt_of_cell Q0.out)).trans Q0.out
              have q1 := (hh.out.cell (p := ⟨_, _, none⟩) (lt_of_cell Q1.out)).trans Q1.out
              go_wp2_with fail
              go_quiet (fail)
              replace hh := Lib.hid (bel_drewN hh.out nq)
              replace HO := Lib.hid (HO.out.below (bel_drewN (Below.refl _ _) nq))
              generalize hwz : World.drewN _ nq = wz at *
              clear hwz r0 r1 q0 q1
              have r0 := (hh.out.cell (p := ⟨_, _, none⟩) (lt_of_cell H0.out)).trans H0.out
              have r1 := (hh.out.cell (p := ⟨_, _, none⟩) (lt_of_cell H1.out)).trans H1.out
              have q0 := (hh.out.cell (p := ⟨_, _, none⟩) (lt_of_cell Q0.out)).trans Q0.out
              have q1 := (hh.out.cell (p := ⟨_, _, none⟩) (lt_of_cell Q1.out)).trans Q1.out
              go_wp2_with (at_builtin; refine wpList_appD rfl _ _ _ rfl Tryz.underlying49 infoD _ _ rfl (HO.out.below ((Below.refl _ _).alloc (Nat.le_refl _) _)) (some ⟨wz.heap.size, 0, none⟩) [(d1, d2)] 1 rfl (lit_one wz (d1, d2) _) (fun h => by cases h) (by have := HL.out; have := HLX.out; simp; omega) (hh.out.alloc hh.out.size _).size ?_)
              intro v2 w2 ho hg _
              replace hh := Lib.hid ((hh.out.alloc hh.out.size (Obj.cells #[Value.int IntKind.i64 d1, Value.int IntKind.i64 d2] 33)).grown hg (hh.out.alloc hh.out.size _).size (fun j hj => (HO.out.lt j hj).1))
              replace HO := Lib.hid ho
              obtain ⟨a2, c2, rfl, -⟩ := HO.out.row
              clear ho hg r0 r1 q0 q1
              have r0 := (hh.out.cell (p := ⟨_, _, none⟩) (lt_of_cell H0.out)).trans H0.out
              have r1 := (hh.out.cell (p := ⟨_, _, none⟩) (lt_of_cell H1.out)).trans H1.out
              have q0 := (hh.out.cell (p := ⟨_, _, none⟩) (lt_of_cell Q0.out)).trans Q0.out
              have q1 := (hh.out.cell (p := ⟨_, _, none⟩) (lt_of_cell Q1.out)).trans Q1.out
              go_wp2_with fail
              go_quiet (fail)
              replace hh := Lib.hid (bel_drewN hh.out nq)
              replace HO := Lib.hid (HO.out.below (bel_drewN (Below.refl _ _) nq))
              generalize hwz : World.drewN _ nq = wz at *
              clear hwz r0 r1 q0 q1
              have r0 := (hh.out.cell (p := ⟨_, _, none⟩) (lt_of_cell H0.out)).trans H0.out
              have r1 := (hh.out.cell (p := ⟨_, _, none⟩) (lt_of_cell H1.out)).trans H1.out
              have q0 := (hh.out.cell (p := ⟨_, _, none⟩) (lt_of_cell Q0.out)).trans Q0.out
              have q1 := (hh.out.cell (p := ⟨_, _, none⟩) (lt_of_cell Q1.out)).trans Q1.out
              go_wp2_with fail
              go_roundw
              case rel => exact ⟨k + 1, true, acc ++ [(d1, d2)], by omega, by go_num, rfl, hh, HO, (by
                show _ = _
                have hge : d1 ≤ q1' := by have := HGE.out; omega
                rw [HF2.out, raise_step]; simp [hge, hne]), by show _ ≤ _; have := HL.out; simp; omega⟩
              case measure => simp [intOf]; omega
            · have hnb : (q1' != d1) = true := by rw [bne_iff_ne]; exact hne
              have r0 := (hh.out.cell (p := ⟨_, _, none⟩) (lt_of_cell H0.out)).trans H0.out
              have r1 := (hh.out.cell (p := ⟨_, _, none⟩) (lt_of_cell H1.out)).trans H1.out
              have q0 := (hh.out.cell (p := ⟨_, _, none⟩) (lt_of_cell Q0.out)).trans Q0.out
              have q1 := (hh.out.cell (p := ⟨_, _, none⟩) (lt_of_cell Q1.out)).trans Q1.out
              go_wp2_with fail
              go_quiet (fail)
              replace hh := Lib.hid (bel_drewN hh.out nq)
              replace HO := Lib.hid (HO.out.below (bel_drewN (Below.refl _ _) nq))
              generalize hwz : World.drewN _ nq = wz at *
              clear hwz r0 r1 q0 q1
              have r0 := (hh.out.cell (p := ⟨_, _, none⟩) (lt_of_cell H0.out)).trans H0.out
              have r1 := (hh.out.cell (p := ⟨_, _, none⟩) (lt_of_cell H1.out)).trans H1.out
              have q0 := (hh.out.cell (p := ⟨_, _, none⟩) (lt_of_cell Q0.out)).trans Q0.out
              have q1 := (hh.out.cell (p := ⟨_, _, none⟩) (lt_of_cell Q1.out)).trans Q1.out
              go_wp2_with (at_builtin; refine wpList_appD rfl _ _ _ rfl Tryz.underlying49 infoD _ _ rfl (HO.out.below ((Below.refl _ _).alloc (Nat.le_refl _) _)) (some ⟨wz.heap.size, 0, none⟩) [(d1, d2)] 1 rfl (lit_one wz (d1, d2) _) (fun h => by cases h) (by have := HL.out; have := HLX.out; simp; omega) (hh.out.alloc hh.out.size _).size ?_)
              intro v2 w2 ho hg _
              replace hh := Lib.hid ((hh.out.alloc hh.out.size (Obj.cells #[Value.int IntKind.i64 d1, Value.int IntKind.i64 d2] 33)).grown hg (hh.out.alloc hh.out.size _).size (fun j hj => (HO.out.lt j hj).1))
              generalize hq : acc ++ [(d1, d2)] = acc2 at *
              have HL2 : Hid (acc2.length ≤ 2 * k + 1) := by show _ ≤ _; have := HL.out; rw [← hq]; simp; omega
              have Hq := Lib.hid hq
              clear hq HL
              replace HO := Lib.hid ho
              obtain ⟨a2, c2, rfl, -⟩ := HO.out.row
              clear ho hg r0 r1 q0 q1
              have r0 := (hh.out.cell (p := ⟨_, _, none⟩) (lt_of_cell H0.out)).trans H0.out
              have r1 := (hh.out.cell (p := ⟨_, _, none⟩) (lt_of_cell H1.out)).trans H1.out
              have q0 := (hh.out.cell (p := ⟨_, _, none⟩) (lt_of_cell Q0.out)).trans Q0.out
              have q1 := (hh.out.cell (p := ⟨_, _, none⟩) (lt_of_cell Q1.out)).trans Q1.out
              go_wp2_with fail
              go_quiet (fail)
              replace hh := Lib.hid (bel_drewN hh.out nq)
              replace HO := Lib.hid (HO.out.below (bel_drewN (Below.refl _ _) nq))
              generalize hwz : World.drewN _ nq = wz at *
              clear hwz r0 r1 q0 q1
              have r0 := (hh.out.cell (p := ⟨_, _, none⟩) (lt_of_cell H0.out)).trans H0.out
              have r1 := (hh.out.cell (p := ⟨_, _, none⟩) (lt_of_cell H1.out)).trans H1.out
              have q0 := (hh.out.cell (p := ⟨_, _, none⟩) (lt_of_cell Q0.out)).trans Q0.out
              have q1 := (hh.out.cell (p := ⟨_, _, none⟩) (lt_of_cell Q1.out)).trans Q1.out
              go_wp2_with (at_builtin; refine wpList_appD rfl _ _ _ rfl Tryz.underlying49 infoD _ _ rfl (HO.out.below ((Below.refl _ _).alloc (Nat.le_refl _) _)) (some ⟨wz.heap.size, 0, none⟩) [(q1', q2')] 1 rfl (lit_one wz (q1', q2') _) (fun h => by cases h) (by have := HL2.out; have := HLX.out; simp; omega) (hh.out.alloc hh.out.size _).size ?_)
              intro v2 w2 ho hg _
              replace hh := Lib.hid ((hh.out.alloc hh.out.size (Obj.cells #[Value.int IntKind.i64 q1', Value.int IntKind.i64 q2'] 33)).grown hg (hh.out.alloc hh.out.size _).size (fun j hj => (HO.out.lt j hj).1))
              replace HO := Lib.hid ho
              obtain ⟨a2, c2, rfl, -⟩ := HO.out.row
              clear ho hg r0 r1 q0 q1
              have r0 := (hh.out.cell (p := ⟨_, _, none⟩) (lt_of_cell H0.out)).trans H0.out
              have r1 := (hh.out.cell (p := ⟨_, _, none⟩) (lt_of_cell H1.out)).trans H1.out
              have q0 := (hh.out.cell (p := ⟨_, _, none⟩) (lt_of_cell Q0.out)).trans Q0.out
              have q1 := (hh.out.cell (p := ⟨_, _, none⟩) (lt_of_cell Q1.out)).trans Q1.out
              go_wp2_with fail
              go_roundw
              case rel => exact ⟨k + 1, true, acc2 ++ [(q1', q2')], by omega, by go_num, rfl, hh, HO, (by
                show _ = _
                have hge : d1 ≤ q1' := by have := HGE.out; omega
                rw [← Hq.out]; rw [HF2.out, raise_step]; simp [hge, hne]), by show _ ≤ _; have := HL2.out; simp; omega⟩
              case measure => simp [intOf]; omega
          · by_cases hne : q1' = d1
            · have r0 := (hh.out.cell (p := ⟨_, _, none⟩) (lt_of_cell H0.out)).trans H0.out
              have r1 := (hh.out.cell (p := ⟨_, _, none⟩) (lt_of_cell H1.out)).trans H1.out
              have q0 := (hh.out.cell (p := ⟨_, _, none⟩) (lt_of_cell Q0.out)).trans Q0.out
              have q1 := (hh.out.cell (p := ⟨_, _, none⟩) (lt_of_cell Q1.out)).trans Q1.out
              go_wp2_with fail
              go_quiet (fail)
              replace hh := Lib.hid (bel_drewN hh.out nq)
              replace HO := Lib.hid (HO.out.below (bel_drewN (Below.refl _ _) nq))
              generalize hwz : World.drewN _ nq = wz at *
              clear hwz r0 r1 q0 q1
              have r0 := (hh.out.cell (p := ⟨_, _, none⟩) (lt_of_cell H0.out)).trans H0.out
              have r1 := (hh.out.cell (p := ⟨_, _, none⟩) (lt_of_cell H1.out)).trans H1.out
              have q0 := (hh.out.cell (p := ⟨_, _, none⟩) (lt_of_cell Q0.out)).trans Q0.out
              have q1 := (hh.out.cell (p := ⟨_, _, none⟩) (lt_of_cell Q1.out)).trans Q1.out
              go_wp2_with fail
              go_quiet (fail)
              replace hh := Lib.hid (bel_drewN hh.out nq)
              replace HO := Lib.hid (HO.out.below (bel_drewN (Below.refl _ _) nq))
              generalize hwz : World.drewN _ nq = wz at *
              clear hwz r0 r1 q0 q1
              have r0 := (hh.out.cell (p := ⟨_, _, none⟩) (lt_of_cell H0.out)).trans H0.out
              have r1 := (hh.out.cell (p := ⟨_, _, none⟩) (lt_of_cell H1.out)).trans H1.out
              have q0 := (hh.out.cell (p := ⟨_, _, none⟩) (lt_of_cell Q0.out)).trans Q0.out
              have q1 := (hh.out.cell (p := ⟨_, _, none⟩) (lt_of_cell Q1.out)).trans Q1.out
              go_wp2_with fail
              go_roundw
              case rel => exact ⟨k + 1, true, acc, by omega, by go_num, rfl, hh, HO, (by
                show _ = _
                have hge : d1 ≤ q1' := by have := HGE.out; omega
                rw [HF2.out, raise_step]; simp [hge, hne]), by show _ ≤ _; have := HL.out; simp; omega⟩
              case measure => simp [intOf]; omega
            · have hnb : (q1' != d1) = true := by rw [bne_iff_ne]; exact hne
              have r0 := (hh.out.cell (p := ⟨_, _, none⟩) (lt_of_cell H0.out)).trans H0.out
              have r1 := (hh.out.cell (p := ⟨_, _, none⟩) (lt_of_cell H1.out)).trans H1.out
              have q0 := (hh.out.cell (p := ⟨_, _, none⟩) (lt_of_cell Q0.out)).trans Q0.out
              have q1 := (hh.out.cell (p := ⟨_, _, none⟩) (lt_of_cell Q1.out)).trans Q1.out
              go_wp2_with fail
              go_quiet (fail)
              replace hh := Lib.hid (bel_drewN hh.out nq)
              replace HO := Lib.hid (HO.out.below (bel_drewN (Below.refl _ _) nq))
              generalize hwz : World.drewN _ nq = wz at *
              clear hwz r0 r1 q0 q1
              have r0 := (hh.out.cell (p := ⟨_, _, none⟩) (lt_of_cell H0.out)).trans H0.out
              have r1 := (hh.out.cell (p := ⟨_, _, none⟩) (lt_of_cell H1.out)).trans H1.out
              have q0 := (hh.out.cell (p := ⟨_, _, none⟩) (lt_of_cell Q0.out)).trans Q0.out
              have q1 := (hh.out.cell (p := ⟨_, _, none⟩) (lt_of_cell Q1.out)).trans Q1.out
              go_wp2_with fail
              go_quiet (fail)
              replace hh := Lib.hid (bel_drewN hh.out nq)
              replace HO := Lib.hid (HO.out.below (bel_drewN (Below.refl _ _) nq))
              generalize hwz : World.drewN _ nq = wz at *
              clear hwz r0 r1 q0 q1
              have r0 := (hh.out.cell (p := ⟨_, _, none⟩) (lt_of_cell H0.out)).trans H0.out
              have r1 := (hh.out.cell (p := ⟨_, _, none⟩) (lt_of_cell H1.out)).trans H1.out
              have q0 := (hh.out.cell (p := ⟨_, _, none⟩) (lt_of_cell Q0.out)).trans Q0.out
              have q1 := (hh.out.cell (p := ⟨_, _, none⟩) (lt_of_cell Q1.out)).trans Q1.out
              go_wp2_with (at_builtin; refine wpList_appD rfl _ _ _ rfl Tryz.underlying49 infoD _ _ rfl (HO.out.below ((Below.refl _ _).alloc (Nat.le_refl _) _)) (some ⟨wz.heap.size, 0, none⟩) [(q1', q2')] 1 rfl (lit_one wz (q1', q2') _) (fun h => by cases h) (by have := HL.out; have := HLX.out; simp; omega) (hh.out.alloc hh.out.size _).size ?_)
              intro v2 w2 ho hg _
              replace hh := Lib.hid ((hh.out.alloc hh.out.size (Obj.cells #[Value.int IntKind.i64 q1', Value.int IntKind.i64 q2'] 33)).grown hg (hh.out.alloc hh.out.size _).size (fun j hj => (HO.out.lt j hj).1))
              replace HO := Lib.hid ho
              obtain ⟨a2, c2, rfl, -⟩ := HO.out.row
              clear ho hg r0 r1 q0 q1
              have r0 := (hh.out.cell (p := ⟨_, _, none⟩) (lt_of_cell H0.out)).trans H0.out
              have r1 := (hh.out.cell (p := ⟨_, _, none⟩) (lt_of_cell H1.out)).trans H1.out
              have q0 := (hh.out.cell (p := ⟨_, _, none⟩) (lt_of_cell Q0.out)).trans Q0.out
              have q1 := (hh.out.cell (p := ⟨_, _, none⟩) (lt_of_cell Q1.out)).trans Q1.out
              go_wp2_with fail
              go_roundw
              case rel => exact ⟨k + 1, true, acc ++ [(q1', q2')], by omega, by go_num, rfl, hh, HO, (by
                show _ = _
                have hge : d1 ≤ q1' := by have := HGE.out; omega
                rw [HF2.out, raise_step]; simp [hge, hne]), by show _ ≤ _; have := HL.out; simp; omega⟩
              case measure => simp [intOf]; omega
        · have hd : decide (d1 ≤ q1') = false := by simpa using hge
          have HGE := Lib.hid hge
          have hne : ¬ q1' = d1 := by omega
          have hnb : (q1' != d1) = true := by rw [bne_iff_ne]; exact hne
          rcases b with _ | _
          · have r0 := (hh.out.cell (p := ⟨_, _, none⟩) (lt_of_cell H0.out)).trans H0.out
            have r1 := (hh.out.cell (p := ⟨_, _, none⟩) (lt_of_cell H1.out)).trans H1.out
            have q0 := (hh.out.cell (p := ⟨_, _, none⟩) (lt_of_cell Q0.out)).trans Q0.out
            have q1 := (hh.out.cell (p := ⟨_, _, none⟩) (lt_of_cell Q1.out)).trans Q1.out
            go_wp2_with fail
            go_quiet (fail)
            replace hh := Lib.hid (bel_drewN hh.out nq)
            replace HO := Lib.hid (HO.out.below (bel_drewN (Below.refl _ _) nq))
            generalize hwz : World.drewN _ nq = wz at *
            clear hwz r0 r1 q0 q1
            have r0 := (hh.out.cell (p := ⟨_, _, none⟩) (lt_of_cell H0.out)).trans H0.out
            have r1 := (hh.out.cell (p := ⟨_, _, none⟩) (lt_of_cell H1.out)).trans H1.out
            have q0 := (hh.out.cell (p := ⟨_, _, none⟩) (lt_of_cell Q0.out)).trans Q0.out
            have q1 := (hh.out.cell (p := ⟨_, _, none⟩) (lt_of_cell Q1.out)).trans Q1.out
            go_wp2_with fail
            go_quiet (fail)
            replace hh := Lib.hid (bel_drewN hh.out nq)
            replace HO := Lib.hid (HO.out.below (bel_drewN (Below.refl _ _) nq))
            generalize hwz : World.drewN _ nq = wz at *
            clear hwz r0 r1 q0 q1
            have r0 := (hh.out.cell (p := ⟨_, _, none⟩) (lt_of_cell H0.out)).trans H0.out
            have r1 := (hh.out.cell (p := ⟨_, _, none⟩) (lt_of_cell H1.out)).trans H1.out
            have q0 := (hh.out.cell (p := ⟨_, _, none⟩) (lt_of_cell Q0.out)).trans Q0.out
            have q1 := (hh.out.cell (p := ⟨_, _, none⟩) (lt_of_cell Q1.out)).trans Q1.out
            go_wp2_with (at_builtin; refine wpList_appD rfl _ _ _ rfl Tryz.underlying49 infoD _ _ rfl (HO.out.below ((Below.refl _ _).alloc (Nat.le_refl _) _)) (some ⟨wz.heap.size, 0, none⟩) [(q1', q2')] 1 rfl (lit_one wz (q1', q2') _) (fun h => by cases h) (by have := HL.out; have := HLX.out; simp; omega) (hh.out.alloc hh.out.size _).size ?_)
            intro v2 w2 ho hg _
            replace hh := Lib.hid ((hh.out.alloc hh.out.size (Obj.cells #[Value.int IntKind.i64 q1', Value.int IntKind.i64 q2'] 33)).grown hg (hh.out.alloc hh.out.size _).size (fun j hj => (HO.out.lt j hj).1))
            replace HO := Lib.hid ho
            obtain ⟨a2, c2, rfl, -⟩ := HO.out.row
            clear ho hg r0 r1 q0 q1
            have r0 := (hh.out.cell (p := ⟨_, _, none⟩) (lt_of_cell H0.out)).trans H0.out
            have r1 := (hh.out.cell (p := ⟨_, _, none⟩) (lt_of_cell H1.out)).trans H1.out
            have q0 := (hh.out.cell (p := ⟨_, _, none⟩) (lt_of_cell Q0.out)).trans Q0.out
            have q1 := (hh.out.cell (p := ⟨_, _, none⟩) (lt_of_cell Q1.out)).trans Q1.out
            go_wp2_with fail
            go_roundw
            case rel => exact ⟨k + 1, false, acc ++ [(q1', q2')], by omega, by go_num, rfl, hh, HO, (by
              show _ = _
              have hge : ¬ d1 ≤ q1' := by have := HGE.out; omega
              rw [HF2.out, raise_step]; simp [hge, hne]), by show _ ≤ _; have := HL.out; simp; omega⟩
            case measure => simp [intOf]; omega
          · have r0 := (hh.out.cell (p := ⟨_, _, none⟩) (lt_of_cell H0.out)).trans H0.out
            have r1 := (hh.out.cell (p := ⟨_, _, none⟩) (lt_of_cell H1.out)).trans H1.out
            have q0 := (hh.out.cell (p := ⟨_, _, none⟩) (lt_of_cell Q0.out)).trans Q0.out
            have q1 := (hh.out.cell (p := ⟨_, _, none⟩) (lt_of_cell Q1.out)).trans Q1.out
            go_wp2_with fail
            go_quiet (fail)
            replace hh := Lib.hid (bel_drewN hh.out nq)
            replace HO := Lib.hid (HO.out.below (bel_drewN (Below.refl _ _) nq))
            generalize hwz : World.drewN _ nq = wz at *
            clear hwz r0 r1 q0 q1
            have r0 := (hh.out.cell (p := ⟨_, _, none⟩) (lt_of_cell H0.out)).trans H0.out
            have r1 := (hh.out.cell (p := ⟨_, _, none⟩) (lt_of_cell H1.out)).trans H1.out
            have q0 := (hh.out.cell (p := ⟨_, _, none⟩) (lt_of_cell Q0.out)).trans Q0.out
            have q1 := (hh.out.cell (p := ⟨_, _, none⟩) (lt_of_cell Q1.out)).trans Q1.out
            go_wp2_with fail
            go_quiet (fail)
            replace hh := Lib.hid (bel_drewN hh.out nq)
            replace HO := Lib.hid (HO.out.below (bel_drewN (Below.refl _ _) nq))
            generalize hwz : World.drewN _ nq = wz at *
            clear hwz r0 r1 q0 q1
            have r0 := (hh.out.cell (p := ⟨_, _, none⟩) (lt_of_cell H0.out)).trans H0.out
            have r1 := (hh.out.cell (p := ⟨_, _, none⟩) (lt_of_cell H1.out)).trans H1.out
            have q0 := (hh.out.cell (p := ⟨_, _, none⟩) (lt_of_cell Q0.out)).trans Q0.out
            have q1 := (hh.out.cell (p := ⟨_, _, none⟩) (lt_of_cell Q1.out)).trans Q1.out
            go_wp2_with (at_builtin; refine wpList_appD rfl _ _ _ rfl Tryz.underlying49 infoD _ _ rfl (HO.out.below ((Below.refl _ _).alloc (Nat.le_refl _) _)) (some ⟨wz.heap.size, 0, none⟩) [(q1', q2')] 1 rfl (lit_one wz (q1', q2') _) (fun h => by cases h) (by have := HL.out; have := HLX.out; simp; omega) (hh.out.alloc hh.out.size _).size ?_)
            intro v2 w2 ho hg _
            replace hh := Lib.hid ((hh.out.alloc hh.out.size (Obj.cells #[Value.int IntKind.i64 q1', Value.int IntKind.i64 q2'] 33)).grown hg (hh.out.alloc hh.out.size _).size (fun j hj => (HO.out.lt j hj).1))
            replace HO := Lib.hid ho
            obtain ⟨a2, c2, rfl, -⟩ := HO.out.row
            clear ho hg r0 r1 q0 q1
            have r0 := (hh.out.cell (p := ⟨_, _, none⟩) (lt_of_cell H0.out)).trans H0.out
            have r1 := (hh.out.cell (p := ⟨_, _, none⟩) (lt_of_cell H1.out)).trans H1.out
            have q0 := (hh.out.cell (p := ⟨_, _, none⟩) (lt_of_cell Q0.out)).trans Q0.out
            have q1 := (hh.out.cell (p := ⟨_, _, none⟩) (lt_of_cell Q1.out)).trans Q1.out
            go_wp2_with fail
            go_roundw
            case rel => exact ⟨k + 1, true, acc ++ [(q1', q2')], by omega, by go_num, rfl, hh, HO, (by
              show _ = _
              have hge : ¬ d1 ≤ q1' := by have := HGE.out; omega
              rw [HF2.out, raise_step]; simp [hge, hne]), by show _ ≤ _; have := HL.out; simp; omega⟩
            case measure => simp [intOf]; omega
      · obtain rfl : k = v.length := by omega
        have hend : ¬ (v.length : Int) < (v.length : Int) := by omega
        have HF2 : Hid (raiseW (d1, d2) false v = acc ++ raiseW (d1, d2) b []) := by show _ = _; rw [HF.out, List.drop_length]
        have r0 := (hh.out.cell (p := ⟨_, _, none⟩) (lt_of_cell H0.out)).trans H0.out
        have r1 := (hh.out.cell (p := ⟨_, _, none⟩) (lt_of_cell H1.out)).trans H1.out
        clear HF
        rcases b with _ | _
        · generalize hwz : wr = wz at *
          clear hwz
          go_wp2_with (at_builtin; refine wpList_appD rfl _ _ _ rfl Tryz.underlying49 infoD _ _ rfl (HO.out.below ((Below.refl _ _).alloc (Nat.le_refl _) _)) (some ⟨wz.heap.size, 0, none⟩) [(d1, d2)] 1 rfl (lit_one wz (d1, d2) _) (fun h => by cases h) (by have := HL.out; have := HLX.out; simp; omega) (hh.out.alloc hh.out.size _).size ?_)
          intro v2 w2 ho hg _
          replace hh := Lib.hid ((hh.out.alloc hh.out.size (Obj.cells #[Value.int IntKind.i64 d1, Value.int IntKind.i64 d2] 33)).grown hg (hh.out.alloc hh.out.size _).size (fun j hj => (HO.out.lt j hj).1))
          have e : acc ++ [(d1, d2)] = raiseW (d1, d2) false v := by rw [HF2.out]; simp [raiseW]
          rw [e] at ho
          obtain ⟨a2, c2, rfl, hr, hn, hc, hz⟩ := ho.row
          have HZ : Hid (∀ x, a2 = some x → w.heap.size ≤ x.block) := fun x hx => Nat.le_trans HB.out.size (hz x hx).2.2.1
          have HR := Lib.hid hr
          have HN := Lib.hid (fun h => (hn h).1)
          have HC := Lib.hid hc
          clear ho hg hr hn hc e hz
          go_wp2_with fail
          go_ret
          exact ⟨_, _, rfl, HR.out, HN.out, HC.out, fun _ => HZ.out, HB.out.trans (hh.out.mono HB.out.size)⟩
        · have e : acc = raiseW (d1, d2) false v := by rw [HF2.out]; simp [raiseW]
          have ho := HO.out
          subst e
          obtain ⟨a2, c2, e, hr, hn, hc, hz⟩ := ho.row
          cases e
          have HZ : Hid (∀ x, a2 = some x → w.heap.size ≤ x.block) := fun x hx => Nat.le_trans HB.out.size (hz x hx).2.2.1
          have HR := Lib.hid hr
          have HN := Lib.hid (fun h => (hn h).1)
          have HC := Lib.hid hc
          clear ho hr hn hc hz
          go_wp2_with fail
          go_ret
          exact ⟨_, _, rfl, HR.out, HN.out, HC.out, fun _ => HZ.out, HB.out.trans (hh.out.mono HB.out.size)⟩
  · have hR : R = v := by rw [HE.out, hb, if_pos rfl]
    have HT : Hid (hasV v (d1, d2) = true) := hb
    clear hb HE
    subst hR
    go_wp2_with fail
    go_ret
    exact ⟨_, _, rfl, HX.out.keep HB.out, HN.out, HC.out, (fun h => by rw [HT.out] at h; cases h), HB.out⟩
end Go.Proofs.YtfpfihmihlmobaaGreat.F
end
