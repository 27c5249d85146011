/-
  Which dots are valid: nothing but new blocks; the counter of a replica, the program's and the reference's.
-/
import Derived.Test.YtefnoajkdhgonaaDVal
import Derived.Test.YtefnoajkdhgonaaDRefB
import Derived.Test.YtefnoajkdhgonaaEPure
namespace Go.Proofs.Ytefnoajkdhgonaa.E
set_option linter.unusedVariables false
open Go.RowKit V Go.Sort D

theorem lays_alloc (w : World) (o : Obj) : Lays w (w.alloc o) := ⟨0, _, by rw [alloc_eq_grow]; rfl⟩
theorem lays_refl (w : World) : Lays w w := ⟨0, #[], by cases w; simp [grow, World.drewN]⟩
theorem lays_tr {a b c : World} (h : Lays a b) (k : Lays b c) : Lays a c := by
  obtain ⟨q, os, rfl⟩ := h
  obtain ⟨q2, os2, rfl⟩ := k
  refine ⟨q + q2, os ++ os2, ?_⟩
  rw [← World.drewN_drewN, ← grow_grow]
  rfl
theorem lays_drewN {a b : World} (h : Lays a b) (n : Nat) : Lays a (b.drewN n) := lays_tr h ⟨n, #[], by cases b; simp [grow, World.drewN]⟩

set_option maxRecDepth 100000 in
set_option maxHeartbeats 1000000 in
theorem valid_lays (d : Dt) (w : World) : Calls Try.prog 57 #[dv d] w fun e w' => e = .returned (.bool (validR d)) ∧ Lays w w' := by
  have HE : Hid (validR d = (decide (0 < d.1) && decide (d.1 ≤ 64) && decide (0 < d.2) && decide (d.2 ≤ 4294967295))) := rfl
  obtain ⟨d1, d2⟩ := d
  generalize validR (d1, d2) = R at *
  by_cases h1 : 1 ≤ d1
  · by_cases h2 : d1 ≤ 64
    · by_cases h3 : 1 ≤ d2
      · by_cases h4 : d2 ≤ 4294967295
        · have hR : R = true := by rw [HE.out]; simp; omega
          clear HE
          subst hR
          go_enter Try.func57, Try.ntmps57
          go_wp2_with fail
          go_ret
          exact ⟨rfl, lays_alloc _ _⟩
        · have hR : R = false := by rw [HE.out]; simp; omega
          clear HE
          subst hR
          go_enter Try.func57, Try.ntmps57
          go_wp2_with fail
          go_ret
          exact ⟨rfl, lays_alloc _ _⟩
      · have hR : R = false := by rw [HE.out]; simp; omega
        clear HE
        subst hR
        go_enter Try.func57, Try.ntmps57
        go_wp2_with fail
        go_ret
        exact ⟨rfl, lays_alloc _ _⟩
    · have hR : R = false := by rw [HE.out]; simp; omega
      clear HE
      subst hR
      go_enter Try.func57, Try.ntmps57
      go_wp2_with fail
      go_ret
      exact ⟨rfl, lays_alloc _ _⟩
  · have hR : R = false := by rw [HE.out]; simp; omega
    clear HE
    subst hR
    go_enter Try.func57, Try.ntmps57
    go_wp2_with fail
    go_ret
    exact ⟨rfl, lays_alloc _ _⟩
set_option maxRecDepth 100000 in
set_option maxHeartbeats 1000000 in
theorem valid_lays_ref (d : Dt) (w : World) : Calls Try.prog 59 #[dv d] w fun e w' => e = .returned (.bool (validR d)) ∧ Lays w w' := by
  have HE : Hid (validR d = (decide (0 < d.1) && decide (d.1 ≤ 64) && decide (0 < d.2) && decide (d.2 ≤ 4294967295))) := rfl
  obtain ⟨d1, d2⟩ := d
  generalize validR (d1, d2) = R at *
  by_cases h1 : 0 < d1
  · by_cases h2 : d1 ≤ 64
    · by_cases h3 : 0 < d2
      · by_cases h4 : d2 ≤ 4294967295
        · have hR : R = true := by rw [HE.out]; simp; omega
          clear HE
          subst hR
          go_enter Try.func59, Try.ntmps59
          go_wp2_with fail
          go_ret
          exact ⟨rfl, lays_alloc _ _⟩
        · have hR : R = false := by rw [HE.out]; simp; omega
          clear HE
          subst hR
          go_enter Try.func59, Try.ntmps59
          go_wp2_with fail
          go_ret
          exact ⟨rfl, lays_alloc _ _⟩
      · have hR : R = false := by rw [HE.out]; simp; omega
        clear HE
        subst hR
        go_enter Try.func59, Try.ntmps59
        go_wp2_with fail
        go_ret
        exact ⟨rfl, lays_alloc _ _⟩
    · have hR : R = false := by rw [HE.out]; simp; omega
      clear HE
      subst hR
      go_enter Try.func59, Try.ntmps59
      go_wp2_with fail
      go_ret
      exact ⟨rfl, lays_alloc _ _⟩
  · have hR : R = false := by rw [HE.out]; simp; omega
    clear HE
    subst hR
    go_enter Try.func59, Try.ntmps59
    go_wp2_with fail
    go_ret
    exact ⟨rfl, lays_alloc _ _⟩
theorem validG (d : Dt) (W : World) (n : Nat) (os : Array Obj) : Calls Try.prog 57 #[dv d] (grow (W.drewN n) os) fun e w'' => e = .returned (.bool (validR d)) ∧ ∃ p : GrownBy, w'' = grow (W.drewN p.n) p.os :=
  Calls.grown_of (valid_lays d _)
theorem validG_ref (d : Dt) (W : World) (n : Nat) (os : Array Obj) : Calls Try.prog 59 #[dv d] (grow (W.drewN n) os) fun e w'' => e = .returned (.bool (validR d)) ∧ ∃ p : GrownBy, w'' = grow (W.drewN p.n) p.os :=
  Calls.grown_of (valid_lays_ref d _)

/-! ### The counter of a replica -/
theorem get_pass {v : List Dt} {r : Int} : ∀ {k : Nat}, (∀ j (hj : j < v.length), j < k → v[j].1 ≠ r) → getV v r = getV (v.drop k) r := by
  intro k
  induction k with
  | zero => intro _; rw [List.drop_zero]
  | succ k ih =>
    intro h
    rw [ih fun j hj hjk => h j hj (by omega)]
    by_cases hk : k < v.length
    · rw [List.drop_eq_getElem_cons hk, getV, if_neg (h k hk (by omega))]
    · rw [List.drop_of_length_le (by omega), List.drop_of_length_le (by omega)]
theorem get_here {v : List Dt} {r : Int} {k : Nat} (hk : k < v.length) (h : ∀ j (hj : j < v.length), j < k → v[j].1 ≠ r) (e : v[k].1 = r) : getV v r = v[k].2 := by
  rw [get_pass h, List.drop_eq_getElem_cons hk, getV, if_pos e]
theorem get_away {v : List Dt} {r : Int} (h : ∀ j (hj : j < v.length), v[j].1 ≠ r) : getV v r = 0 :=
  get_none fun x hx => by
    obtain ⟨j, hj, rfl⟩ := List.mem_iff_getElem.1 hx
    exact h j hj

set_option maxRecDepth 100000 in
set_option maxHeartbeats 1000000 in
theorem get_ref (v : List Dt) (r : Int) (a : Option Addr) (c : Nat) (w : World) (hx : RowD w a v) (hlx : v.length ≤ 140737488355328) :
    Calls Try.prog 51 #[.slice a v.length c, .int .i64 r] w fun e w' => e = .returned (.int .i64 (getV v r)) ∧ Lays w w' := by
  have HX := Lib.hid hx
  have hli : (v.length : Int) ≤ 140737488355328 := by omega
  clear hx hlx
  go_enter Try.func51, Try.ntmps51
  go_wp2_with fail
  go_loopw [5] (fun i wr => ∃ k : Nat, k ≤ v.length ∧ i = .int .i64 k ∧ Hid (Lays w wr) ∧ Hid (∀ j (hj : j < v.length), j < k → v[j].1 ≠ r)) (fun i _ => v.length - (intOf i).toNat)
  case atStart => exact ⟨0, Nat.zero_le _, rfl, lays_refl _, fun j _ h => by omega⟩
  case round =>
    obtain ⟨k, hk, rfl, hh, HV⟩ := hrel
    by_cases hlt : k < v.length
    · obtain ⟨b1, o1, rfl, p0, p1⟩ := HX.out.get hh.out.bel k hlt
      obtain ⟨p, hp⟩ : ∃ p, p = v[k] := ⟨_, rfl⟩
      rw [← hp] at p0 p1
      have HP := Lib.hid hp
      clear hp
      by_cases hpq : p.1 = r
      · have HN : Hid (getV v r = p.2) := by
          show _ = _
          rw [HP.out]
          exact get_here hlt HV.out (by rw [← HP.out]; exact hpq)
        obtain ⟨p1', p2'⟩ := p
        simp only at hpq p0 p1
        subst hpq
        go_wp2_with fail
        go_ret
        exact ⟨by rw [HN.out]; rfl, hh.out⟩
      · have hne : (p.1 == r) = false := by rw [beq_eq_false_iff_ne]; exact hpq
        go_wp2_with fail
        go_roundw
        case rel =>
          refine ⟨k + 1, by omega, by go_num, hh, fun j hj hjk => ?_⟩
          by_cases hjk2 : j = k
          · subst hjk2; rw [← HP.out]; exact hpq
          · exact HV.out j hj (by omega)
        case measure => simp [intOf]; omega
    · have HN : Hid (getV v r = 0) := get_away fun j hj => HV.out j hj (by omega)
      have hend : ¬ (k : Int) < (v.length : Int) := by omega
      go_wp2_with fail
      go_ret
      exact ⟨by rw [HN.out]; rfl, hh.out⟩

set_option maxRecDepth 100000 in
set_option maxHeartbeats 1000000 in
theorem get_any (v : List Dt) (r : Int) (a : Option Addr) (c : Nat) (w : World) (hx : RowD w a v) (hlx : v.length ≤ 140737488355328) :
    Calls Try.prog 75 #[.slice a v.length c, .int .i64 r] w fun e w' => e = .returned (.int .i64 (getV v r)) ∧ Lays w w' := by
  have HX := Lib.hid hx
  have hli : (v.length : Int) ≤ 140737488355328 := by omega
  clear hx hlx
  go_enter Try.func75, Try.ntmps75
  go_wp2_with fail
  go_loopw [9, 6] (fun i _ wr => ∃ k : Nat, k ≤ v.length ∧ i = .int .i64 k ∧ Hid (Lays w wr) ∧ Hid (∀ j (hj : j < v.length), j < k → v[j].1 ≠ r)) (fun i _ _ => v.length - (intOf i).toNat)
  case atStart => exact ⟨0, Nat.zero_le _, rfl, lays_refl _, fun j _ h => by omega⟩
  case round =>
    obtain ⟨k, hk, rfl, hh, HV⟩ := hrel
    by_cases hlt : k < v.length
    · obtain ⟨b1, o1, rfl, p0, p1⟩ := HX.out.get hh.out.bel k hlt
      obtain ⟨p, hp⟩ : ∃ p, p = v[k] := ⟨_, rfl⟩
      rw [← hp] at p0 p1
      have HP := Lib.hid hp
      clear hp
      by_cases hpq : p.1 = r
      · have HN : Hid (getV v r = p.2) := by
          show _ = _
          rw [HP.out]
          exact get_here hlt HV.out (by rw [← HP.out]; exact hpq)
        obtain ⟨p1', p2'⟩ := p
        simp only at hpq p0 p1
        subst hpq
        go_wp2_with fail
        go_ret
        exact ⟨by rw [HN.out]; rfl, lays_tr hh.out (lays_alloc _ _)⟩
      · have hne : (p.1 == r) = false := by rw [beq_eq_false_iff_ne]; exact hpq
        go_wp2_with fail
        go_roundw
        case rel =>
          refine ⟨k + 1, by omega, by go_num, lays_tr hh.out (lays_alloc _ _), fun j hj hjk => ?_⟩
          by_cases hjk2 : j = k
          · subst hjk2; rw [← HP.out]; exact hpq
          · exact HV.out j hj (by omega)
        case measure => simp [intOf]; omega
    · have HN : Hid (getV v r = 0) := get_away fun j hj => HV.out j hj (by omega)
      have hend : ¬ (k : Int) < (v.length : Int) := by omega
      go_wp2_with fail
      go_ret
      exact ⟨by rw [HN.out]; rfl, hh.out⟩
theorem getG (v : List Dt) (r : Int) (a : Option Addr) (c : Nat) (W : World) (hx : RowD W a v) (hlx : v.length ≤ 140737488355328) (n : Nat) (os : Array Obj) :
    Calls Try.prog 75 #[.slice a v.length c, .int .i64 r] (grow (W.drewN n) os) fun e w'' => e = .returned (.int .i64 (getV v r)) ∧ ∃ p : GrownBy, w'' = grow (W.drewN p.n) p.os :=
  Calls.grown_of (get_any v r a c _ (hx.keep (bel_grown (Below.refl _ _) (Nat.le_refl _) n os)) hlx)
theorem getG_ref (v : List Dt) (r : Int) (a : Option Addr) (c : Nat) (W : World) (hx : RowD W a v) (hlx : v.length ≤ 140737488355328) (n : Nat) (os : Array Obj) :
    Calls Try.prog 51 #[.slice a v.length c, .int .i64 r] (grow (W.drewN n) os) fun e w'' => e = .returned (.int .i64 (getV v r)) ∧ ∃ p : GrownBy, w'' = grow (W.drewN p.n) p.os :=
  Calls.grown_of (get_ref v r a c _ (hx.keep (bel_grown (Below.refl _ _) (Nat.le_refl _) n os)) hlx)
end Go.Proofs.Ytefnoajkdhgonaa.E
