/-
  The reference's Digits and Text.
-/
import Derived.Test.YtmmcnpcijeahcabGreatDoorDVal
import Derived.Test.YtmmcnpcijeahcabGreatDoorDNum
import Derived.Test.YtmmcnpcijeahcabGreatDoorDRefB
namespace Go.Proofs.YtmmcnpcijeahcabGreatDoor.D
set_option linter.unusedVariables false
open Go.RowKit V Go.Sort

theorem ten {d : Nat} (h : d < 10) : d = 0 ∨ d = 1 ∨ d = 2 ∨ d = 3 ∨ d = 4 ∨ d = 5 ∨ d = 6 ∨ d = 7 ∨ d = 8 ∨ d = 9 := by omega
theorem cut_dig (d : Nat) (h : d < 10) (w : World) :
    (Instr.slice 9 (.string { data := #[48, 49, 50, 51, 52, 53, 54, 55, 56, 57] }) (some (.int .i64 (d : Int))) (some (.int .i64 ((d : Int) + 1))) none).run Tryz.prog w = .ok (.string ⟨(Lib.decDigits d).toArray⟩) w := by
  rw [dig_small h]
  rcases ten h with rfl | rfl | rfl | rfl | rfl | rfl | rfl | rfl | rfl | rfl
  all_goals (show Sem.run _ _ _ = _; kernel_rfl)
theorem dig_len : ∀ (k n : Nat), n < 10 ^ (k + 1) → (Lib.decDigits n).length ≤ k + 1
  | 0, n, h => by rw [dig_small (by simpa using h)]; simp
  | k + 1, n, h => by
    by_cases h10 : n < 10
    · rw [dig_small h10]; simp
    · rw [dig_big h10, List.length_append]
      have h2 : n < 10 ^ (k + 1) * 10 := by rw [← Nat.pow_succ]; exact h
      have := dig_len k (n / 10) (by omega)
      simp
      omega
theorem dig_len64 {n : Nat} (h : n ≤ 9223372036854775807) : (Lib.decDigits n).length ≤ 19 := dig_len 18 n (by omega)

set_option maxRecDepth 100000 in
set_option maxHeartbeats 1000000 in
theorem digits_ref : ∀ (n : Nat), n ≤ 9223372036854775807 → ∀ (w : World), Calls Tryz.prog 38 #[.int .i64 (n : Int)] w fun e w' => e = .returned (.string ⟨(Lib.decDigits n).toArray⟩) ∧ w' = w := by
  intro n
  induction n using Nat.strongRecOn with
  | _ n ih =>
    intro hn w
    by_cases h : n < 10
    · have hi : (n : Int) < 10 := by omega
      have hc := cut_dig n h
      clear ih hn h
      generalize (⟨(Lib.decDigits n).toArray⟩ : ByteArray) = S at *
      go_enter Tryz.func38, Tryz.ntmps38
      go_wp2_with fail
      go_ret
      exact ⟨rfl, rfl⟩
    · have hi : ¬ (n : Int) < 10 := by omega
      obtain ⟨q, hq⟩ : ∃ q, q = n / 10 := ⟨_, rfl⟩
      obtain ⟨r, hr⟩ : ∃ r, r = n % 10 := ⟨_, rfl⟩
      have I1 := Lib.hid (fun w => ih q (by omega) (by omega) w)
      have I2 := Lib.hid (fun w => ih r (by omega) (by omega) w)
      have e1 : (n : Int) / 10 = (q : Int) := by omega
      have e2 : (n : Int) % 10 = (r : Int) := by omega
      have HD : Hid (Lib.decDigits n = Lib.decDigits q ++ Lib.decDigits r) := by
        show _ = _
        rw [dig_big h, hq, dig_small (u := r) (by omega), hr]
      have l1 := dig_len64 (n := q) (by omega)
      have l2 := dig_len64 (n := r) (by omega)
      clear hq hr
      have hnb : (n : Int) ≤ 9223372036854775807 := by omega
      clear ih h hn
      generalize Lib.decDigits n = l0 at *
      generalize Lib.decDigits q = l at *
      generalize Lib.decDigits r = m at *
      go_enter Tryz.func38, Tryz.ntmps38
      go_wp2_with fail
      refine (I1.out _).mono ?_
      rintro e w1 ⟨rfl, rfl⟩
      go_wp2_with fail
      refine (I2.out _).mono ?_
      rintro e w1 ⟨rfl, rfl⟩
      go_wp2_with fail
      go_ret
      rw [HD.out]
      exact ⟨congrArg (fun s => Ending.returned (Value.string s)) (G.str_app l m), rfl⟩

/-- The dots that have a text: none, or two numbers that are not great. -/
theorem named_cases {d : Dt} (h : named d) : d = (0, 0) ∨ ∃ a b : Nat, d = ((a : Int), (b : Int)) ∧ a ≤ 64 ∧ b ≤ 4294967295 ∧ rootR d = false ∧ validR d = true ∧ txtD d = Lib.decDigits a ++ [46] ++ Lib.decDigits b := by
  rcases h with h | h
  · right
    obtain ⟨h1, h2, h3, h4⟩ := valid_iff.1 h
    refine ⟨d.1.toNat, d.2.toNat, ?_, by omega, by omega, valid_not_root h, h, txt_valid h⟩
    exact Prod.ext (by show d.1 = _; omega) (by show d.2 = _; omega)
  · exact .inl (root_iff.1 h)

set_option maxRecDepth 100000 in
set_option maxHeartbeats 1000000 in
theorem text_ref (d : Dt) (hd : named d) (w : World) : Calls Tryz.prog 37 #[dv d] w fun e w' => e = .returned (.string ⟨(txtD d).toArray⟩) ∧ Below w.heap.size w w' := by
  rcases named_cases hd with rfl | ⟨a, b, rfl, ha, hb, hr, -, ht⟩
  · have HR := Lib.hid (fun w => root_ref (0, 0) w)
    rw [show rootR (0, 0) = true from rfl] at HR
    rw [show txtD (0, 0) = rootT from rfl]
    clear hd
    go_enter Tryz.func37, Tryz.ntmps37
    go_wp2_with fail
    refine (HR.out _).mono ?_
    rintro e w1 ⟨rfl, hb⟩
    have HB := bel_tr (Lib.hid (bel_box w _)) hb
    clear hb HR
    go_wp2_with fail
    go_ret
    exact ⟨rfl, HB.out⟩
  · have HR := Lib.hid (fun w => root_ref ((a : Int), (b : Int)) w)
    rw [hr] at HR
    rw [ht]
    have HA := Lib.hid (fun w => digits_ref a (by omega) w)
    have HBd := Lib.hid (fun w => digits_ref b (by omega) w)
    have l1 := dig_len64 (n := a) (by omega)
    have l2 := dig_len64 (n := b) (by omega)
    clear hd hr ht ha hb
    generalize Lib.decDigits a = l at *
    generalize Lib.decDigits b = m at *
    go_enter Tryz.func37, Tryz.ntmps37
    go_wp2_with fail
    refine (HR.out _).mono ?_
    rintro e w1 ⟨rfl, hb⟩
    have k0 : w1.cell? ⟨w.heap.size, 0, none⟩ = some (.int .i64 (a : Int)) := (hb.cell (p := ⟨_, _, none⟩) (by simp)).trans (by go_simp)
    have k1 : w1.cell? ⟨w.heap.size, 1, none⟩ = some (.int .i64 (b : Int)) := (hb.cell (p := ⟨_, _, none⟩) (by simp)).trans (by go_simp)
    have HB := bel_tr (Lib.hid (bel_box w _)) hb
    clear hb HR
    go_wp2_with fail
    refine wp_region_quiet_lit (by kernel_rfl) (by kernel_rfl) ?_
    repeat (first | go_big_quiet_skip | (go_big_quiet_want; go_big_quiet_op; go_big_quiet_on))
    go_big_quiet_want
    go_big_quiet_op
    go_big_quiet_call ((go_at_call 38; exact Calls.quiet_of_same (HA.out _)))
    repeat (first | go_big_quiet_skip | (go_big_quiet_want; go_big_quiet_op; go_big_quiet_on))
    go_big_quiet_want
    go_big_quiet_op
    go_big_quiet_call ((go_at_call 38; exact Calls.quiet_of_same (HBd.out _)))
    repeat (first | go_big_quiet_skip | (go_big_quiet_want; go_big_quiet_op; go_big_quiet_on))
    refine wpQuiet_nil ?_
    intro _ hw'
    obtain ⟨nq, hw''⟩ := hw'
    subst hw''
    go_wp2_with fail
    go_ret
    refine ⟨?_, bel_drewN HB.out _⟩
    show Ending.returned (Value.string ((⟨l.toArray⟩ : ByteArray) ++ ⟨[46].toArray⟩ ++ ⟨m.toArray⟩)) = _
    rw [G.str_app, G.str_app]

/-- What Text says. -/
def txtR (d : Dt) : List UInt8 × Int := if (rootR d || validR d) = true then (txtD d, 0) else ([], 2)
theorem txtR_root : txtR (0, 0) = (rootT, 0) := rfl
theorem txtR_valid {d : Dt} (h : validR d = true) : txtR d = (txtD d, 0) := by unfold txtR; rw [h, Bool.or_true, if_pos rfl]
theorem txtR_no {d : Dt} (h : validR d = false) (k : rootR d = false) : txtR d = ([], 2) := by unfold txtR; rw [h, k]; rfl

set_option maxRecDepth 100000 in
set_option maxHeartbeats 1000000 in
theorem text_any (d : Dt) (w : World) (hL : Ld w) : Calls Tryz.prog 44 #[dv d] w fun e w' => e = .returned (.tuple #[.string ⟨(txtR d).1.toArray⟩, .int .i64 (txtR d).2]) ∧ Below w.heap.size w w' := by
  have HRo := Lib.hid (fun w => root_any d w)
  have HVa := Lib.hid (fun w => valid_any d w)
  have HLd := Lib.hid hL
  clear hL
  rcases hr : rootR d with _ | _
  · rcases hv : validR d with _ | _
    · rw [txtR_no hv hr]
      rw [hr] at HRo
      rw [hv] at HVa
      clear hr hv
      obtain ⟨d1, d2⟩ := d
      go_enter Tryz.func44, Tryz.ntmps44
      go_wp2_with fail
      refine (HRo.out _).mono ?_
      rintro e w1 ⟨rfl, hb⟩
      have k0 : w1.cell? ⟨w.heap.size, 0, none⟩ = some (.int .i64 d1) := (hb.cell (p := ⟨_, _, none⟩) (by simp)).trans (by go_simp)
      have k1 : w1.cell? ⟨w.heap.size, 1, none⟩ = some (.int .i64 d2) := (hb.cell (p := ⟨_, _, none⟩) (by simp)).trans (by go_simp)
      have HB := bel_tr (Lib.hid (bel_box w _)) hb
      clear hb HRo
      go_wp2_with fail
      refine (HVa.out _).mono ?_
      rintro e w2 ⟨rfl, hb⟩
      replace HB := bel_tr HB hb
      clear hb HVa k0 k1
      go_wp2_with fail
      go_ret2
      exact ⟨rfl, HB.out⟩
    · rw [txtR_valid hv]
      obtain rfl | ⟨a, b, rfl, ha, hb, -, -, ht⟩ := named_cases (.inl hv)
      · cases hr
      rw [ht]
      rw [hr] at HRo
      rw [hv] at HVa
      have l1 := dig_len64 (n := a) (by omega)
      have l2 := dig_len64 (n := b) (by omega)
      have HA := Lib.hid (fun (wx : World) (h : Ld wx) => Tryz.strconv_Itoa (a : Int) (by omega) (by omega) wx h.1)
      have HBd := Lib.hid (fun (wx : World) (h : Ld wx) => Tryz.strconv_Itoa (b : Int) (by omega) (by omega) wx h.1)
      rw [Lib.itoa_nonneg] at HA HBd
      clear hr hv ht ha hb
      generalize Lib.decDigits a = l at *
      generalize Lib.decDigits b = m at *
      go_enter Tryz.func44, Tryz.ntmps44
      go_wp2_with fail
      refine (HRo.out _).mono ?_
      rintro e w1 ⟨rfl, hb⟩
      have k0 : w1.cell? ⟨w.heap.size, 0, none⟩ = some (.int .i64 (a : Int)) := (hb.cell (p := ⟨_, _, none⟩) (by simp)).trans (by go_simp)
      have k1 : w1.cell? ⟨w.heap.size, 1, none⟩ = some (.int .i64 (b : Int)) := (hb.cell (p := ⟨_, _, none⟩) (by simp)).trans (by go_simp)
      have HB := bel_tr (Lib.hid (bel_box w _)) hb
      clear hb HRo
      go_wp2_with fail
      refine (HVa.out _).mono ?_
      rintro e w2 ⟨rfl, hb⟩
      replace HB := bel_tr HB hb
      replace k0 := cellG ((hb.cell (p := ⟨_, _, none⟩) (lt_of_cell k0)).trans k0)
      replace k1 := cellG ((hb.cell (p := ⟨_, _, none⟩) (lt_of_cell k1)).trans k1)
      clear hb HVa
      have HA2 := Lib.hid (fun n os => Calls.grown_of (HA.out (grow (w2.drewN n) os) (HLd.out.below (bel_grown HB.out HB.out.size n os))))
      have HB2 := Lib.hid (fun n os => Calls.grown_of (HBd.out (grow (w2.drewN n) os) (HLd.out.below (bel_grown HB.out HB.out.size n os))))
      have mixed := mixed
      go_wp2_with fail
      refine wp_region_quiet_grown mixed (by kernel_rfl) ?_
      repeat (first | go_big_quiet_skip | (go_big_quiet_want; go_big_quiet_op; go_big_quiet_on))
      go_big_quiet_want
      go_big_quiet_op
      go_big_quiet_call ((go_at_call 46; exact HA2.out _ _))
      repeat (first | go_big_quiet_skip | (go_big_quiet_want; go_big_quiet_op; go_big_quiet_on))
      go_big_quiet_want
      go_big_quiet_op
      go_big_quiet_call ((go_at_call 46; exact HB2.out _ _))
      repeat (first | go_big_quiet_skip | (go_big_quiet_want; go_big_quiet_op; go_big_quiet_on))
      refine wpQuiet_nil ?_
      intro _ hw'
      obtain ⟨⟨nq, osq⟩, hw''⟩ := hw'
      subst hw''
      go_wp2_with fail
      go_ret2
      refine ⟨?_, bel_grown HB.out HB.out.size _ _⟩
      show Ending.returned (Value.tuple #[Value.string ((⟨l.toArray⟩ : ByteArray) ++ ⟨[46].toArray⟩ ++ ⟨m.toArray⟩), _]) = _
      rw [G.str_app, G.str_app]
      rfl
  · obtain rfl := root_iff.1 hr
    rw [txtR_root]
    rw [hr] at HRo
    clear hr HVa
    go_enter Tryz.func44, Tryz.ntmps44
    go_wp2_with fail
    refine (HRo.out _).mono ?_
    rintro e w1 ⟨rfl, hb⟩
    have HB := bel_tr (Lib.hid (bel_box w _)) hb
    clear hb HRo
    go_wp2_with fail
    go_ret2
    exact ⟨rfl, HB.out⟩
end Go.Proofs.YtmmcnpcijeahcabGreatDoor.D
