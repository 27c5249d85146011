/-
  AllocMany: every input gives true.
-/
import Derived.Test.YtkbbbjcigjlopaaHKnown
namespace Go.Proofs.Ytkbbbjcigjlopaa.H
set_option linter.unusedVariables false
open Go.RowKit V Go.Sort D

theorem newOk_many {left : Int} (h1 : -3 ≤ left) (h2 : left ≤ 3) : newOk 5 10 (65546 + left) = true := by
  rw [newOk_iff]; omega
set_option maxRecDepth 100000 in
set_option maxHeartbeats 4000000 in
theorem many_law (more left : Int) (w : World) (hm1 : -9223372036854775808 ≤ more) (hm2 : more ≤ 9223372036854775807) (hl1 : -9223372036854775808 ≤ left) (hl2 : left ≤ 9223372036854775807) : Calls Try.prog 5 #[.int .i64 more, .int .i64 left] w fun x w' => x = .returned (.bool true) ∧ Below w.heap.size w w' := by
  have HK := Lib.hid (fun w => known_any w)
  have key : (more < -2 ∨ (¬ more < -2 ∧ 2 < more) ∨ (¬ more < -2 ∧ ¬ 2 < more ∧ left < -3) ∨ (¬ more < -2 ∧ ¬ 2 < more ∧ ¬ left < -3 ∧ 3 < left)) ∨ (-2 ≤ more ∧ more ≤ 2 ∧ -3 ≤ left ∧ left ≤ 3) := by omega
  rcases key with hbad | ⟨h1, h2, h3, h4⟩
  · clear hm1 hm2 hl1 hl2
    rcases hbad with h1 | ⟨h1, h2⟩ | ⟨h1, h2, h3⟩ | ⟨h1, h2, h3, h4⟩
    all_goals
      go_enter Try.func5, Try.ntmps5
      go_wp2_with fail
      refine (HK.out _).mono ?_
      rintro e w1 ⟨rfl, hb⟩
      have HB := Lib.hid hb
      clear hb
      go_wp2_with fail
      go_ret
      exact ⟨rfl, HB.out⟩
  clear hm1 hm2 hl1 hl2
  have HN := Lib.hid (new_ok 5 10 (65546 + left) w (newOk_many h3 h4))
  by_cases hp : 0 < more
  · go_enter Try.func5, Try.ntmps5
    go_wp2_with fail
    refine HN.out.mono ?_
    rintro e w1 ⟨g, rfl, hg, ha, hb⟩
    have HA := Lib.hid ha
    have HB := Lib.hid hb
    clear ha hb hg HN
    go_wp2_with fail
    refine (take_arg g _ _ _ HA.out (.inr (by omega))).mono ?_
    rintro e w2 ⟨rfl, hb⟩
    replace HA := Lib.hid (HA.out.keep hb)
    replace HB := bel_tr HB hb
    clear hb
    go_wp2_with fail
    refine (last_any _ _ _ HA.out.sa).mono ?_
    rintro e w3 ⟨rfl, hl⟩
    replace HB := bel_tr HB hl.bel
    clear hl
    go_wp2_with fail
    refine (HK.out _).mono ?_
    rintro e w4 ⟨rfl, hb⟩
    replace HB := bel_tr HB hb
    clear hb
    go_wp2_with fail
    go_ret
    exact ⟨rfl, HB.out⟩
  by_cases hq : left < more
  · go_enter Try.func5, Try.ntmps5
    go_wp2_with fail
    refine HN.out.mono ?_
    rintro e w1 ⟨g, rfl, hg, ha, hb⟩
    have HA := Lib.hid ha
    have HB := Lib.hid hb
    clear ha hb hg HN
    go_wp2_with fail
    refine (take_end g _ _ _ HA.out (by omega) (by omega) (by simp only; omega)).mono ?_
    rintro e w2 ⟨rfl, hb⟩
    replace HA := Lib.hid (HA.out.keep hb)
    replace HB := bel_tr HB hb
    clear hb
    go_wp2_with fail
    refine (last_any _ _ _ HA.out.sa).mono ?_
    rintro e w3 ⟨rfl, hl⟩
    replace HB := bel_tr HB hl.bel
    clear hl
    go_wp2_with fail
    refine (HK.out _).mono ?_
    rintro e w4 ⟨rfl, hb⟩
    replace HB := bel_tr HB hb
    clear hb
    go_wp2_with fail
    go_ret
    exact ⟨rfl, HB.out⟩
  have HT : Hid (∃ n : Nat, 65536 + more = (n : Int) ∧ ∀ g w, Am w g ⟨5, 10, 65546 + left⟩ → Calls Try.prog 18 #[.pointer (some ⟨g, 0, none⟩), .int .i64 (65536 + more)] w fun e w' => ∃ b, e = .returned (.tuple #[.slice (some ⟨b, 0, none⟩) n n, .int .i64 0]) ∧ RowD w' (some ⟨b, 0, none⟩) (dotsA 5 10 n) ∧ w.heap.size ≤ b ∧ Am w' g ⟨5, 10 + (n : Int), 65546 + left⟩ ∧ w.grownBy w' (some g)) := by
    obtain ⟨n, hn⟩ : ∃ n : Nat, 65536 + more = (n : Int) := ⟨(65536 + more).toNat, by omega⟩
    refine ⟨n, hn, fun g w h => ?_⟩
    rw [hn]
    exact take_no g ⟨5, 10, 65546 + left⟩ n w h (by omega) (by simp only; omega)
  go_enter Try.func5, Try.ntmps5
  go_wp2_with fail
  refine HN.out.mono ?_
  rintro e w1 ⟨g, rfl, hg, ha, hb⟩
  have HA := Lib.hid ha
  have HB := Lib.hid hb
  have HG := Lib.hid hg
  clear ha hb hg HN
  go_wp2_with fail
  obtain ⟨n, hn, hT⟩ := HT.out
  refine (hT g _ HA.out).mono ?_
  clear hT
  rintro e w2 ⟨b, rfl, hr, hbb, ha, hgr⟩
  replace HB := Lib.hid (below_gb HB.out hgr HB.out.size HG.out)
  replace HA := Lib.hid ha
  have HX := Lib.hid hr
  have HM := Lib.hid hn
  have HLf := Lib.hid (fun w (h : Am w g ⟨5, 10 + (n : Int), 65546 + left⟩) => left_eq (z := left - more) h (by have := HM.out; simp only; omega))
  have e1 : ((left - more) != (left - more)) = false := by simp
  have e2 : ((n : Int) != 65536 + more) = false := by rw [HM.out]; simp
  have hnl : (n : Int) ≤ 140737488355328 := by omega
  clear hr hbb ha hgr HT hn
  go_wp2_with fail
  refine (HLf.out _ HA.out).mono ?_
  rintro e w3 ⟨rfl, hl⟩
  replace HB := bel_tr HB hl.bel
  replace HX := Lib.hid (HX.out.keep hl.bel)
  clear hl e1 e2 HLf HA
  go_wp2_with fail
  clear HM h1 h2 h3 h4 hp hq
  go_loopw [100] (fun i wr => ∃ k : Nat, k ≤ n ∧ i = .int .i64 (k : Int) ∧ Hid (Below w.heap.size w wr) ∧ Hid (Below w3.heap.size w3 wr)) (fun i _ => n - (intOf i).toNat)
  case atStart => exact ⟨0, Nat.zero_le _, rfl, HB, Below.refl _ _⟩
  case round =>
    obtain ⟨k, hk, rfl, HB, HC⟩ := hrel
    by_cases hlt : k < n
    · have hkn : (k : Int) < (n : Int) := by omega
      obtain ⟨b1, o1, e1, p0, p1⟩ := HX.out.get HC.out k (by rw [dotsA_len]; exact hlt)
      simp only [Option.some.injEq, Addr.mk.injEq] at e1
      obtain ⟨rfl, rfl, -⟩ := e1
      have hv : (dotsA 5 10 n)[k]'(by rw [dotsA_len]; exact hlt) = (5, 11 + (k : Int)) := by rw [dotsA_at]; congr 1
      rw [hv] at p0 p1
      have hix := ix_dot b 0 n n k (k : Int) rfl hlt
      simp only [Nat.zero_add] at p0 p1 hix
      clear hv
      have hne : ∀ w, Sem.run Try.prog (binOp .neq 39 (.agg #[.int .i64 5, .int .i64 (11 + (k : Int))]) (.agg #[.int .i64 5, .int .i64 (11 + (k : Int))])) w = .ok (.bool false) w := fun w => by
        have := neq_dot (5, 11 + (k : Int)) (5, 11 + (k : Int)) w
        rwa [show (!decide (((5, 11 + (k : Int)) : Dt) = (5, 11 + (k : Int)))) = false by simp] at this
      go_wp2_with fail
      generalize hwx : wr.alloc (.cells #[.int .i64 5, .int .i64 (11 + (k : Int))] 39) = wx at *
      have hbx : Hid (Below wr.heap.size wr wx) := by rw [← hwx]; exact bel_box _ _
      obtain ⟨c0, c1⟩ := cells_new wr (5, 11 + (k : Int)) 39
      rw [hwx] at c0 c1
      simp only at c0 c1
      replace c0 := cellG c0
      replace c1 := cellG c1
      have HAt := Lib.hid (fun n os => Calls.grown_of (at_any 5 (11 + (k : Int)) (grow (wx.drewN n) os)))
      have mixed := mixed
      clear hwx p0 p1 hix
      refine wp_region_quiet_grown mixed (by kernel_rfl) ?_
      repeat (first | go_big_quiet_skip | (go_big_quiet_want; go_big_quiet_op; first | go_big_quiet_on | go_big_quiet_call ((go_at_call 21; exact HAt.out _ _))))
      refine wpQuiet_nil ?_
      intro _ hw'
      obtain ⟨⟨nq, osq⟩, hw''⟩ := hw'
      subst hw''
      have hl := (lays_of wx nq osq).bel
      go_wp2_with fail
      go_roundw
      case rel => exact ⟨k + 1, by omega, by go_num, bel_tr (bel_tr HB hbx.out) hl, bel_tr (bel_tr HC hbx.out) hl⟩
      case measure => simp [intOf]; omega
    · obtain rfl : k = n := by omega
      go_wp2_with fail
      refine (HK.out _).mono ?_
      rintro e w4 ⟨rfl, hb⟩
      replace HB := bel_tr HB hb
      clear hb
      go_wp2_with fail
      go_ret
      exact ⟨rfl, HB.out⟩
end Go.Proofs.Ytkbbbjcigjlopaa.H
