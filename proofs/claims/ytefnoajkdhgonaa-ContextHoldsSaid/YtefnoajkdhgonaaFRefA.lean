/-
  The reference's IsCompact.
-/
import Derived.Test.YtefnoajkdhgonaaFVals
import Derived.Test.YtefnoajkdhgonaaFCnts
namespace Go.Proofs.Ytefnoajkdhgonaa.F
set_option linter.unusedVariables false
open Go.RowKit V Go.Sort D
open E (Vd getV get_ge hasV getG_ref lays_alloc lays_tr lays_refl)

/-- Near, as it is counted: with a number that may run over. -/
def nearW (v : List Dt) (d : Dt) : Bool := hasV v d || decide (d.2 = IntKind.i64.wrap (getV v d.1 + 1))
theorem nearW_ok {v : List Dt} (hv : Vd v) (d : Dt) : nearW v d = nearC v d := by
  unfold nearW nearC
  have h1 := get_ge hv d.1
  have h2 := get_le hv d.1
  have e : IntKind.i64.wrap (getV v d.1 + 1) = getV v d.1 + 1 := by simp [IntKind.wrap, IntKind.bits, IntKind.signed]; omega
  rw [e]
theorem comp_at {xs ys : List Dt} {k : Nat} (hk : k < ys.length) (h : nearW xs ys[k] = true) : isCompR (xs, ys) = false := by
  rcases hv : validC (xs, ys) with _ | _
  · exact comp_inv hv
  · have hd := (valid_vc _).1 hv
    rw [nearW_ok hd.1] at h
    unfold isCompR
    rw [Bool.and_eq_false_iff]
    left
    rw [List.all_eq_false]
    exact ⟨ys[k], List.getElem_mem hk, by simp [h]⟩
theorem comp_all {xs ys : List Dt} (h : ∀ j (hj : j < ys.length), nearW xs ys[j] = false) : isCompR (xs, ys) = validC (xs, ys) := by
  rcases hv : validC (xs, ys) with _ | _
  · exact comp_inv hv
  · have hd := (valid_vc _).1 hv
    unfold isCompR
    rw [hv, Bool.and_true, List.all_eq_true]
    intro x hx
    obtain ⟨j, hj, rfl⟩ := List.mem_iff_getElem.1 hx
    show (!nearC xs ys[j]) = true
    rw [← nearW_ok hd.1, h j hj]
    rfl
theorem hasG_ref (v : List Dt) (d : Dt) (a : Option Addr) (c : Nat) (W : World) (hx : RowD W a v) (hlx : v.length ≤ 1000000) (n : Nat) (os : Array Obj) :
    Calls Try.prog 50 #[.slice a v.length c, dv d] (grow (W.drewN n) os) fun e w'' => e = .returned (.bool (hasV v d)) ∧ ∃ p : GrownBy, w'' = grow (W.drewN p.n) p.os :=
  Calls.grown_of (E.has_ref v d a c _ (hx.keep (bel_grown (Below.refl _ _) (Nat.le_refl _) n os)) (by omega))

set_option maxRecDepth 100000 in
set_option maxHeartbeats 1000000 in
theorem isCompact_ref (xs ys : List Dt) (a b : Option Addr) (n m : Nat) (w : World) (hx : RowD w a xs) (hy : RowD w b ys) (hlx : xs.length ≤ 1000000) (hly : ys.length ≤ 1000000) :
    Calls Try.prog 14 #[cv (.slice a xs.length n) (.slice b ys.length m)] w fun e w' => e = .returned (.bool (isCompR (xs, ys))) ∧ Below w.heap.size w w' := by
  have H1 := Lib.hid (fun w h1 h2 => valid_ref xs ys a b n m w h1 h2 hlx hly)
  have H2b := Lib.hid (fun d W hx nn os => hasG_ref xs d a n W hx hlx nn os)
  have H3 := Lib.hid (fun r W hx nn os => getG_ref xs r a n W hx (by omega) nn os)
  have HCa := Lib.hid (fun k (hk : k < ys.length) h => comp_at (xs := xs) hk h)
  have HCl : Hid ((∀ j (hj : j < ys.length), nearW xs ys[j] = false) → isCompR (xs, ys) = validC (xs, ys)) := fun h => comp_all h
  have HT := Lib.hid (two_new w (.slice a xs.length n) (.slice b ys.length m))
  have HB := Lib.hid (bel_box w (cbox (.slice a xs.length n) (.slice b ys.length m)))
  have HX := Lib.hid (hx.keep HB.out)
  have HYr := Lib.hid (hy.keep HB.out)
  have hlj : (ys.length : Int) ≤ 1000000 := by omega
  clear hx hy hlx hly
  generalize isCompR (xs, ys) = R at *
  go_enter Try.func14, Try.ntmps14
  go_wp2_with fail
  generalize w.alloc (cbox (.slice a xs.length n) (.slice b ys.length m)) = w1 at *
  go_loopw [3, 4] (fun i _ wr => ∃ k : Nat, k ≤ ys.length ∧ i = .int .i64 (k : Int) ∧ Hid (Below w1.heap.size w1 wr) ∧ Hid (∀ j (hj : j < ys.length), j < k → nearW xs ys[j] = false)) (fun i _ _ => ys.length - (intOf i).toNat)
  case atStart => exact ⟨0, Nat.zero_le _, rfl, Below.refl _ _, fun j _ h => by omega⟩
  case round =>
    obtain ⟨k, hk, rfl, hh, HV⟩ := hrel
    have mixed := mixed
    by_cases hlt : k < ys.length
    · have hi1 : (k : Int) < (ys.length : Int) := by omega
      obtain ⟨b1, o1, rfl, p0, p1⟩ := HYr.out.get hh.out k hlt
      have HNo := Lib.hid (HCa.out k hlt)
      obtain ⟨q, hq⟩ : ∃ q, q = ys[k] := ⟨_, rfl⟩
      rw [← hq] at p0 p1 HNo
      have HQe := Lib.hid hq
      clear hq
      have HNw : Hid (nearW xs q = (hasV xs q || decide (q.2 = IntKind.i64.wrap (getV xs q.1 + 1)))) := rfl
      have hBa := bel_box wr (Obj.cells #[.int .i64 q.1, .int .i64 q.2] 38)
      have HB1 := bel_tr hh hBa
      have HT1 := Lib.hid (HT.out.keep HB1.out)
      have HX1 := Lib.hid (HX.out.keep HB1.out)
      have hH := H2b.out q (wr.alloc (Obj.cells #[.int .i64 q.1, .int .i64 q.2] 38)) HX1.out
      have hG := H3.out q.1 (wr.alloc (Obj.cells #[.int .i64 q.1, .int .i64 q.2] 38)) HX1.out
      have HK : Hid (Bd wr.heap.size q.1 q.2 (wr.alloc (Obj.cells #[.int .i64 q.1, .int .i64 q.2] 38))) := by refine ⟨?_, ?_⟩ <;> go_simp
      have k0 := HT.out.1
      have k1 := (hh.out.cell (p := ⟨_, _, none⟩) (lt_of_cell HT.out.2)).trans HT.out.2
      have k2 := cellG HT1.out.1
      have k3 := cellG HK.out.1
      have k4 := cellG HK.out.2
      clear hBa k0 HT1 HX1
      obtain ⟨q1, q2⟩ := q
      simp only at p0 p1 k3 k4 HNw hG hH HB1
      rcases hb : hasV xs (q1, q2) with _ | _
      · rw [hb] at hH
        have HH := Lib.hid hH
        have HG := Lib.hid hG
        obtain ⟨gw, hgw⟩ : ∃ gw, IntKind.i64.wrap (getV xs q1 + 1) = gw := ⟨_, rfl⟩
        generalize getV xs q1 = gv at *
        rw [hgw, hb, Bool.false_or] at HNw
        clear hH hG hb
        by_cases hd : q2 = gw
        · have hR := HNo.out (by rw [HNw.out]; simpa using hd)
          subst hR
          subst hd
          clear HNo HNw HQe
          go_wp2_with fail
          generalize wr.alloc (Obj.cells #[.int .i64 q1, .int .i64 q2] 38) = w2 at *
          refine wp_region_quiet_grown mixed (by kernel_rfl) ?_
          repeat (first | go_big_quiet_skip | (go_big_quiet_want; go_big_quiet_op; go_big_quiet_on))
          go_big_quiet_want
          go_big_quiet_op
          go_big_quiet_call ((go_at_call 50; exact HH.out _ _))
          repeat (first | go_big_quiet_skip | (go_big_quiet_want; go_big_quiet_op; go_big_quiet_on))
          go_big_quiet_want
          go_big_quiet_op
          go_big_quiet_call ((go_at_call 51; exact HG.out _ _))
          repeat (first | go_big_quiet_skip | (go_big_quiet_want; go_big_quiet_op; go_big_quiet_on))
          refine wpQuiet_nil ?_
          intro _ hw'
          obtain ⟨⟨nq, osq⟩, hw''⟩ := hw'
          subst hw''
          have HBq : Hid (Below w.heap.size w (grow (w2.drewN nq) osq)) := bel_tr (bel_tr HB HB1.out) (bel_grown (Below.refl _ _) (Nat.le_refl _) nq osq)
          go_wp2_with fail
          go_ret
          exact ⟨rfl, HBq.out⟩
        · have hdn : decide (q2 = gw) = false := by simpa using hd
          have HVq : Hid (∀ j (hj : j < ys.length), j < k + 1 → nearW xs ys[j] = false) := fun j hj hjk => by
            by_cases e : j = k
            · subst e; rw [← HQe.out, HNw.out]; exact hdn
            · exact HV.out j hj (by omega)
          clear HNo HNw
          go_wp2_with fail
          generalize wr.alloc (Obj.cells #[.int .i64 q1, .int .i64 q2] 38) = w2 at *
          refine wp_region_quiet_grown mixed (by kernel_rfl) ?_
          repeat (first | go_big_quiet_skip | (go_big_quiet_want; go_big_quiet_op; go_big_quiet_on))
          go_big_quiet_want
          go_big_quiet_op
          go_big_quiet_call ((go_at_call 50; exact HH.out _ _))
          repeat (first | go_big_quiet_skip | (go_big_quiet_want; go_big_quiet_op; go_big_quiet_on))
          go_big_quiet_want
          go_big_quiet_op
          go_big_quiet_call ((go_at_call 51; exact HG.out _ _))
          repeat (first | go_big_quiet_skip | (go_big_quiet_want; go_big_quiet_op; go_big_quiet_on))
          refine wpQuiet_nil ?_
          intro _ hw'
          obtain ⟨⟨nq, osq⟩, hw''⟩ := hw'
          subst hw''
          have HBq : Hid (Below w1.heap.size w1 (grow (w2.drewN nq) osq)) := bel_tr (Lib.hid HB1.out) (bel_grown (Below.refl _ _) (Nat.le_refl _) nq osq)
          go_wp2_with fail
          go_roundw
          case rel => exact ⟨k + 1, by omega, by go_num, HBq, HVq⟩
          case measure => simp [intOf]; omega
      · rw [hb] at hH
        have HH := Lib.hid hH
        have hR := HNo.out (by rw [HNw.out, hb]; rfl)
        subst hR
        clear HNo HNw HQe hH hG hb
        go_wp2_with fail
        generalize wr.alloc (Obj.cells #[.int .i64 q1, .int .i64 q2] 38) = w2 at *
        refine wp_region_quiet_grown mixed (by kernel_rfl) ?_
        repeat (first | go_big_quiet_skip | (go_big_quiet_want; go_big_quiet_op; go_big_quiet_on))
        go_big_quiet_want
        go_big_quiet_op
        go_big_quiet_call ((go_at_call 50; exact HH.out _ _))
        repeat (first | go_big_quiet_skip | (go_big_quiet_want; go_big_quiet_op; go_big_quiet_on))
        refine wpQuiet_nil ?_
        intro _ hw'
        obtain ⟨⟨nq, osq⟩, hw''⟩ := hw'
        subst hw''
        have HBq : Hid (Below w.heap.size w (grow (w2.drewN nq) osq)) := bel_tr (bel_tr HB HB1.out) (bel_grown (Below.refl _ _) (Nat.le_refl _) nq osq)
        go_wp2_with fail
        go_ret
        exact ⟨rfl, HBq.out⟩
    · obtain rfl : k = ys.length := by omega
      have hi1 : ¬ (ys.length : Int) < (ys.length : Int) := by omega
      have hR := HCl.out fun j hj => HV.out j hj hj
      subst hR
      have k0 := (hh.out.cell (p := ⟨_, _, none⟩) (lt_of_cell HT.out.1)).trans HT.out.1
      have k1 := (hh.out.cell (p := ⟨_, _, none⟩) (lt_of_cell HT.out.2)).trans HT.out.2
      replace HX := Lib.hid (HX.out.keep hh.out)
      replace HYr := Lib.hid (HYr.out.keep hh.out)
      replace HB := bel_tr HB hh.out
      go_wp2_with fail
      refine (H1.out _ HX.out HYr.out).mono ?_
      rintro e w2 ⟨rfl, hb⟩
      replace HB := bel_tr HB hb
      clear hb k0 k1
      go_wp2_with fail
      go_ret
      exact ⟨rfl, HB.out⟩
end Go.Proofs.Ytefnoajkdhgonaa.F
