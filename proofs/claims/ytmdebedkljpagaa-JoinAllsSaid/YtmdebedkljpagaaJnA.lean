/-
  Layer 14's reference: which dots, runes and nodes are allowed; the order of dots.
-/
import Derived.Test.YtmdebedkljpagaaMQAsk
import Derived.Test.YtmdebedkljpagaaMNPure
namespace Go.Proofs.Ytmdebedkljpagaa.Jn
set_option linter.unusedVariables false
open Go.RowKit V Go.Sort D Nd Qs

set_option maxRecDepth 100000 in
set_option maxHeartbeats 1000000 in
theorem before_ref (x y : Dt) (w : World) : Calls Try.prog 30 #[dv x, dv y] w fun e w' => e = .returned (.bool (less x y)) ∧ Lays w w' := by
  have HE : Hid (less x y = (decide (x.2 < y.2) || (decide (x.2 = y.2) && decide (x.1 < y.1)))) := by
    show _ = _
    rw [Bool.eq_iff_iff, less_iff]
    simp
  obtain ⟨x1, x2⟩ := x
  obtain ⟨y1, y2⟩ := y
  generalize less (x1, x2) (y1, y2) = R at *
  simp only at HE
  by_cases h1 : x2 < y2
  · go_enter Try.func30, Try.ntmps30
    go_wp2_with fail
    go_ret
    exact ⟨by rw [HE.out, decide_eq_true h1]; rfl, lays_alloc2 _ _ _⟩
  · by_cases h2 : x2 = y2
    · subst h2
      by_cases h3 : x1 < y1
      · go_enter Try.func30, Try.ntmps30
        go_wp2_with fail
        go_ret
        exact ⟨by rw [HE.out]; simp <;> omega, lays_alloc2 _ _ _⟩
      · go_enter Try.func30, Try.ntmps30
        go_wp2_with fail
        go_ret
        exact ⟨by rw [HE.out]; simp <;> omega, lays_alloc2 _ _ _⟩
    · have hq : (x2 == y2) = false := by simpa using h2
      have HQ := Lib.hid (decide_eq_false h2)
      go_enter Try.func30, Try.ntmps30
      go_wp2_with fail
      go_ret
      exact ⟨by rw [HE.out]; simp <;> omega, lays_alloc2 _ _ _⟩
set_option maxRecDepth 100000 in
set_option maxHeartbeats 1000000 in
theorem isDot_ref (d : Dt) (w : World) : Calls Try.prog 39 #[dv d] w fun e w' => e = .returned (.bool (validR d)) ∧ Below w.heap.size w w' := by
  have HE : Hid (validR d = (decide (1 ≤ d.1) && decide (d.1 ≤ 64) && decide (1 ≤ d.2) && decide (d.2 ≤ 4294967295))) := by
    show _ = _
    rw [Bool.eq_iff_iff, valid_iff]
    simp only [Bool.and_eq_true, decide_eq_true_eq]
    omega
  obtain ⟨d1, d2⟩ := d
  generalize validR (d1, d2) = R at *
  simp only at HE
  by_cases h1 : 1 ≤ d1
  · by_cases h2 : d1 ≤ 64
    · by_cases h3 : 1 ≤ d2
      · by_cases h4 : d2 ≤ 4294967295
        · go_enter Try.func39, Try.ntmps39
          go_wp2_with fail
          go_ret
          exact ⟨by rw [HE.out, decide_eq_true h1, decide_eq_true h2, decide_eq_true h3, decide_eq_true h4]; rfl, bel_box _ _⟩
        · go_enter Try.func39, Try.ntmps39
          go_wp2_with fail
          go_ret
          exact ⟨by rw [HE.out]; simp <;> omega, bel_box _ _⟩
      · go_enter Try.func39, Try.ntmps39
        go_wp2_with fail
        go_ret
        exact ⟨by rw [HE.out]; simp <;> omega, bel_box _ _⟩
    · go_enter Try.func39, Try.ntmps39
      go_wp2_with fail
      go_ret
      exact ⟨by rw [HE.out]; simp <;> omega, bel_box _ _⟩
  · go_enter Try.func39, Try.ntmps39
    go_wp2_with fail
    go_ret
    exact ⟨by rw [HE.out]; simp <;> omega, bel_box _ _⟩
set_option maxRecDepth 100000 in
set_option maxHeartbeats 1000000 in
theorem isRune_ref (r : Int) (w : World) : Calls Try.prog 40 #[.int .i32 r] w fun e w' => e = .returned (.bool (R.vld r)) ∧ w' = w := by
  have HE : Hid (R.vld r = (decide (1 ≤ r) && decide (r ≤ 1114111) && (decide (r < 55296) || decide (57343 < r)))) := by
    show _ = _
    rw [Bool.eq_iff_iff, R.vld_iff]
    simp only [Bool.and_eq_true, Bool.or_eq_true, decide_eq_true_eq]
    omega
  generalize R.vld r = R at *
  by_cases h1 : 1 ≤ r
  · by_cases h2 : r ≤ 1114111
    · by_cases h3 : r < 55296
      · go_enter Try.func40, Try.ntmps40
        go_wp2_with fail
        go_ret
        exact ⟨by rw [HE.out, decide_eq_true h1, decide_eq_true h2, decide_eq_true h3]; rfl, rfl⟩
      · by_cases h4 : 57343 < r
        · go_enter Try.func40, Try.ntmps40
          go_wp2_with fail
          go_ret
          exact ⟨by rw [HE.out, decide_eq_true h1, decide_eq_true h2, decide_eq_true h4, Bool.or_true]; rfl, rfl⟩
        · go_enter Try.func40, Try.ntmps40
          go_wp2_with fail
          go_ret
          exact ⟨by rw [HE.out]; simp <;> omega, rfl⟩
    · go_enter Try.func40, Try.ntmps40
      go_wp2_with fail
      go_ret
      exact ⟨by rw [HE.out]; simp <;> omega, rfl⟩
  · go_enter Try.func40, Try.ntmps40
    go_wp2_with fail
    go_ret
    exact ⟨by rw [HE.out]; simp <;> omega, rfl⟩
set_option maxRecDepth 100000 in
set_option maxHeartbeats 4000000 in
theorem isNode_ref (n : Nt) (w : World) : Calls Try.prog 29 #[nv n] w fun e w' => e = .returned (.bool (validN n)) ∧ Below w.heap.size w w' := by
  have HE : Hid (validN n = (validR n.1 && (decide (n.2.1 = (0, 0)) || validR n.2.1) && !decide (n.2.1 = n.1) && decide (1 ≤ n.2.2.1) && decide (n.2.2.1 ≤ 4611686018427387904) && (decide (n.2.2.2 = 0) || R.vld n.2.2.2))) := by
    show _ = _
    unfold validN
    rw [show rootR n.2.1 = decide (n.2.1 = (0, 0)) by rw [Bool.eq_iff_iff, root_iff, decide_eq_true_eq]]
  have HVd := Lib.hid (fun w => isDot_ref n.1 w)
  have HVp := Lib.hid (fun w => isDot_ref n.2.1 w)
  have HRu := Lib.hid (fun w => isRune_ref n.2.2.2 w)
  have heq := fun w => eql_dot n.2.1 (0, 0) w
  have hne := fun w => neq_dot n.2.1 n.1 w
  generalize validR n.1 = vd at *
  generalize validR n.2.1 = vp at *
  generalize R.vld n.2.2.2 = rr at *
  generalize decide (n.2.1 = (0, 0)) = z at *
  generalize decide (n.2.1 = n.1) = b at *
  have HK := Lib.hid (Nb.new w n)
  have HB := Lib.hid (bel_box w (.cells (nc n) 44))
  obtain ⟨⟨d1, d2⟩, ⟨p1, p2⟩, t, q⟩ := n
  generalize validN ((d1, d2), (p1, p2), t, q) = R at *
  simp only at HE
  go_enter Try.func29, Try.ntmps29
  go_wp2_with fail
  generalize w.alloc (.cells #[.int .i64 d1, .int .i64 d2, .int .i64 p1, .int .i64 p2, .int .i64 t, .int .i32 q] 44) = w0 at *
  obtain ⟨k0, k1, k2, k3, k4, k5⟩ := HK.out
  refine (HVd.out _).mono ?_
  rintro e w1 ⟨rfl, hb⟩
  replace HK := Lib.hid (HK.out.keep hb)
  replace HB := bel_tr HB hb
  clear hb k0 k1 k2 k3 k4 k5 HVd
  obtain ⟨k0, k1, k2, k3, k4, k5⟩ := HK.out
  rcases vd with _ | _
  · go_wp2_with fail
    go_ret
    exact ⟨by rw [HE.out]; simp, HB.out⟩
  rcases z with _ | _
  · go_wp2_with fail
    refine (HVp.out _).mono ?_
    rintro e w2 ⟨rfl, hb⟩
    replace HK := Lib.hid (HK.out.keep hb)
    replace HB := bel_tr HB hb
    clear hb k0 k1 k2 k3 k4 k5 HVp
    obtain ⟨k0, k1, k2, k3, k4, k5⟩ := HK.out
    rcases vp with _ | _
    · go_wp2_with fail
      go_ret
      exact ⟨by rw [HE.out]; simp, HB.out⟩
    rcases b with _ | _
    · by_cases h1 : 1 ≤ t
      · by_cases h2 : t ≤ 4611686018427387904
        · by_cases h3 : q = 0
          · subst h3
            go_wp2_with fail
            go_ret
            exact ⟨by rw [HE.out, decide_eq_true h1, decide_eq_true h2]; simp, HB.out⟩
          · have hq : (q == 0) = false := by simpa using h3
            have HQ : Hid (decide (q = 0) = false) := decide_eq_false h3
            clear h3
            go_wp2_with fail
            refine (HRu.out _).mono ?_
            rintro e w4 ⟨rfl, rfl⟩
            go_wp2_with fail
            go_ret
            exact ⟨by rw [HE.out, decide_eq_true h1, decide_eq_true h2, HQ.out]; simp, HB.out⟩
        · go_wp2_with fail
          go_ret
          exact ⟨by rw [HE.out]; simp <;> omega, HB.out⟩
      · go_wp2_with fail
        go_ret
        exact ⟨by rw [HE.out]; simp <;> omega, HB.out⟩
    · go_wp2_with fail
      go_ret
      exact ⟨by rw [HE.out]; simp, HB.out⟩
  · rcases b with _ | _
    · by_cases h1 : 1 ≤ t
      · by_cases h2 : t ≤ 4611686018427387904
        · by_cases h3 : q = 0
          · subst h3
            go_wp2_with fail
            go_ret
            exact ⟨by rw [HE.out, decide_eq_true h1, decide_eq_true h2]; simp, HB.out⟩
          · have hq : (q == 0) = false := by simpa using h3
            have HQ : Hid (decide (q = 0) = false) := decide_eq_false h3
            clear h3
            go_wp2_with fail
            refine (HRu.out _).mono ?_
            rintro e w4 ⟨rfl, rfl⟩
            go_wp2_with fail
            go_ret
            exact ⟨by rw [HE.out, decide_eq_true h1, decide_eq_true h2, HQ.out]; simp, HB.out⟩
        · go_wp2_with fail
          go_ret
          exact ⟨by rw [HE.out]; simp <;> omega, HB.out⟩
      · go_wp2_with fail
        go_ret
        exact ⟨by rw [HE.out]; simp <;> omega, HB.out⟩
    · go_wp2_with fail
      go_ret
      exact ⟨by rw [HE.out]; simp, HB.out⟩
end Go.Proofs.Ytmdebedkljpagaa.Jn
