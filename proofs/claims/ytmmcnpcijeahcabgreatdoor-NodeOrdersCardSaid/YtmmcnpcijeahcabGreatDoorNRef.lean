/-
  Valid, Before, Agree and Merge of the reference.
-/
import Derived.Test.YtmmcnpcijeahcabGreatDoorNMrg
import Derived.Test.YtmmcnpcijeahcabGreatDoorRRefB
namespace Go.Proofs.YtmmcnpcijeahcabGreatDoor.Nd
set_option linter.unusedVariables false
open Go.RowKit V Go.Sort D

def i32 (q : Int) : Prop := -2147483648 ≤ q ∧ q ≤ 2147483647
set_option maxRecDepth 100000 in
set_option maxHeartbeats 4000000 in
theorem validN_ref (n : Nt) (hq : i32 n.2.2.2) (w : World) : Calls Tryz.prog 9 #[nv n] w fun e w' => e = .returned (.bool (validN n)) ∧ Below w.heap.size w w' := by
  have HE : Hid (validN n = (validR n.1 && (validR n.2.1 || rootR n.2.1) && !decide (n.1 = n.2.1) && decide (0 < n.2.2.1) && decide (n.2.2.1 ≤ 4611686018427387904) && (decide (n.2.2.2 = 0) || R.vld n.2.2.2))) := by
    show _ = _
    unfold validN
    rw [Bool.or_comm (rootR n.2.1), show decide (n.2.1 = n.1) = decide (n.1 = n.2.1) from decide_eq_decide.2 ⟨Eq.symm, Eq.symm⟩]
    rfl
  have HVd := Lib.hid (fun w => valid_ref n.1 w)
  have HVp := Lib.hid (fun w => valid_ref n.2.1 w)
  have HRo := Lib.hid (fun w => root_ref n.2.1 w)
  have HRu := Lib.hid (fun w => R.rvalid_any n.2.2.2 w hq)
  have heq := fun w => eql_dot n.1 n.2.1 w
  generalize validR n.1 = vd at *
  generalize validR n.2.1 = vp at *
  generalize rootR n.2.1 = rp at *
  generalize R.vld n.2.2.2 = rr at *
  generalize decide (n.1 = n.2.1) = b at *
  clear hq
  have HK := Lib.hid (Nb.new w n)
  have HB := Lib.hid (bel_box w (.cells (nc n) 25))
  obtain ⟨⟨d1, d2⟩, ⟨p1, p2⟩, t, q⟩ := n
  generalize validN ((d1, d2), (p1, p2), t, q) = R at *
  go_enter Tryz.func9, Tryz.ntmps9
  go_wp2_with fail
  generalize w.alloc (.cells #[.int .i64 d1, .int .i64 d2, .int .i64 p1, .int .i64 p2, .int .i64 t, .int .i32 q] 25) = w0 at *
  obtain ⟨k0, k1, k2, k3, k4, k5⟩ := HK.out
  refine (HVd.out _).mono ?_
  rintro e w1 ⟨rfl, hb⟩
  replace HK := Lib.hid (HK.out.keep hb)
  replace HB := bel_tr HB hb
  clear hb k0 k1 k2 k3 k4 k5
  obtain ⟨k0, k1, k2, k3, k4, k5⟩ := HK.out
  rcases vd with _ | _
  · go_wp2_with fail
    go_ret
    exact ⟨by rw [HE.out]; simp, HB.out⟩
  · go_wp2_with fail
    refine (HVp.out _).mono ?_
    rintro e w2 ⟨rfl, hb⟩
    replace HK := Lib.hid (HK.out.keep hb)
    replace HB := bel_tr HB hb
    clear hb k0 k1 k2 k3 k4 k5
    obtain ⟨k0, k1, k2, k3, k4, k5⟩ := HK.out
    rcases vp with _ | _
    · go_wp2_with fail
      refine (HRo.out _).mono ?_
      rintro e w3 ⟨rfl, hb⟩
      replace HK := Lib.hid (HK.out.keep hb)
      replace HB := bel_tr HB hb
      clear hb k0 k1 k2 k3 k4 k5
      obtain ⟨k0, k1, k2, k3, k4, k5⟩ := HK.out
      rcases rp with _ | _
      · go_wp2_with fail
        go_ret
        exact ⟨by rw [HE.out]; simp, HB.out⟩
      · rcases b with _ | _
        · by_cases h1 : 0 < t
          · by_cases h2 : t ≤ 4611686018427387904
            · by_cases h3 : q = 0
              · subst h3
                go_wp2_with fail
                go_ret
                exact ⟨by rw [HE.out, decide_eq_true h1, decide_eq_true h2]; simp, HB.out⟩
              · have hq : (q == 0) = false := by simpa using h3
                have HQ : Hid (decide (q = 0) = false) := decide_eq_false h3
                clear h3
                go_wp2_with fail
                refine (HRu.out _).mono ?_
                rintro e w4 ⟨rfl, rfl⟩
                go_wp2_with fail
                go_ret
                exact ⟨by rw [HE.out, decide_eq_true h1, decide_eq_true h2, HQ.out]; simp, HB.out⟩
            · go_wp2_with fail
              go_ret
              exact ⟨by rw [HE.out, show decide (t ≤ 4611686018427387904) = false from decide_eq_false (by omega)]; simp, HB.out⟩
          · go_wp2_with fail
            go_ret
            exact ⟨by rw [HE.out, show decide (0 < t) = false from decide_eq_false (by omega)]; simp, HB.out⟩
        · go_wp2_with fail
          go_ret
          exact ⟨by rw [HE.out]; simp, HB.out⟩
    · rcases b with _ | _
      · by_cases h1 : 0 < t
        · by_cases h2 : t ≤ 4611686018427387904
          · by_cases h3 : q = 0
            · subst h3
              go_wp2_with fail
              go_ret
              exact ⟨by rw [HE.out, decide_eq_true h1, decide_eq_true h2]; simp, HB.out⟩
            · have hq : (q == 0) = false := by simpa using h3
              have HQ : Hid (decide (q = 0) = false) := decide_eq_false h3
              clear h3
              go_wp2_with fail
              refine (HRu.out _).mono ?_
              rintro e w5 ⟨rfl, rfl⟩
              go_wp2_with fail
              go_ret
              exact ⟨by rw [HE.out, decide_eq_true h1, decide_eq_true h2, HQ.out]; simp, HB.out⟩
          · go_wp2_with fail
            go_ret
            exact ⟨by rw [HE.out, show decide (t ≤ 4611686018427387904) = false from decide_eq_false (by omega)]; simp, HB.out⟩
        · go_wp2_with fail
          go_ret
          exact ⟨by rw [HE.out, show decide (0 < t) = false from decide_eq_false (by omega)]; simp, HB.out⟩
      · go_wp2_with fail
        go_ret
        exact ⟨by rw [HE.out]; simp, HB.out⟩
set_option maxRecDepth 100000 in
set_option maxHeartbeats 4000000 in
theorem before_ref9 (a b : Nt) (w : World) : Calls Tryz.prog 15 #[nv a, nv b] w fun e w' => e = .returned (.bool (beforeN a b)) ∧ Below w.heap.size w w' := by
  have HE : Hid (beforeN a b = if a.2.2.1 = b.2.2.1 then less b.1 a.1 else decide (b.2.2.1 < a.2.2.1)) := rfl
  have HL := Lib.hid (fun w => less_ref b.1 a.1 w)
  have HK := Lib.hid (N2.new a b w)
  have HB := Lib.hid (bel_two w a b)
  generalize beforeN a b = R at *
  generalize less b.1 a.1 = l at *
  by_cases h : a.2.2.1 = b.2.2.1
  · have hne : (a.2.2.1 != b.2.2.1) = false := by rw [bne_eq_false_iff_eq]; exact h
    rw [if_pos h] at HE
    clear h
    go_enter Tryz.func15, Tryz.ntmps15
    go_wp2_with fail
    refine (HL.out _).mono ?_
    rintro e w2 ⟨rfl, hl⟩
    replace HB := bel_tr HB hl.bel
    clear hl
    go_wp2_with fail
    go_ret
    exact ⟨by rw [HE.out]; rfl, HB.out⟩
  · have hne : (a.2.2.1 != b.2.2.1) = true := by rw [bne_iff_ne]; exact h
    rw [if_neg h] at HE
    clear h
    go_enter Tryz.func15, Tryz.ntmps15
    go_wp2_with fail
    go_ret
    exact ⟨by rw [HE.out]; rfl, HB.out⟩
end Go.Proofs.YtmmcnpcijeahcabGreatDoor.Nd
