/-
  The reference's Raise: a dot that was not there makes a new row.
-/
import Derived.Test.YtefnoajkdhgonaaERaise
namespace Go.Proofs.Ytefnoajkdhgonaa.F
set_option linter.unusedVariables false
open Go.RowKit V Go.Sort D
open E (hasV raiseR raiseW raise_step raise_len ix_vec validV)


set_option maxRecDepth 100000 in
set_option maxHeartbeats 4000000 in
theorem raise_new (v : List Dt) (d : Dt) (a : Option Addr) (c : Nat) (w : World) (hx : RowD w a v) (hn : a = none → c = 0) (hlc : v.length ≤ c) (hlx : v.length ≤ 1000000) :
    Calls Try.prog 56 #[.slice a v.length c, dv d] w fun e w' => ∃ a' c', e = .returned (.slice a' (raiseR v d).length c') ∧ RowD w' a' (raiseR v d) ∧ (a' = none → c' = 0) ∧ (raiseR v d).length ≤ c' ∧ (hasV v d = false → ∀ x, a' = some x → w.heap.size ≤ x.block) ∧ Below w.heap.size w w' := by
  have HX := Lib.hid hx
  have HN := Lib.hid hn
  have HC := Lib.hid hlc
  have HLX := Lib.hid hlx
  have hB : Below w.heap.size w (w.alloc (Obj.cells #[.int .i64 d.1, .int .i64 d.2] 38)) := (Below.refl _ _).alloc (Nat.le_refl _) _
  have HH := Lib.hid (E.has_ref v d a c _ (hx.keep hB) (by omega))
  have HG : Hid (hasV v d = hasV v d) := rfl
  have HE : Hid (raiseR v d = if hasV v d = true then v else raiseW d false v) := rfl
  have k0 : (w.alloc (Obj.cells #[Value.int IntKind.i64 d.1, Value.int IntKind.i64 d.2] 38)).cell? ⟨w.heap.size, 0, none⟩ = some (.int .i64 d.1) := by go_simp
  have k1 : (w.alloc (Obj.cells #[Value.int IntKind.i64 d.1, Value.int IntKind.i64 d.2] 38)).cell? ⟨w.heap.size, 1, none⟩ = some (.int .i64 d.2) := by go_simp
  have hli : (v.length : Int) ≤ 1000000 := by omega
  have HB := Lib.hid hB
  clear hx hn hlc hlx hB
  obtain ⟨d1, d2⟩ := d
  simp only at *
  generalize raiseR v (d1, d2) = R at *
  go_enter Try.func56, Try.ntmps56
  go_wp2_with fail
  refine HH.out.mono ?_
  rintro e w1 ⟨rfl, hl⟩
  have H0 : Hid (w1.cell? ⟨w.heap.size, 0, none⟩ = some (.int .i64 d1)) := (hl.bel.cell (p := ⟨_, _, none⟩) (lt_of_cell k0)).trans k0
  have H1 : Hid (w1.cell? ⟨w.heap.size, 1, none⟩ = some (.int .i64 d2)) := (hl.bel.cell (p := ⟨_, _, none⟩) (lt_of_cell k1)).trans k1
  replace HB := bel_tr HB hl.bel
  clear hl k0 k1 HH
  rcases hb : hasV v (d1, d2) with _ | _
  · have hR : R = raiseW (d1, d2) false v := by rw [HE.out, hb, if_neg (by simp)]
    clear hb HE
    subst hR
    have HX1 := Lib.hid (HX.out.keep HB.out)
    go_wp2_with fail
    go_loopw [7, 5, 6] (fun i o dn wr => ∃ (k : Nat) (b : Bool) (acc : List Dt), k ≤ v.length ∧ i = .int .i64 (k : Int) ∧ dn = .bool b ∧ Hid (Below w1.heap.size w1 wr) ∧ Hid (OD wr w1.heap.size E o acc) ∧ Hid (raiseW (d1, d2) false v = acc ++ raiseW (d1, d2) b (v.drop k)) ∧ Hid (acc.length ≤ 2 * k)) (fun i _ _ _ => v.length - (intOf i).toNat)
    case atStart => exact ⟨0, false, [], Nat.zero_le _, rfl, rfl, Below.refl _ _, OD.nil _ _ _, by show _ = _; simp, Nat.zero_le _⟩
    case round =>
      obtain ⟨k, b, acc, hk, rfl, rfl, hh, HO, HF, HL⟩ := hrel
      obtain ⟨a2, c2, rfl, -⟩ := HO.out.row
      by_cases hlt : k < v.length
      · have mixed := mixed
        have hi0 : (k : Int) < (v.length : Int) := by omega
        obtain ⟨b2, o2, rfl, q0, q1⟩ := HX1.out.get (Below.refl _ _) k hlt
        obtain ⟨q, hq⟩ : ∃ q, q = v[k] := ⟨_, rfl⟩
        rw [← hq] at q0 q1
        have HF2 : Hid (raiseW (d1, d2) false v = acc ++ raiseW (d1, d2) b (q :: v.drop (k + 1))) := by show _ = _; rw [HF.out, List.drop_eq_getElem_cons hlt, hq]
        clear hq HF
        have hix := ix_vec b2 o2 v.length c k (k : Int) rfl hlt
        obtain ⟨q1', q2'⟩ := q
        simp only at q0 q1
        have Q0 := Lib.hid q0
        have Q1 := Lib.hid q1
        clear q0 q1
        by_cases hge : d1 ≤ q1'
        · have hd : decide (d1 ≤ q1') = true := by simpa using hge
          have HGE := Lib.hid hge
          rcases b with _ | _
          · by_cases hne : q1' = d1
            · have r0 := (hh.out.cell (p := ⟨_, _, none⟩) (lt_of_cell H0.out)).trans H0.out
              have r1 := (hh.out.cell (p := ⟨_, _, none⟩) (lt_of_cell H1.out)).trans H1.out
              have q0 := (hh.out.cell (p := ⟨_, _, none⟩) (lt_of_cell Q0.out)).trans Q0.out
              have q1 := (hh.out.cell (p := ⟨_, _, none⟩) (lt_of_cell Q1.out)).trans Q1.out
              go_wp2_with fail
              go_quiet (fail)
              replace hh := Lib.hid (bel_drewN hh.out nq)
              replace HO := Lib.hid (HO.out.below (bel_drewN (Below.refl _ _) nq))
              generalize hwz : World.drewN _ nq = wz at *
              clear hwz r0 r1 q0 q1
              have r0 := (hh.out.cell (p := ⟨_, _, none⟩) (lt_of_cell H0.out)).trans H0.out
              have r1 := (hh.out.cell (p := ⟨_, _, none⟩) (lt_of_cell H1.out)).trans H1.out
              have q0 := (hh.out.cell (p := ⟨_, _, none⟩) (lt_of_cell Q0.out)).trans Q0.out
              have q1 := (hh.out.cell (p := ⟨_, _, none⟩) (lt_of_cell Q1.out)).trans Q1.out
              go_wp2_with (at_builtin; refine wpList_appD rfl _ _ _ rfl Try.underlying23 infoD _ _ rfl (HO.out.below ((Below.refl _ _).alloc (Nat.le_refl _) _)) (some ⟨wz.heap.size, 0, none⟩) [(d1, d2)] 1 rfl (lit_one wz (d1, d2) _) (fun h => by cases h) (by have := HL.out; have := HLX.out; simp; omega) (hh.out.alloc hh.out.size _).size ?_)
              intro v2 w2 ho hg _
              replace hh := Lib.hid ((hh.out.alloc hh.out.size (Obj.cells #[Value.int IntKind.i64 d1, Value.int IntKind.i64 d2] 38)).grown hg (hh.out.alloc hh.out.size _).size (fun j hj => (HO.out.lt j hj).1))
              replace HO := Lib.hid ho
              obtain ⟨a2, c2, rfl, -⟩ := HO.out.row
              clear ho hg r0 r1 q0 q1
              have r0 := (hh.out.cell (p := ⟨_, _, none⟩) (lt_of_cell H0.out)).trans H0.out
              have r1 := (hh.out.cell (p := ⟨_, _, none⟩) (lt_of_cell H1.out)).trans H1.out
              have q0 := (hh.out.cell (p := ⟨_, _, none⟩) (lt_of_cell Q0.out)).trans Q0.out
              have q1 := (hh.out.cell (p := ⟨_, _, none⟩) (lt_of_cell Q1.out)).trans Q1.out
              go_wp2_with fail
              go_quiet (fail)
              replace hh := Lib.hid (bel_drewN hh.out nq)
              replace HO := Lib.hid (HO.out.below (bel_drewN (Below.refl _ _) nq))
              generalize hwz : World.drewN _ nq = wz at *
              clear hwz r0 r1 q0 q1
              have r0 := (hh.out.cell (p := ⟨_, _, none⟩) (lt_of_cell H0.out)).trans H0.out
              have r1 := (hh.out.cell (p := ⟨_, _, none⟩) (lt_of_cell H1.out)).trans H1.out
              have q0 := (hh.out.cell (p := ⟨_, _, none⟩) (lt_of_cell Q0.out)).trans Q0.out
              have q1 := (hh.out.cell (p := ⟨_, _, none⟩) (lt_of_cell Q1.out)).trans Q1.out
              go_wp2_with fail
              go_roundw
              case rel => exact ⟨k + 1, true, acc ++ [(d1, d2)], by omega, by go_num, rfl, hh, HO, (by
                show _ = _
                have hge : d1 ≤ q1' := by have := HGE.out; omega
                rw [HF2.out, raise_step]; simp [hge, hne]), by show _ ≤ _; have := HL.out; simp; omega⟩
              case measure => simp [intOf]; omega
            · have hnb : (q1' != d1) = true := by rw [bne_iff_ne]; exact hne
              have r0 := (hh.out.cell (p := ⟨_, _, none⟩) (lt_of_cell H0.out)).trans H0.out
              have r1 := (hh.out.cell (p := ⟨_, _, none⟩) (lt_of_cell H1.out)).trans H1.out
              have q0 := (hh.out.cell (p := ⟨_, _, none⟩) (lt_of_cell Q0.out)).trans Q0.out
              have q1 := (hh.out.cell (p := ⟨_, _, none⟩) (lt_of_cell Q1.out)).trans Q1.out
              go_wp2_with fail
              go_quiet (fail)
              replace hh := Lib.hid (bel_drewN hh.out nq)
              replace HO := Lib.hid (HO.out.below (bel_drewN (Below.refl _ _) nq))
              generalize hwz : World.drewN _ nq = wz at *
              clear hwz r0 r1 q0 q1
              have r0 := (hh.out.cell (p := ⟨_, _, none⟩) (lt_of_cell H0.out)).trans H0.out
              have r1 := (hh.out.cell (p := ⟨_, _, none⟩) (lt_of_cell H1.out)).trans H1.out
              have q0 := (hh.out.cell (p := ⟨_, _, none⟩) (lt_of_cell Q0.out)).trans Q0.out
              have q1 := (hh.out.cell (p := ⟨_, _, none⟩) (lt_of_cell Q1.out)).trans Q1.out
              go_wp2_with (at_builtin; refine wpList_appD rfl _ _ _ rfl Try.underlying23 infoD _ _ rfl (HO.out.below ((Below.refl _ _).alloc (Nat.le_refl _) _)) (some ⟨wz.heap.size, 0, none⟩) [(d1, d2)] 1 rfl (lit_one wz (d1, d2) _) (fun h => by cases h) (by have := HL.out; have := HLX.out; simp; omega) (hh.out.alloc hh.out.size _).size ?_)
              intro v2 w2 ho hg _
              replace hh := Lib.hid ((hh.out.alloc hh.out.size (Obj.cells #[Value.int IntKind.i64 d1, Value.int IntKind.i64 d2] 38)).grown hg (hh.out.alloc hh.out.size _).size (fun j hj => (HO.out.lt j hj).1))
              generalize hq : acc ++ [(d1, d2)] = acc2 at *
              have HL2 : Hid (acc2.length ≤ 2 * k + 1) := by show _ ≤ _; have := HL.out; rw [← hq]; simp; omega
              have Hq := Lib.hid hq
              clear hq HL
              replace HO := Lib.hid ho
              obtain ⟨a2, c2, rfl, -⟩ := HO.out.row
              clear ho hg r0 r1 q0 q1
              have r0 := (hh.out.cell (p := ⟨_, _, none⟩) (lt_of_cell H0.out)).trans H0.out
              have r1 := (hh.out.cell (p := ⟨_, _, none⟩) (lt_of_cell H1.out)).trans H1.out
              have q0 := (hh.out.cell (p := ⟨_, _, none⟩) (lt_of_cell Q0.out)).trans Q0.out
              have q1 := (hh.out.cell (p := ⟨_, _, none⟩) (lt_of_cell Q1.out)).trans Q1.out
              go_wp2_with fail
              go_quiet (fail)
              replace hh := Lib.hid (bel_drewN hh.out nq)
              replace HO := Lib.hid (HO.out.below (bel_drewN (Below.refl _ _) nq))
              generalize hwz : World.drewN _ nq = wz at *
              clear hwz r0 r1 q0 q1
              have r0 := (hh.out.cell (p := ⟨_, _, none⟩) (lt_of_cell H0.out)).trans H0.out
              have r1 := (hh.out.cell (p := ⟨_, _, none⟩) (lt_of_cell H1.out)).trans H1.out
              have q0 := (hh.out.cell (p := ⟨_, _, none⟩) (lt_of_cell Q0.out)).trans Q0.out
              have q1 := (hh.out.cell (p := ⟨_, _, none⟩) (lt_of_cell Q1.out)).trans Q1.out
              go_wp2_with (at_builtin; refine wpList_appD rfl _ _ _ rfl Try.underlying23 infoD _ _ rfl (HO.out.below ((Below.refl _ _).alloc (Nat.le_refl _) _)) (some ⟨wz.heap.size, 0, none⟩) [(q1', q2')] 1 rfl (lit_one wz (q1', q2') _) (fun h => by cases h) (by have := HL2.out; have := HLX.out; simp; omega) (hh.out.alloc hh.out.size _).size ?_)
              intro v2 w2 ho hg _
              replace hh := Lib.hid ((hh.out.alloc hh.out.size (Obj.cells #[Value.int IntKind.i64 q1', Value.int IntKind.i64 q2'] 38)).grown hg (hh.out.alloc hh.out.size _).size (fun j hj => (HO.out.lt j hj).1))
              replace HO := Lib.hid ho
              obtain ⟨a2, c2, rfl, -⟩ := HO.out.row
              clear ho hg r0 r1 q0 q1
              have r0 := (hh.out.cell (p := ⟨_, _, none⟩) (lt_of_cell H0.out)).trans H0.out
              have r1 := (hh.out.cell (p := ⟨_, _, none⟩) (lt_of_cell H1.out)).trans H1.out
              have q0 := (hh.out.cell (p := ⟨_, _, none⟩) (lt_of_cell Q0.out)).trans Q0.out
              have q1 := (hh.out.cell (p := ⟨_, _, none⟩) (lt_of_cell Q1.out)).trans Q1.out
              go_wp2_with fail
              go_roundw
              case rel => exact ⟨k + 1, true, acc2 ++ [(q1', q2')], by omega, by go_num, rfl, hh, HO, (by
                show _ = _
                have hge : d1 ≤ q1' := by have := HGE.out; omega
                rw [← Hq.out]; rw [HF2.out, raise_step]; simp [hge, hne]), by show _ ≤ _; have := HL2.out; simp; omega⟩
              case measure => simp [intOf]; omega
          · by_cases hne : q1' = d1
            · have r0 := (hh.out.cell (p := ⟨_, _, none⟩) (lt_of_cell H0.out)).trans H0.out
              have r1 := (hh.out.cell (p := ⟨_, _, none⟩) (lt_of_cell H1.out)).trans H1.out
              have q0 := (hh.out.cell (p := ⟨_, _, none⟩) (lt_of_cell Q0.out)).trans Q0.out
              have q1 := (hh.out.cell (p := ⟨_, _, none⟩) (lt_of_cell Q1.out)).trans Q1.out
              go_wp2_with fail
              go_quiet (fail)
              replace hh := Lib.hid (bel_drewN hh.out nq)
              replace HO := Lib.hid (HO.out.below (bel_drewN (Below.refl _ _) nq))
              generalize hwz : World.drewN _ nq = wz at *
              clear hwz r0 r1 q0 q1
              have r0 := (hh.out.cell (p := ⟨_, _, none⟩) (lt_of_cell H0.out)).trans H0.out
              have r1 := (hh.out.cell (p := ⟨_, _, none⟩) (lt_of_cell H1.out)).trans H1.out
              have q0 := (hh.out.cell (p := ⟨_, _, none⟩) (lt_of_cell Q0.out)).trans Q0.out
              have q1 := (hh.out.cell (p := ⟨_, _, none⟩) (lt_of_cell Q1.out)).trans Q1.out
              go_wp2_with fail
              go_quiet (fail)
              replace hh := Lib.hid (bel_drewN hh.out nq)
              replace HO := Lib.hid (HO.out.below (bel_drewN (Below.refl _ _) nq))
              generalize hwz : World.drewN _ nq = wz at *
              clear hwz r0 r1 q0 q1
              have r0 := (hh.out.cell (p := ⟨_, _, none⟩) (lt_of_cell H0.out)).trans H0.out
              have r1 := (hh.out.cell (p := ⟨_, _, none⟩) (lt_of_cell H1.out)).trans H1.out
              have q0 := (hh.out.cell (p := ⟨_, _, none⟩) (lt_of_cell Q0.out)).trans Q0.out
              have q1 := (hh.out.cell (p := ⟨_, _, none⟩) (lt_of_cell Q1.out)).trans Q1.out
              go_wp2_with fail
              go_roundw
              case rel => exact ⟨k + 1, true, acc, by omega, by go_num, rfl, hh, HO, (by
                show _ = _
                have hge : d1 ≤ q1' := by have := HGE.out; omega
                rw [HF2.out, raise_step]; simp [hge, hne]), by show _ ≤ _; have := HL.out; simp; omega⟩
              case measure => simp [intOf]; omega
            · have hnb : (q1' != d1) = true := by rw [bne_iff_ne]; exact hne
              have r0 := (hh.out.cell (p := ⟨_, _, none⟩) (lt_of_cell H0.out)).trans H0.out
              have r1 := (hh.out.cell (p := ⟨_, _, none⟩) (lt_of_cell H1.out)).trans H1.out
              have q0 := (hh.out.cell (p := ⟨_, _, none⟩) (lt_of_cell Q0.out)).trans Q0.out
              have q1 := (hh.out.cell (p := ⟨_, _, none⟩) (lt_of_cell Q1.out)).trans Q1.out
              go_wp2_with fail
              go_quiet (fail)
              replace hh := Lib.hid (bel_drewN hh.out nq)
              replace HO := Lib.hid (HO.out.below (bel_drewN (Below.refl _ _) nq))
              generalize hwz : World.drewN _ nq = wz at *
              clear hwz r0 r1 q0 q1
              have r0 := (hh.out.cell (p := ⟨_, _, none⟩) (lt_of_cell H0.out)).trans H0.out
              have r1 := (hh.out.cell (p := ⟨_, _, none⟩) (lt_of_cell H1.out)).trans H1.out
              have q0 := (hh.out.cell (p := ⟨_, _, none⟩) (lt_of_cell Q0.out)).trans Q0.out
              have q1 := (hh.out.cell (p := ⟨_, _, none⟩) (lt_of_cell Q1.out)).trans Q1.out
              go_wp2_with fail
              go_quiet (fail)
              replace hh := Lib.hid (bel_drewN hh.out nq)
              replace HO := Lib.hid (HO.out.below (bel_drewN (Below.refl _ _) nq))
              generalize hwz : World.drewN _ nq = wz at *
              clear hwz r0 r1 q0 q1
              have r0 := (hh.out.cell (p := ⟨_, _, none⟩) (lt_of_cell H0.out)).trans H0.out
              have r1 := (hh.out.cell (p := ⟨_, _, none⟩) (lt_of_cell H1.out)).trans H1.out
              have q0 := (hh.out.cell (p := ⟨_, _, none⟩) (lt_of_cell Q0.out)).trans Q0.out
              have q1 := (hh.out.cell (p := ⟨_, _, none⟩) (lt_of_cell Q1.out)).trans Q1.out
              go_wp2_with (at_builtin; refine wpList_appD rfl _ _ _ rfl Try.underlying23 infoD _ _ rfl (HO.out.below ((Below.refl _ _).alloc (Nat.le_refl _) _)) (some ⟨wz.heap.size, 0, none⟩) [(q1', q2')] 1 rfl (lit_one wz (q1', q2') _) (fun h => by cases h) (by have := HL.out; have := HLX.out; simp; omega) (hh.out.alloc hh.out.size _).size ?_)
              intro v2 w2 ho hg _
              replace hh := Lib.hid ((hh.out.alloc hh.out.size (Obj.cells #[Value.int IntKind.i64 q1', Value.int IntKind.i64 q2'] 38)).grown hg (hh.out.alloc hh.out.size _).size (fun j hj => (HO.out.lt j hj).1))
              replace HO := Lib.hid ho
              obtain ⟨a2, c2, rfl, -⟩ := HO.out.row
              clear ho hg r0 r1 q0 q1
              have r0 := (hh.out.cell (p := ⟨_, _, none⟩) (lt_of_cell H0.out)).trans H0.out
              have r1 := (hh.out.cell (p := ⟨_, _, none⟩) (lt_of_cell H1.out)).trans H1.out
              have q0 := (hh.out.cell (p := ⟨_, _, none⟩) (lt_of_cell Q0.out)).trans Q0.out
              have q1 := (hh.out.cell (p := ⟨_, _, none⟩) (lt_of_cell Q1.out)).trans Q1.out
              go_wp2_with fail
              go_roundw
              case rel => exact ⟨k + 1, true, acc ++ [(q1', q2')], by omega, by go_num, rfl, hh, HO, (by
                show _ = _
                have hge : d1 ≤ q1' := by have := HGE.out; omega
                rw [HF2.out, raise_step]; simp [hge, hne]), by show _ ≤ _; have := HL.out; simp; omega⟩
              case measure => simp [intOf]; omega
        · have hd : decide (d1 ≤ q1') = false := by simpa using hge
          have HGE := Lib.hid hge
          have hne : ¬ q1' = d1 := by omega
          have hnb : (q1' != d1) = true := by rw [bne_iff_ne]; exact hne
          rcases b with _ | _
          · have r0 := (hh.out.cell (p := ⟨_, _, none⟩) (lt_of_cell H0.out)).trans H0.out
            have r1 := (hh.out.cell (p := ⟨_, _, none⟩) (lt_of_cell H1.out)).trans H1.out
            have q0 := (hh.out.cell (p := ⟨_, _, none⟩) (lt_of_cell Q0.out)).trans Q0.out
            have q1 := (hh.out.cell (p := ⟨_, _, none⟩) (lt_of_cell Q1.out)).trans Q1.out
            go_wp2_with fail
            go_quiet (fail)
            replace hh := Lib.hid (bel_drewN hh.out nq)
            replace HO := Lib.hid (HO.out.below (bel_drewN (Below.refl _ _) nq))
            generalize hwz : World.drewN _ nq = wz at *
            clear hwz r0 r1 q0 q1
            have r0 := (hh.out.cell (p := ⟨_, _, none⟩) (lt_of_cell H0.out)).trans H0.out
            have r1 := (hh.out.cell (p := ⟨_, _, none⟩) (lt_of_cell H1.out)).trans H1.out
            have q0 := (hh.out.cell (p := ⟨_, _, none⟩) (lt_of_cell Q0.out)).trans Q0.out
            have q1 := (hh.out.cell (p := ⟨_, _, none⟩) (lt_of_cell Q1.out)).trans Q1.out
            go_wp2_with fail
            go_quiet (fail)
            replace hh := Lib.hid (bel_drewN hh.out nq)
            replace HO := Lib.hid (HO.out.below (bel_drewN (Below.refl _ _) nq))
            generalize hwz : World.drewN _ nq = wz at *
            clear hwz r0 r1 q0 q1
            have r0 := (hh.out.cell (p := ⟨_, _, none⟩) (lt_of_cell H0.out)).trans H0.out
            have r1 := (hh.out.cell (p := ⟨_, _, none⟩) (lt_of_cell H1.out)).trans H1.out
            have q0 := (hh.out.cell (p := ⟨_, _, none⟩) (lt_of_cell Q0.out)).trans Q0.out
            have q1 := (hh.out.cell (p := ⟨_, _, none⟩) (lt_of_cell Q1.out)).trans Q1.out
            go_wp2_with (at_builtin; refine wpList_appD rfl _ _ _ rfl Try.underlying23 infoD _ _ rfl (HO.out.below ((Below.refl _ _).alloc (Nat.le_refl _) _)) (some ⟨wz.heap.size, 0, none⟩) [(q1', q2')] 1 rfl (lit_one wz (q1', q2') _) (fun h => by cases h) (by have := HL.out; have := HLX.out; simp; omega) (hh.out.alloc hh.out.size _).size ?_)
            intro v2 w2 ho hg _
            replace hh := Lib.hid ((hh.out.alloc hh.out.size (Obj.cells #[Value.int IntKind.i64 q1', Value.int IntKind.i64 q2'] 38)).grown hg (hh.out.alloc hh.out.size _).size (fun j hj => (HO.out.lt j hj).1))
            replace HO := Lib.hid ho
            obtain ⟨a2, c2, rfl, -⟩ := HO.out.row
            clear ho hg r0 r1 q0 q1
            have r0 := (hh.out.cell (p := ⟨_, _, none⟩) (lt_of_cell H0.out)).trans H0.out
            have r1 := (hh.out.cell (p := ⟨_, _, none⟩) (lt_of_cell H1.out)).trans H1.out
            have q0 := (hh.out.cell (p := ⟨_, _, none⟩) (lt_of_cell Q0.out)).trans Q0.out
            have q1 := (hh.out.cell (p := ⟨_, _, none⟩) (lt_of_cell Q1.out)).trans Q1.out
            go_wp2_with fail
            go_roundw
            case rel => exact ⟨k + 1, false, acc ++ [(q1', q2')], by omega, by go_num, rfl, hh, HO, (by
              show _ = _
              have hge : ¬ d1 ≤ q1' := by have := HGE.out; omega
              rw [HF2.out, raise_step]; simp [hge, hne]), by show _ ≤ _; have := HL.out; simp; omega⟩
            case measure => simp [intOf]; omega
          · have r0 := (hh.out.cell (p := ⟨_, _, none⟩) (lt_of_cell H0.out)).trans H0.out
            have r1 := (hh.out.cell (p := ⟨_, _, none⟩) (lt_of_cell H1.out)).trans H1.out
            have q0 := (hh.out.cell (p := ⟨_, _, none⟩) (lt_of_cell Q0.out)).trans Q0.out
            have q1 := (hh.out.cell (p := ⟨_, _, none⟩) (lt_of_cell Q1.out)).trans Q1.out
            go_wp2_with fail
            go_quiet (fail)
            replace hh := Lib.hid (bel_drewN hh.out nq)
            replace HO := Lib.hid (HO.out.below (bel_drewN (Below.refl _ _) nq))
            generalize hwz : World.drewN _ nq = wz at *
            clear hwz r0 r1 q0 q1
            have r0 := (hh.out.cell (p := ⟨_, _, none⟩) (lt_of_cell H0.out)).trans H0.out
            have r1 := (hh.out.cell (p := ⟨_, _, none⟩) (lt_of_cell H1.out)).trans H1.out
            have q0 := (hh.out.cell (p := ⟨_, _, none⟩) (lt_of_cell Q0.out)).trans Q0.out
            have q1 := (hh.out.cell (p := ⟨_, _, none⟩) (lt_of_cell Q1.out)).trans Q1.out
            go_wp2_with fail
            go_quiet (fail)
            replace hh := Lib.hid (bel_drewN hh.out nq)
            replace HO := Lib.hid (HO.out.below (bel_drewN (Below.refl _ _) nq))
            generalize hwz : World.drewN _ nq = wz at *
            clear hwz r0 r1 q0 q1
            have r0 := (hh.out.cell (p := ⟨_, _, none⟩) (lt_of_cell H0.out)).trans H0.out
            have r1 := (hh.out.cell (p := ⟨_, _, none⟩) (lt_of_cell H1.out)).trans H1.out
            have q0 := (hh.out.cell (p := ⟨_, _, none⟩) (lt_of_cell Q0.out)).trans Q0.out
            have q1 := (hh.out.cell (p := ⟨_, _, none⟩) (lt_of_cell Q1.out)).trans Q1.out
            go_wp2_with (at_builtin; refine wpList_appD rfl _ _ _ rfl Try.underlying23 infoD _ _ rfl (HO.out.below ((Below.refl _ _).alloc (Nat.le_refl _) _)) (some ⟨wz.heap.size, 0, none⟩) [(q1', q2')] 1 rfl (lit_one wz (q1', q2') _) (fun h => by cases h) (by have := HL.out; have := HLX.out; simp; omega) (hh.out.alloc hh.out.size _).size ?_)
            intro v2 w2 ho hg _
            replace hh := Lib.hid ((hh.out.alloc hh.out.size (Obj.cells #[Value.int IntKind.i64 q1', Value.int IntKind.i64 q2'] 38)).grown hg (hh.out.alloc hh.out.size _).size (fun j hj => (HO.out.lt j hj).1))
            replace HO := Lib.hid ho
            obtain ⟨a2, c2, rfl, -⟩ := HO.out.row
            clear ho hg r0 r1 q0 q1
            have r0 := (hh.out.cell (p := ⟨_, _, none⟩) (lt_of_cell H0.out)).trans H0.out
            have r1 := (hh.out.cell (p := ⟨_, _, none⟩) (lt_of_cell H1.out)).trans H1.out
            have q0 := (hh.out.cell (p := ⟨_, _, none⟩) (lt_of_cell Q0.out)).trans Q0.out
            have q1 := (hh.out.cell (p := ⟨_, _, none⟩) (lt_of_cell Q1.out)).trans Q1.out
            go_wp2_with fail
            go_roundw
            case rel => exact ⟨k + 1, true, acc ++ [(q1', q2')], by omega, by go_num, rfl, hh, HO, (by
              show _ = _
              have hge : ¬ d1 ≤ q1' := by have := HGE.out; omega
              rw [HF2.out, raise_step]; simp [hge, hne]), by show _ ≤ _; have := HL.out; simp; omega⟩
            case measure => simp [intOf]; omega
      · obtain rfl : k = v.length := by omega
        have hend : ¬ (v.length : Int) < (v.length : Int) := by omega
        have HF2 : Hid (raiseW (d1, d2) false v = acc ++ raiseW (d1, d2) b []) := by show _ = _; rw [HF.out, List.drop_length]
        have r0 := (hh.out.cell (p := ⟨_, _, none⟩) (lt_of_cell H0.out)).trans H0.out
        have r1 := (hh.out.cell (p := ⟨_, _, none⟩) (lt_of_cell H1.out)).trans H1.out
        clear HF
        rcases b with _ | _
        · generalize hwz : wr = wz at *
          clear hwz
          go_wp2_with (at_builtin; refine wpList_appD rfl _ _ _ rfl Try.underlying23 infoD _ _ rfl (HO.out.below ((Below.refl _ _).alloc (Nat.le_refl _) _)) (some ⟨wz.heap.size, 0, none⟩) [(d1, d2)] 1 rfl (lit_one wz (d1, d2) _) (fun h => by cases h) (by have := HL.out; have := HLX.out; simp; omega) (hh.out.alloc hh.out.size _).size ?_)
          intro v2 w2 ho hg _
          replace hh := Lib.hid ((hh.out.alloc hh.out.size (Obj.cells #[Value.int IntKind.i64 d1, Value.int IntKind.i64 d2] 38)).grown hg (hh.out.alloc hh.out.size _).size (fun j hj => (HO.out.lt j hj).1))
          have e : acc ++ [(d1, d2)] = raiseW (d1, d2) false v := by rw [HF2.out]; simp [raiseW]
          rw [e] at ho
          obtain ⟨a2, c2, rfl, hr, hn, hc, hz⟩ := ho.row
          have HZ : Hid (∀ x, a2 = some x → w.heap.size ≤ x.block) := fun x hx => Nat.le_trans HB.out.size (hz x hx).2.2.1
          have HR := Lib.hid hr
          have HN := Lib.hid (fun h => (hn h).1)
          have HC := Lib.hid hc
          clear ho hg hr hn hc e hz
          go_wp2_with fail
          go_ret
          exact ⟨_, _, rfl, HR.out, HN.out, HC.out, fun _ => HZ.out, HB.out.trans (hh.out.mono HB.out.size)⟩
        · have e : acc = raiseW (d1, d2) false v := by rw [HF2.out]; simp [raiseW]
          have ho := HO.out
          subst e
          obtain ⟨a2, c2, e, hr, hn, hc, hz⟩ := ho.row
          cases e
          have HZ : Hid (∀ x, a2 = some x → w.heap.size ≤ x.block) := fun x hx => Nat.le_trans HB.out.size (hz x hx).2.2.1
          have HR := Lib.hid hr
          have HN := Lib.hid (fun h => (hn h).1)
          have HC := Lib.hid hc
          clear ho hr hn hc hz
          go_wp2_with fail
          go_ret
          exact ⟨_, _, rfl, HR.out, HN.out, HC.out, fun _ => HZ.out, HB.out.trans (hh.out.mono HB.out.size)⟩
  · have hR : R = v := by rw [HE.out, hb, if_pos rfl]
    have HT : Hid (hasV v (d1, d2) = true) := hb
    clear hb HE
    subst hR
    go_wp2_with fail
    go_ret
    exact ⟨_, _, rfl, HX.out.keep HB.out, HN.out, HC.out, (fun h => by rw [HT.out] at h; cases h), HB.out⟩
end Go.Proofs.Ytefnoajkdhgonaa.F
