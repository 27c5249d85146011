/-
  Layer 16's references in both seats: sameDots, SameContext, Last, Dots, Context, Of, Same.
-/
import Derived.Test.YtgopkffgljiblaaGreatDgB
namespace Go.Proofs.YtgopkffgljiblaaGreat.Dg
set_option linter.unusedVariables false
open Go.RowKit V Go.Sort D Nd Qs Jn
open E (SV getV get_here get_away lays_refl)
open F (Ct cv cbox Bc two_new)
attribute [local irreducible] Sch.heldN Sch.stepV Sch.stepE

set_option maxRecDepth 100000 in
set_option maxHeartbeats 1000000 in
theorem sameD_ref (xs ys : List Dt) (a b : Option Addr) (c d : Nat) (w : World) (hx : RowD w a xs) (hy : RowD w b ys) (hlx : xs.length ≤ 140737488355328) (hly : ys.length ≤ 140737488355328) :
    Calls Tryz.prog 54 #[.slice a xs.length c, .slice b ys.length d] w fun e w' => e = .returned (.bool (decide (xs = ys))) ∧ Below w.heap.size w w' := by
  have HX := Lib.hid hx
  have HY := Lib.hid hy
  have hli : (xs.length : Int) ≤ 140737488355328 := by omega
  clear hx hy hlx hly
  by_cases hl : xs.length = ys.length
  · have q0 : ((xs.length : Int) != (ys.length : Int)) = false := by rw [bne_eq_false_iff_eq]; omega
    go_enter Tryz.func54, Tryz.ntmps54
    go_wp2_with fail
    go_loopw [5] (fun i wr => ∃ k : Nat, k ≤ xs.length ∧ i = .int .i64 k ∧ Hid (Below w.heap.size w wr) ∧ Hid (∀ j (hj : j < xs.length) (hj2 : j < ys.length), j < k → xs[j] = ys[j])) (fun i _ => xs.length - (intOf i).toNat)
    case atStart => exact ⟨0, Nat.zero_le _, rfl, Below.refl _ _, fun j _ _ h => by omega⟩
    case round =>
      obtain ⟨k, hk, rfl, hh, HV⟩ := hrel
      by_cases hlt : k < xs.length
      · have hlt2 : k < ys.length := by omega
        obtain ⟨b1, o1, rfl, p0, p1⟩ := HX.out.get hh.out k hlt
        obtain ⟨b2, o2, rfl, q1, q2⟩ := HY.out.get hh.out k hlt2
        obtain ⟨p, hp⟩ : ∃ p, p = xs[k] := ⟨_, rfl⟩
        obtain ⟨q, hq⟩ : ∃ q, q = ys[k] := ⟨_, rfl⟩
        rw [← hp] at p0 p1
        rw [← hq] at q1 q2
        have HP := Lib.hid hp
        have HQ := Lib.hid hq
        clear hp hq
        by_cases hpq : p = q
        · subst hpq
          go_wp2_with fail
          go_quiet (fail)
          go_wp2_with fail
          go_roundw
          case rel =>
            refine ⟨k + 1, by omega, by go_num, bel_drewN hh.out _, fun j hj hj2 hjk => ?_⟩
            by_cases hjk2 : j = k
            · subst hjk2; rw [← HP.out, ← HQ.out]
            · exact HV.out j hj hj2 (by omega)
          case measure => simp [intOf]; omega
        · have hne := neq_yes hpq
          have HN : Hid (decide (xs = ys) = false) := by
            show _ = _
            rw [decide_eq_false_iff_not]
            rintro rfl
            exact hpq (by rw [HP.out, HQ.out])
          clear hpq
          go_wp2_with fail
          go_quiet (fail)
          go_wp2_with fail
          go_ret
          exact ⟨by rw [HN.out]; rfl, bel_drewN hh.out _⟩
      · obtain rfl : k = xs.length := by omega
        have HN : Hid (decide (xs = ys) = true) := by
          show _ = _
          rw [decide_eq_true_eq]
          exact List.ext_getElem hl fun j hj hj2 => HV.out j hj hj2 hj
        have hend : ¬ (xs.length : Int) < (xs.length : Int) := by omega
        go_wp2_with fail
        go_ret
        exact ⟨by rw [HN.out]; rfl, hh.out⟩
  · have q0 : ((xs.length : Int) != (ys.length : Int)) = true := by rw [bne_iff_ne]; omega
    have HN : Hid (decide (xs = ys) = false) := by
      show _ = _
      rw [decide_eq_false_iff_not]
      rintro rfl
      exact hl rfl
    go_enter Tryz.func54, Tryz.ntmps54
    go_wp2_with fail
    go_ret
    exact ⟨by rw [HN.out]; rfl, Below.refl _ _⟩

set_option maxRecDepth 100000 in
set_option maxHeartbeats 1000000 in
theorem last_ref (v : List Dt) (r : Int) (a : Option Addr) (c : Nat) (w : World) (hx : RowD w a v) (hlx : v.length ≤ 140737488355328) :
    Calls Tryz.prog 51 #[.slice a v.length c, .int .i64 r] w fun e w' => e = .returned (.int .i64 (getV v r)) ∧ Lays w w' := by
  have HX := Lib.hid hx
  have hli : (v.length : Int) ≤ 140737488355328 := by omega
  clear hx hlx
  go_enter Tryz.func51, Tryz.ntmps51
  go_wp2_with fail
  go_loopw [5] (fun i wr => ∃ k : Nat, k ≤ v.length ∧ i = .int .i64 k ∧ Hid (Lays w wr) ∧ Hid (∀ j (hj : j < v.length), j < k → v[j].1 ≠ r)) (fun i _ => v.length - (intOf i).toNat)
  case atStart => exact ⟨0, Nat.zero_le _, rfl, lays_refl _, fun j _ h => by omega⟩
  case round =>
    obtain ⟨k, hk, rfl, hh, HV⟩ := hrel
    by_cases hlt : k < v.length
    · obtain ⟨b1, o1, rfl, p0, p1⟩ := HX.out.get hh.out.bel k hlt
      obtain ⟨p, hp⟩ : ∃ p, p = v[k] := ⟨_, rfl⟩
      rw [← hp] at p0 p1
      have HP := Lib.hid hp
      clear hp
      by_cases hpq : p.1 = r
      · have HN : Hid (getV v r = p.2) := by
          show _ = _
          rw [HP.out]
          exact get_here hlt HV.out (by rw [← HP.out]; exact hpq)
        obtain ⟨p1', p2'⟩ := p
        simp only at hpq p0 p1
        subst hpq
        go_wp2_with fail
        go_ret
        exact ⟨by rw [HN.out]; rfl, hh.out⟩
      · have hne : (p.1 == r) = false := by rw [beq_eq_false_iff_ne]; exact hpq
        go_wp2_with fail
        go_roundw
        case rel =>
          refine ⟨k + 1, by omega, by go_num, hh, fun j hj hjk => ?_⟩
          by_cases hjk2 : j = k
          · subst hjk2; rw [← HP.out]; exact hpq
          · exact HV.out j hj (by omega)
        case measure => simp [intOf]; omega
    · have HN : Hid (getV v r = 0) := get_away fun j hj => HV.out j hj (by omega)
      have hend : ¬ (k : Int) < (v.length : Int) := by omega
      go_wp2_with fail
      go_ret
      exact ⟨by rw [HN.out]; rfl, hh.out⟩

set_option maxRecDepth 100000 in
set_option maxHeartbeats 1000000 in
theorem sameC_ref (xs ys us vs : List Dt) (a b p q : Option Addr) (n m j k : Nat) (w : World) (hx : RowD w a xs) (hy : RowD w b ys) (hu : RowD w p us) (hv : RowD w q vs) (hlx : xs.length ≤ 1000000) (hly : ys.length ≤ 1000000) (hlu : us.length ≤ 1000000) (hlv : vs.length ≤ 1000000) :
    Calls Tryz.prog 31 #[cv (.slice a xs.length n) (.slice b ys.length m), cv (.slice p us.length j) (.slice q vs.length k)] w fun e w' => e = .returned (.bool (decide ((xs, ys) = (us, vs)))) ∧ Below w.heap.size w w' := by
  have H1 := Lib.hid (fun w h1 h2 => sameD_ref xs us a p n j w h1 h2 (by omega) (by omega))
  have H2 := Lib.hid (fun w h1 h2 => sameD_ref ys vs b q m k w h1 h2 (by omega) (by omega))
  have HE : Hid (decide ((xs, ys) = (us, vs)) = (decide (xs = us) && decide (ys = vs))) := by
    show _ = _
    rw [Bool.eq_iff_iff]
    simp
  have HB := Lib.hid (bel_box w (cbox (.slice a xs.length n) (.slice b ys.length m)))
  have HT := Lib.hid (two_new w (.slice a xs.length n) (.slice b ys.length m))
  have HX := Lib.hid (hx.keep HB.out)
  have HY := Lib.hid (hy.keep HB.out)
  have HU := Lib.hid (hu.keep HB.out)
  have HV := Lib.hid (hv.keep HB.out)
  clear hx hy hu hv hlx hly hlu hlv
  generalize decide ((xs, ys) = (us, vs)) = R at *
  generalize decide (xs = us) = e1 at *
  generalize decide (ys = vs) = e2 at *
  go_enter Tryz.func31, Tryz.ntmps31
  go_wp2_with fail
  have hsz : (w.alloc (cbox (.slice a xs.length n) (.slice b ys.length m))).heap.size = w.heap.size + 1 := by simp
  generalize w.alloc (cbox (.slice a xs.length n) (.slice b ys.length m)) = w1 at *
  have hb := bel_box w1 (cbox (.slice p us.length j) (.slice q vs.length k))
  have HS := Lib.hid (two_new w1 (.slice p us.length j) (.slice q vs.length k))
  rw [hsz] at HS
  replace HT := Lib.hid (HT.out.keep hb)
  replace HX := Lib.hid (HX.out.keep hb)
  replace HY := Lib.hid (HY.out.keep hb)
  replace HU := Lib.hid (HU.out.keep hb)
  replace HV := Lib.hid (HV.out.keep hb)
  replace HB := bel_tr HB hb
  clear hb hsz
  generalize w1.alloc (cbox (.slice p us.length j) (.slice q vs.length k)) = w2 at *
  have k0 := HT.out.1
  have k1 := HT.out.2
  have k2 := HS.out.1
  have k3 := HS.out.2
  go_wp2_with fail
  refine (H1.out _ HX.out HU.out).mono ?_
  rintro e w3 ⟨rfl, hb⟩
  replace HT := Lib.hid (HT.out.keep hb)
  replace HS := Lib.hid (HS.out.keep hb)
  replace HY := Lib.hid (HY.out.keep hb)
  replace HV := Lib.hid (HV.out.keep hb)
  replace HB := bel_tr HB hb
  clear hb H1 k0 k1 k2 k3
  have k1 := HT.out.2
  have k3 := HS.out.2
  rcases e1 with _ | _
  · have hE := HE.out
    subst hE
    clear HE
    go_wp2_with fail
    go_ret
    exact ⟨rfl, HB.out⟩
  · go_wp2_with fail
    refine (H2.out _ HY.out HV.out).mono ?_
    rintro e w4 ⟨rfl, hb⟩
    replace HB := bel_tr HB hb
    clear hb H2 k1 k3
    have hE := HE.out
    subst hE
    clear HE
    go_wp2_with fail
    go_ret
    exact ⟨by simp, HB.out⟩

theorem sameC_kx (A B : Ct) (x y u v : Value) (w : World) (h : Kx w x y A) (h2 : Kx w u v B) (hl : KL 1000000 A) (hl2 : KL 1000000 B) :
    Calls Tryz.prog 31 #[cv x y, cv u v] w fun e w' => e = .returned (.bool (decide (A = B))) ∧ Below w.heap.size w w' := by
  obtain ⟨⟨a, n, rfl, ha, -, -⟩, b, m, rfl, hb, -, -⟩ := h
  obtain ⟨⟨p, j, rfl, hp, -, -⟩, q, k, rfl, hq, -, -⟩ := h2
  exact sameC_ref A.1 A.2 B.1 B.2 a b p q n m j k w ha hb hp hq hl.1 hl.2 hl2.1 hl2.2
set_option maxRecDepth 100000 in
set_option maxHeartbeats 4000000 in
theorem gsame_ref (d e : Gt) (x y u v s t o q : Value) (w : World) (h : Gx w x y u v d) (h2 : Gx w s t o q e) (hl : GL 1000000 d) (hm : GL 1000000 e) :
    Calls Tryz.prog 11 #[gv x y u v, gv s t o q] w fun e' w' => e' = .returned (.bool (decide (d = e))) ∧ Below w.heap.size w w' := by
  have HV1 := Lib.hid (fun w (h : Gx w x y u v d) (h2 : Gx w s t o q e) => sameC_kx d.1 e.1 x y s t w h.1 h2.1 hl.1 hm.1)
  have HV2 := Lib.hid (fun w (h : Gx w x y u v d) (h2 : Gx w s t o q e) => sameC_kx d.2 e.2 u v o q w h.2 h2.2 hl.2 hm.2)
  have HE : Hid (decide (d = e) = (decide (d.1 = e.1) && decide (d.2 = e.2))) := by
    show _ = _
    rw [Bool.eq_iff_iff, decide_eq_true_eq, Bool.and_eq_true, decide_eq_true_eq, decide_eq_true_eq]
    exact ⟨fun h => by rw [h]; exact ⟨rfl, rfl⟩, fun h => Prod.ext h.1 h.2⟩
  have HG0 := Lib.hid h
  have HH0 := Lib.hid h2
  obtain ⟨⟨⟨a1, n1, rfl, -⟩, a2, n2, rfl, -⟩, ⟨a3, n3, rfl, -⟩, a4, n4, rfl, -⟩ := h
  obtain ⟨⟨⟨a5, n5, rfl, -⟩, a6, n6, rfl, -⟩, ⟨a7, n7, rfl, -⟩, a8, n8, rfl, -⟩ := h2
  have hb0 := bel_box w (gbox (.slice a1 d.1.1.length n1) (.slice a2 d.1.2.length n2) (.slice a3 d.2.1.length n3) (.slice a4 d.2.2.length n4))
  have hsz : (w.alloc (gbox (.slice a1 d.1.1.length n1) (.slice a2 d.1.2.length n2) (.slice a3 d.2.1.length n3) (.slice a4 d.2.2.length n4))).heap.size = w.heap.size + 1 := by simp
  have HT0 := Lib.hid (four_new w (.slice a1 d.1.1.length n1) (.slice a2 d.1.2.length n2) (.slice a3 d.2.1.length n3) (.slice a4 d.2.2.length n4))
  have hb1 := bel_box (w.alloc (gbox (.slice a1 d.1.1.length n1) (.slice a2 d.1.2.length n2) (.slice a3 d.2.1.length n3) (.slice a4 d.2.2.length n4))) (gbox (.slice a5 e.1.1.length n5) (.slice a6 e.1.2.length n6) (.slice a7 e.2.1.length n7) (.slice a8 e.2.2.length n8))
  have HS := Lib.hid (four_new (w.alloc (gbox (.slice a1 d.1.1.length n1) (.slice a2 d.1.2.length n2) (.slice a3 d.2.1.length n3) (.slice a4 d.2.2.length n4))) (.slice a5 e.1.1.length n5) (.slice a6 e.1.2.length n6) (.slice a7 e.2.1.length n7) (.slice a8 e.2.2.length n8))
  rw [hsz] at HS
  have HT := Lib.hid (HT0.out.keep hb1)
  have HB := bel_tr (Lib.hid hb0) hb1
  have HG := Lib.hid (HG0.out.keep HB.out)
  have HH := Lib.hid (HH0.out.keep HB.out)
  clear hl hm HG0 HH0 hb0 hb1 HT0 hsz
  generalize decide (d = e) = R at *
  generalize decide (d.1 = e.1) = r1 at *
  generalize decide (d.2 = e.2) = r2 at *
  go_enter Tryz.func11, Tryz.ntmps11
  go_upto_region 1 with fail
  generalize (w.alloc (gbox (.slice a1 d.1.1.length n1) (.slice a2 d.1.2.length n2) (.slice a3 d.2.1.length n3) (.slice a4 d.2.2.length n4))).alloc (gbox (.slice a5 e.1.1.length n5) (.slice a6 e.1.2.length n6) (.slice a7 e.2.1.length n7) (.slice a8 e.2.2.length n8)) = w1 at *
  have k0 := HT.out.1.1
  have k1 := HT.out.1.2
  have k2 := HT.out.2.1
  have k3 := HT.out.2.2
  have l0 := HS.out.1.1
  have l1 := HS.out.1.2
  have l2 := HS.out.2.1
  have l3 := HS.out.2.2
  go_wp2_with fail
  refine (HV1.out _ HG.out HH.out).mono ?_
  rintro e w2 ⟨rfl, hb⟩
  replace HG := Lib.hid (HG.out.keep hb)
  replace HH := Lib.hid (HH.out.keep hb)
  replace HT := Lib.hid (HT.out.keep hb)
  replace HS := Lib.hid (HS.out.keep hb)
  replace HB := bel_tr HB hb
  clear hb HV1 k0 k1 k2 k3 l0 l1 l2 l3
  have k0 := HT.out.1.1
  have k1 := HT.out.1.2
  have k2 := HT.out.2.1
  have k3 := HT.out.2.2
  have l0 := HS.out.1.1
  have l1 := HS.out.1.2
  have l2 := HS.out.2.1
  have l3 := HS.out.2.2
  rcases r1 with _ | _
  · have hE := HE.out
    subst hE
    clear HE
    go_wp2_with fail
    go_ret
    exact ⟨rfl, HB.out⟩
  go_wp2_with fail
  refine (HV2.out _ HG.out HH.out).mono ?_
  rintro e w3 ⟨rfl, hb⟩
  replace HG := Lib.hid (HG.out.keep hb)
  replace HH := Lib.hid (HH.out.keep hb)
  replace HT := Lib.hid (HT.out.keep hb)
  replace HS := Lib.hid (HS.out.keep hb)
  replace HB := bel_tr HB hb
  clear hb HV2 k0 k1 k2 k3 l0 l1 l2 l3
  have hE := HE.out
  subst hE
  clear HE
  go_wp2_with fail
  go_ret
  exact ⟨by simp, HB.out⟩
theorem dotsS_take {l : List Nt} {dead : Bool} {k : Nat} (hk : k < l.length) : dotsS (l.take (k + 1)) dead = if (!dead || deadN l[k]) = true then dotsS (l.take k) dead ++ [l[k].1] else dotsS (l.take k) dead := by
  have e : l.take (k + 1) = l.take k ++ [l[k]] := by rw [List.take_add_one, List.getElem?_eq_getElem hk]; rfl
  unfold dotsS
  rw [e, List.filter_append, List.filter_cons]
  split
  · simp
  · simp
set_option maxRecDepth 100000 in
set_option maxHeartbeats 4000000 in
theorem dotsR_ref (l : List Nt) (dead : Bool) (a : Option Addr) (c : Nat) (w : World) (hx : RowN w a l) (hlx : l.length ≤ 300000) :
    Calls Tryz.prog 41 #[.slice a l.length c, .bool dead] w fun e w' => ∃ v, e = .returned v ∧ OD w' w.heap.size D.E v (dotsS l dead) ∧ Below w.heap.size w w' := by
  obtain ⟨pf, hpf⟩ : ∃ pf : Nat → List Dt, pf = fun k => dotsS (l.take k) dead := ⟨_, rfl⟩
  have HP0 : Hid (pf 0 = []) := by show _ = _; rw [hpf]; rfl
  have HPn : Hid (pf l.length = dotsS l dead) := by show _ = _; rw [hpf]; simp only [List.take_length]
  have HPs : Hid (∀ k (hk : k < l.length), pf (k + 1) = if (!dead || deadN l[k]) = true then pf k ++ [l[k].1] else pf k) := fun k hk => by rw [hpf]; exact dotsS_take hk
  have HPl : Hid (∀ k, (pf k).length ≤ 300000) := fun k => by
    rw [hpf]
    have h1 := dots_len (l.take k) dead
    have h3 : (l.take k).length ≤ l.length := by rw [List.length_take]; omega
    show (dotsS (l.take k) dead).length ≤ _
    omega
  clear hpf
  have HX := Lib.hid hx
  have hli : (l.length : Int) ≤ 300000 := by omega
  clear hx hlx
  generalize dotsS l dead = D1 at *
  go_enter Tryz.func41, Tryz.ntmps41
  go_wp2_with fail
  go_loopw [5, 6] (fun v i wr => ∃ k : Nat, k ≤ l.length ∧ i = .int .i64 (k : Int) ∧ Hid (OD wr w.heap.size D.E v (pf k)) ∧ Hid (Below w.heap.size w wr)) (fun _ i _ => l.length - (intOf i).toNat)
  case atStart => exact ⟨0, Nat.zero_le _, rfl, (by show OD _ _ _ _ (pf 0); rw [HP0.out]; exact OD.nil _ _ _), Below.refl _ _⟩
  case round =>
    obtain ⟨k, hk, rfl, HO, hh⟩ := hrel
    by_cases hlt : k < l.length
    · have hi0 : (k : Int) < (l.length : Int) := by omega
      obtain ⟨b1, o1, rfl, hna⟩ := na_of (HX.out.keep hh.out) k hlt
      have HSt := Lib.hid (HPs.out k hlt)
      have HPk := Lib.hid (HPl.out k)
      obtain ⟨q, hq⟩ : ∃ q, q = l[k] := ⟨_, rfl⟩
      rw [← hq] at hna HSt
      clear hq
      have HD : Hid (deadN q = (q.2.2.2 == 0)) := rfl
      rcases dead with _ | _
      · have HSt2 : Hid (pf (k + 1) = pf k ++ [q.1]) := HSt.out
        clear HSt HD
        obtain ⟨n0, n1, n2, n3, n4, n5⟩ := hna
        obtain ⟨⟨q1, q2⟩, ⟨q3, q4⟩, q5, q6⟩ := q
        have hb2 := bel_box wr (.cells #[.int .i64 q1, .int .i64 q2] 48)
        have HO3 := Lib.hid (HO.out.below hb2)
        have HB3 := bel_tr hh hb2
        have HLt : Hid (RowD (wr.alloc (.cells #[.int .i64 q1, .int .i64 q2] 48)) (some ⟨wr.heap.size, 0, none⟩) [(q1, q2)]) := lit_one wr (q1, q2) _
        clear hb2
        go_wp2_with (at_builtin; refine wpList_appD rfl _ _ _ rfl Tryz.underlying22 infoD _ _ rfl HO3.out (some ⟨wr.heap.size, 0, none⟩) [(q1, q2)] 1 rfl HLt.out (fun h => by cases h) (by have := HPk.out; simp only [List.length_cons, List.length_nil]; omega) HB3.out.size ?_)
        intro v7 w7 ho hg _
        have HO7 : Hid (OD w7 w.heap.size D.E v7 (pf (k + 1))) := by rw [HSt2.out]; exact ho
        have HB7 := Lib.hid (HB3.out.grown hg HB3.out.size (fun x hx => (HO3.out.lt x hx).1))
        clear ho hg n0 n1 n2 n3 n4 n5
        go_wp2_with fail
        go_roundw
        case rel => exact ⟨k + 1, by omega, by go_num, HO7, HB7⟩
        case measure => simp [intOf]; omega
      by_cases h6 : q.2.2.2 = 0
      · have HSt2 : Hid (pf (k + 1) = pf k ++ [q.1]) := by
          show _ = _
          rw [HSt.out, HD.out, h6]
          rfl
        clear HSt HD
        obtain ⟨n0, n1, n2, n3, n4, n5⟩ := hna
        obtain ⟨⟨q1, q2⟩, ⟨q3, q4⟩, q5, q6⟩ := q
        obtain rfl : q6 = 0 := h6
        have hb2 := bel_box wr (.cells #[.int .i64 q1, .int .i64 q2] 48)
        have HO3 := Lib.hid (HO.out.below hb2)
        have HB3 := bel_tr hh hb2
        have HLt : Hid (RowD (wr.alloc (.cells #[.int .i64 q1, .int .i64 q2] 48)) (some ⟨wr.heap.size, 0, none⟩) [(q1, q2)]) := lit_one wr (q1, q2) _
        clear hb2
        go_wp2_with (at_builtin; refine wpList_appD rfl _ _ _ rfl Tryz.underlying22 infoD _ _ rfl HO3.out (some ⟨wr.heap.size, 0, none⟩) [(q1, q2)] 1 rfl HLt.out (fun h => by cases h) (by have := HPk.out; simp only [List.length_cons, List.length_nil]; omega) HB3.out.size ?_)
        intro v7 w7 ho hg _
        have HO7 : Hid (OD w7 w.heap.size D.E v7 (pf (k + 1))) := by rw [HSt2.out]; exact ho
        have HB7 := Lib.hid (HB3.out.grown hg HB3.out.size (fun x hx => (HO3.out.lt x hx).1))
        clear ho hg n0 n1 n2 n3 n4 n5
        go_wp2_with fail
        go_roundw
        case rel => exact ⟨k + 1, by omega, by go_num, HO7, HB7⟩
        case measure => simp [intOf]; omega
      · have HSt2 : Hid (pf (k + 1) = pf k) := by
          show _ = _
          rw [HSt.out, HD.out, beq_false_of_ne h6]
          rfl
        have h6' : (q.2.2.2 == 0) = false := beq_false_of_ne h6
        clear HSt HD
        obtain ⟨n0, n1, n2, n3, n4, n5⟩ := hna
        obtain ⟨⟨q1, q2⟩, ⟨q3, q4⟩, q5, q6⟩ := q
        go_wp2_with fail
        go_roundw
        case rel => exact ⟨k + 1, by omega, by go_num, (by rw [HSt2.out]; exact HO.out), hh⟩
        case measure => simp [intOf]; omega
    · obtain rfl : k = l.length := by omega
      have hend : ¬ (l.length : Int) < (l.length : Int) := by omega
      rw [HPn.out] at HO
      go_wp2_with fail
      go_ret
      exact ⟨_, rfl, HO.out, hh.out⟩
end Go.Proofs.YtgopkffgljiblaaGreat.Dg
