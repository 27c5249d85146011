/-
  The functions of package index, and what they ask of the library.
-/
import Derived.Test.YteojbekkbgcmnabIxDel
import Derived.Test.YteojbekkbgcmnabMNPure
import Derived.Test.YteojbekkbgcmnabMWBel
import Derived.Test.YteojbekkbgcmnabMRTextC

section
namespace Go.Proofs.Yteojbekkbgcmnab.Un
set_option linter.unusedVariables false
open Go.RowKit V Go.Shelf Go.Sort D Nd Qs Wk Ix
attribute [local irreducible] Sch.heldN Sch.stepV Sch.stepE

/-! ### The library's IndexFunc, exactly -/
set_option maxRecDepth 100000 in
set_option maxHeartbeats 1000000 in
theorem indexN (l : List Nt) (a : Option Addr) (c g : Nat) (cb : Array Value) (p : Nt → Bool) (w : World) (eg : ∀ args w, (callFunc g args).run Try.prog w = .ok (.enter g args) w) (hp : AskN w g cb l p) (hx : RowN w a l) (hlx : l.length ≤ 1000000) :
    Calls Try.prog 75 #[.slice a l.length c, .func (.func g) #[] cb] w fun e w' => e = .returned (.int .i64 (posI p l)) ∧ Below w.heap.size w w' := by
  have HP := Lib.hid hp
  have HX := Lib.hid hx
  have hli : (l.length : Int) ≤ 1000000 := by omega
  clear hp hx hlx
  go_enter Try.func75, Try.ntmps75
  go_wp2_with fail
  go_loopw [5, 8] (fun _ i wr => ∃ k : Nat, k ≤ l.length ∧ i = .int .i64 (k : Int) ∧ Hid (Below w.heap.size w wr) ∧ Hid (∀ j (hj : j < l.length), j < k → p l[j] = false)) (fun _ i _ => l.length - (intOf i).toNat)
  case atStart => exact ⟨0, Nat.zero_le _, rfl, Below.refl _ _, fun j _ h => by omega⟩
  case round =>
    obtain ⟨k, hk, rfl, hh, HV⟩ := hrel
    by_cases hlt : k < l.length
    · obtain ⟨b1, o1, rfl, p0, p1, p2, p3, p4, p5⟩ := (HX.out.keep hh.out).get k hlt
      have HQ := Lib.hid (HP.out wr hh.out l[k] (List.getElem_mem hlt))
      have HT := Lib.hid (pos_here (p := p) hlt)
      obtain ⟨q, hq⟩ : ∃ q, q = l[k] := ⟨_, rfl⟩
      rw [← hq] at p0 p1 p2 p3 p4 p5 HQ HT
      have HQe := Lib.hid hq
      have hi1 : (k : Int) < (l.length : Int) := by omega
      clear hq
      obtain ⟨⟨q1, q2⟩, ⟨q3, q4⟩, q5, q6⟩ := q
      go_wp2_with fail
      refine HQ.out.mono ?_
      rintro e w3 ⟨rfl, hb⟩
      have HB := Lib.hid (bel_tr hh.out hb)
      clear hb HQ
      rcases hpq : p ((q1, q2), (q3, q4), q5, q6) with _ | _
      · go_wp2_with fail
        go_roundw
        case rel =>
          refine ⟨k + 1, by omega, by go_num, HB, fun j hj hjk => ?_⟩
          by_cases hjk2 : j = k
          · subst hjk2; rw [← HQe.out]; exact hpq
          · exact HV.out j hj (by omega)
        case measure => simp [intOf]; omega
      · have hT := HT.out hpq HV.out
        go_wp2_with fail
        go_ret
        exact ⟨by rw [hT]; rfl, HB.out⟩
    · obtain rfl : k = l.length := by omega
      have HN : Hid (posI p l = -1) := pos_away fun j hj => HV.out j hj hj
      have hend : ¬ (l.length : Int) < (l.length : Int) := by omega
      go_wp2_with fail
      go_ret
      exact ⟨by rw [HN.out]; rfl, hh.out⟩


/-! ### The library's DeleteFunc -/
/-- What the loop keeps: l' is the row now; the first i of it are what is kept of the first j of l, from j on it is as it was. -/
structure Del (p : Nt → Bool) (l M : List Nt) (i j : Nat) : Prop where
  len : M.length = l.length
  ij : i ≤ j
  jl : j ≤ l.length
  low : M.take i = (l.take j).filter fun x => !p x
  high : ∀ t (h : t < l.length) (h2 : t < M.length), j ≤ t → M[t] = l[t]
theorem Del.il {p : Nt → Bool} {l M : List Nt} {i j : Nat} (h : Del p l M i j) : i ≤ l.length := Nat.le_trans h.ij h.jl
theorem Del.start {p : Nt → Bool} {l : List Nt} {k : Nat} (hk : k < l.length) (h : p l[k] = true) (hn : ∀ j (hj : j < l.length), j < k → p l[j] = false) : Del p l l k (k + 1) := {
  len := rfl
  ij := Nat.le_succ k
  jl := hk
  low := by
    rw [List.take_succ_eq_append_getElem hk, List.filter_append]
    have e : (l.take k).filter (fun x => !p x) = l.take k := List.filter_eq_self.2 fun x hx => by
      obtain ⟨i, hi, rfl⟩ := List.mem_iff_getElem.1 hx
      rw [List.length_take] at hi
      rw [List.getElem_take, hn i (by omega) (by omega)]
      rfl
    rw [e]
    simp [h]
  high := fun t h h2 _ => rfl }
theorem Del.skip {p : Nt → Bool} {l M : List Nt} {i j : Nat} (h : Del p l M i j) (hj : j < l.length) (hp : p l[j] = true) : Del p l M i (j + 1) := {
  len := h.len
  ij := Nat.le_succ_of_le h.ij
  jl := hj
  low := by rw [List.take_succ_eq_append_getElem hj, List.filter_append, ← h.low]; simp [hp]
  high := fun t h1 h2 ht => h.high t h1 h2 (by omega) }
theorem Del.keep {p : Nt → Bool} {l M : List Nt} {i j : Nat} (h : Del p l M i j) (hj : j < l.length) (hp : p l[j] = false) : Del p l (M.set i l[j]) (i + 1) (j + 1) := {
  len := by rw [List.length_set]; exact h.len
  ij := Nat.succ_le_succ h.ij
  jl := hj
  low := by
    have hi : i < M.length := by rw [h.len]; exact Nat.lt_of_le_of_lt h.ij hj
    rw [List.take_succ_eq_append_getElem (by rw [List.length_set]; exact hi), List.getElem_set_self, List.take_set_of_le (Nat.le_refl _), h.low, List.take_succ_eq_append_getElem hj, List.filter_append]
    simp [hp]
  high := fun t h1 h2 ht => by
    rw [List.length_set] at h2
    rw [List.getElem_set_ne (by have := h.ij; omega)]
    exact h.high t h1 h2 (by omega) }
theorem Del.done {p : Nt → Bool} {l M : List Nt} {i : Nat} (h : Del p l M i l.length) : M.take i = l.filter fun x => !p x := by rw [h.low, List.take_length]

set_option maxRecDepth 100000 in
set_option maxHeartbeats 4000000 in
theorem delete_any (l : List Nt) (gf : Nat) (p : Nt → Bool) (v : Value) (base : Nat) (w : World) (eg : ∀ args w, (callFunc gf args).run Try.prog w = .ok (.enter gf args) w) (hp : ∀ (n : Nt) (W : World), Calls Try.prog gf #[nv n] W fun e w' => e = .returned (.bool (p n)) ∧ Below W.heap.size W w') (ho : ON w base EN v l) (hlx : l.length ≤ 1000000) :
    Calls Try.prog 79 #[v, .func (.func gf) #[] #[]] w fun e w' => ∃ v', e = .returned v' ∧ ON w' base EN v' (l.filter fun x => !p x) ∧ w.grownBy w' v.ownBlock := by
  have HP := Lib.hid hp
  have hli : (l.length : Int) ≤ 1000000 := by omega
  obtain ⟨a, c, rfl, hr, -, hlc, hx⟩ := ON.row ho
  have HIx := Lib.hid (indexN l a c gf #[] p w eg (fun W _ n _ => hp n W) hr hlx)
  have HO := Lib.hid ho
  have HLc := Lib.hid hlc
  clear hp hr ho hlc
  by_cases hany : ∃ k, ∃ hk : k < l.length, p l[k] = true ∧ ∀ j (hj : j < l.length), j < k → p l[j] = false
  · obtain ⟨k, hk, hpk, hno⟩ := hany
    rw [pos_here hk hpk hno] at HIx
    have HDl := Lib.hid (Del.start hk hpk hno)
    clear hpk hno
    obtain ⟨g, rfl⟩ : ∃ g, a = some ⟨g, 0, none⟩ := by
      rcases a with _ | x
      · have := HO.out.r.1
        rcases this with h | ⟨b, o, h, -⟩
        · rw [h] at hk; exact absurd hk (Nat.not_lt_zero _)
        · cases h
      · obtain ⟨e, -⟩ := hx x rfl
        exact ⟨x.block, by rw [← e]⟩
    have HG : Hid (g < w.heap.size) := (hx _ rfl).2.2.2
    clear hx
    have hne : ¬ (k : Int) = -1 := by omega
    have hkl : (k : Int) ≤ 1000000 := by omega
    go_enter Try.func79, Try.ntmps79
    go_wp2_with fail
    refine HIx.out.mono ?_
    rintro e w2 ⟨rfl, hb⟩
    have HB := Lib.hid hb
    have HO2 := Lib.hid (HO.out.below hb)
    clear hb HIx
    go_wp2_with fail
    go_loopw [5, 6, 7] (fun i j _ wr => ∃ (m t : Nat) (M : List Nt), i = .int .i64 (m : Int) ∧ j = .int .i64 (t : Int) ∧ m < t ∧ t ≤ l.length ∧ M.length = l.length ∧ Hid (Del p l M m t) ∧ Hid (ON wr base EN (.slice (some ⟨g, 0, none⟩) l.length c) M) ∧ Hid (w.grownBy wr (some g)) ∧ Hid (g < wr.heap.size)) (fun _ j _ _ => l.length - (intOf j).toNat)
    case atStart => exact ⟨k, k + 1, l, rfl, by go_num, by omega, by omega, rfl, HDl, HO2, gb_below HB.out _, Nat.lt_of_lt_of_le HG.out HB.out.size⟩
    case round =>
      clear HO2 HDl
      obtain ⟨m, t, M, rfl, rfl, hmt, htl, hMl, HDl, HO2, HGr, HGs⟩ := hrel
      have hti : (t : Int) ≤ 1000000 := by omega
      have hmi : (m : Int) ≤ 1000000 := by omega
      by_cases hlt : t < l.length
      · have hi0 : (t : Int) < (l.length : Int) := by omega
        have htM : t < M.length := by omega
        have hmM : m < l.length := by omega
        have hna := HO2.out.na t htM
        rw [HDl.out.high t hlt htM (Nat.le_refl _)] at hna
        have hix := ixN g 0 l.length c t (t : Int) rfl hlt
        have hix2 := ixN g 0 l.length c m (m : Int) rfl hmM
        rw [Nat.zero_add] at hix hix2
        have HPk := Lib.hid (HP.out l[t])
        have HDk := Lib.hid (HDl.out.keep hlt)
        have HDs := Lib.hid (HDl.out.skip hlt)
        have HPut := Lib.hid (fun (w : World) (h : ON w base EN (.slice (some ⟨g, 0, none⟩) l.length c) M) => h.put (k := m) (by omega) l[t])
        obtain ⟨q, hq⟩ : ∃ q, q = l[t] := ⟨_, rfl⟩
        rw [← hq] at hna HPk HDk HDs HPut
        have HM := Lib.hid hMl
        clear hq HDl hMl
        have hb2 := bel_box wr (.cells (nc q) 37)
        have HO3 := Lib.hid (HO2.out.below hb2)
        have HGr3 := Lib.hid (gb_trans HGr.out (gb_below hb2 _))
        have HGs3 := Lib.hid (Nat.lt_of_lt_of_le HGs.out hb2.size)
        have HN3 := Lib.hid (Nb.new wr q)
        clear hb2 HO2 HGr
        obtain ⟨n0, n1, n2, n3, n4, n5⟩ := hna
        obtain ⟨⟨q1, q2⟩, ⟨q3, q4⟩, q5, q6⟩ := q
        go_wp2_with fail
        refine (HPk.out _).mono ?_
        rintro e w4 ⟨rfl, hb⟩
        replace HO3 := Lib.hid (HO3.out.below hb)
        replace HGr3 := Lib.hid (gb_trans HGr3.out (gb_below hb _))
        replace HGs3 := Lib.hid (Nat.lt_of_lt_of_le HGs3.out hb.size)
        replace HN3 := Lib.hid (HN3.out.keep hb)
        clear hb HPk n0 n1 n2 n3 n4 n5 HGs
        rcases hpq : p ((q1, q2), (q3, q4), q5, q6) with _ | _
        · have hfr := HO3.out.free
          obtain ⟨n0, n1, n2, n3, n4, n5⟩ := HN3.out
          obtain ⟨m0, m1, m2, m3, m4, m5⟩ := HO3.out.na m (by have := HM.out; omega)
          have f0 := hfr (m * 6)
          have f1 := hfr (m * 6 + 1)
          have f2 := hfr (m * 6 + 2)
          have f3 := hfr (m * 6 + 3)
          have f4 := hfr (m * 6 + 4)
          have f5 := hfr (m * 6 + 5)
          have HO4 := Lib.hid (HPut.out w4 HO3.out)
          have HGr4 := Lib.hid (gb_trans HGr3.out (putAt_gb w4 g (m * 6) ((q1, q2), (q3, q4), q5, q6)))
          have HGs4 : Hid (g < (putAt w4 g (m * 6) ((q1, q2), (q3, q4), q5, q6)).heap.size) := Nat.lt_of_lt_of_le HGs3.out (putAt_gb w4 g (m * 6) ((q1, q2), (q3, q4), q5, q6)).size
          have HDk2 := Lib.hid (HDk.out hpq)
          clear hfr HDk HDs HPut
          go_wp2_with fail
          refine ⟨?_, ?measure⟩
          · (repeat apply Exists.intro)
            refine ⟨?rel, rfl⟩
            exact ⟨m + 1, t + 1, M.set m ((q1, q2), (q3, q4), q5, q6), by go_num, by go_num, by omega, by omega, by rw [List.length_set]; exact HM.out, HDk2, HO4, HGr4, HGs4⟩
          case measure => simp [intOf]; omega
        · have HDs2 := Lib.hid (HDs.out hpq)
          clear HDk HDs HPut
          go_wp2_with fail
          refine ⟨?_, ?measure2⟩
          · (repeat apply Exists.intro)
            refine ⟨?rel2, rfl⟩
            exact ⟨m, t + 1, M, rfl, by go_num, by omega, by omega, HM.out, HDs2, HO3, HGr3, HGs3⟩
          case measure2 => simp [intOf]; omega
      · obtain rfl : t = l.length := by omega
        have hend : ¬ (l.length : Int) < (l.length : Int) := by omega
        have HDn := Lib.hid HDl.out.done
        have hcut := cut_hiN (some ⟨g, 0, none⟩) l.length c m (l.length - m) (by omega) HLc.out
        have hcut2 := cut_loN (some ⟨g, 0, none⟩) l.length c m (by have := HLc.out; omega)
        have hml : (m : Int) ≤ (l.length : Int) := by omega
        have hmM : m < M.length := by omega
        obtain ⟨vs, hcl⟩ := run_clearN wr HO2.out m (c - m) hmM
        rw [hMl] at hcl
        have HOc := Lib.hid (HO2.out.clears m (by omega) vs)
        rw [HDn.out] at HOc
        have HFl : Hid ((l.filter fun x => !p x).length = m) := by show _ = _; rw [← HDn.out, List.length_take]; omega
        have HGe := Lib.hid (gb_trans HGr.out (gb_setCells g vs (m * 6) wr))
        have hoff : offN (some ⟨g, 0, none⟩) c m = some ⟨g, m * 6, none⟩ := by unfold offN; rw [if_neg (by have := HLc.out; omega)]; show some ((⟨g, 0, none⟩ : Addr).add (m * 6)) = _; unfold Addr.add; split <;> simp_all
        rw [hoff] at hcut
        clear hMl hmM HDl HO2 HGr HDn
        go_wp2_with fail
        go_ret
        refine ⟨_, rfl, ?_, HGe.out⟩
        rw [← HFl.out] at HOc ⊢
        exact HOc.out
  · have hnone : ∀ j (hj : j < l.length), p l[j] = false := by
      intro j
      induction j using Nat.strongRecOn with
      | _ j ih =>
        intro hj
        rcases hpj : p l[j] with _ | _
        · rfl
        · exact absurd ⟨j, hj, hpj, fun i hi hij => ih i hij hi⟩ hany
    rw [pos_away hnone] at HIx
    have HF : Hid ((l.filter fun x => !p x) = l) := List.filter_eq_self.2 fun x hx => by
      obtain ⟨i, hi, rfl⟩ := List.mem_iff_getElem.1 hx
      rw [hnone i hi]
      rfl
    clear hany hnone hx
    go_enter Try.func79, Try.ntmps79
    go_wp2_with fail
    refine HIx.out.mono ?_
    rintro e w2 ⟨rfl, hb⟩
    have HB := Lib.hid hb
    have HO2 := Lib.hid (HO.out.below hb)
    clear hb HIx
    go_wp2_with fail
    go_ret
    exact ⟨_, rfl, by rw [HF.out]; exact HO2.out, gb_below HB.out _⟩
end Go.Proofs.Yteojbekkbgcmnab.Un
end

/-
  The functions of package index.
-/
section
namespace Go.Proofs.Yteojbekkbgcmnab.Un
set_option linter.unusedVariables false
open Go.RowKit V Go.Shelf Go.Sort D Nd Qs Wk Ix
attribute [local irreducible] Sch.heldN Sch.stepV Sch.stepE

/-! ### Visible nodes -/
theorem enters_deadI : ∀ args w, (callFunc 70 args).run Try.prog w = .ok (.enter 70 args) w := enters_of Try.func70 (by kernel_rfl) rfl
set_option maxRecDepth 100000 in
theorem alive_prog (l : List Nt) (v : Value) (base : Nat) (w : World) (ho : ON w base EN v l) (hlx : l.length ≤ 1000000) :
    Calls Try.prog 66 #[v] w fun e w' => ∃ v', e = .returned v' ∧ ON w' base EN v' (aliveL l) ∧ w.grownBy w' v.ownBlock := by
  have HC := Lib.hid (delete_any l 70 deadN v base w enters_deadI (fun n W => (dead_any n W).mono fun _ _ h => ⟨h.1, h.2.bel⟩) ho hlx)
  clear ho hlx
  go_enter Try.func66, Try.ntmps66
  go_wp2_with fail
  refine HC.out.mono ?_
  rintro e w2 ⟨v2, rfl, ho, hg⟩
  have HO := Lib.hid ho
  have HGr := Lib.hid hg
  clear ho hg HC
  go_wp2_with fail
  go_ret
  exact ⟨v2, rfl, HO.out, HGr.out⟩
def visP (l : List Nt) : List Nt × Int := (aliveL (orderP l).1, (orderP l).2)
theorem orderP_len (l : List Nt) : (orderP l).1.length ≤ l.length := by
  unfold orderP
  split
  · rename_i hv
    have := both_len hv
    show (orderS l).length ≤ _
    omega
  · exact Nat.zero_le _
theorem visP_len (l : List Nt) : (visP l).1.length ≤ l.length := by
  have h1 : (aliveL (orderP l).1).length ≤ (orderP l).1.length := List.length_filter_le _ _
  exact Nat.le_trans h1 (orderP_len l)
set_option maxRecDepth 100000 in
set_option maxHeartbeats 1000000 in
theorem visible_prog (l : List Nt) (a : Option Addr) (c : Nat) (w : World) (hx : RowN w a l) (hlx : l.length ≤ 400000) :
    Calls Try.prog 48 #[.slice a l.length c] w fun e w' => ∃ v, e = .returned (.tuple #[v, .int .i64 (visP l).2]) ∧ ON w' w.heap.size EN v (visP l).1 ∧ Below w.heap.size w w' := by
  have HC := Lib.hid (order_prog l a c w hx hlx)
  have HOl : Hid ((orderP l).1.length ≤ 1000000) := by have := orderP_len l; show _ ≤ _; omega
  have HA := Lib.hid (fun v base w h => alive_prog (orderP l).1 v base w h HOl.out)
  have HE : Hid (visP l = (aliveL (orderP l).1, (orderP l).2)) := rfl
  clear hx hlx
  generalize visP l = R at *
  generalize orderP l = Q at *
  obtain ⟨o, z⟩ := Q
  simp only at HC HA HE
  generalize aliveL o = al at *
  go_enter Try.func48, Try.ntmps48
  go_wp2_with fail
  refine HC.out.mono ?_
  rintro e w2 ⟨v2, rfl, ho, hb⟩
  have HO := Lib.hid ho
  have HB := Lib.hid hb
  clear ho hb HC
  go_wp2_with fail
  refine (HA.out _ _ _ HO.out).mono ?_
  rintro e w3 ⟨v3, rfl, ho, hg⟩
  have HO3 := Lib.hid ho
  have HB3 := Lib.hid (bel_low HB.out hg (fun x e => (HO.out.lt x e).1))
  clear ho hg HA
  go_wp2_with fail
  go_ret2
  exact ⟨v3, by rw [HE.out]; rfl, by rw [HE.out]; exact HO3.out, HB3.out⟩

/-! ### Where a dot stands -/
theorem pos_idx (l : List Nt) (d : Dt) : posI (fun n => decide (n.1 = d)) l = idxS l d := by
  unfold posI idxS
  have e : (l.any fun n => decide (n.1 = d)) = (atS l d).isSome := by
    unfold atS
    rw [Bool.eq_iff_iff, List.any_eq_true, List.find?_isSome]
  rw [e]
theorem enters_is : ∀ args w, (callFunc 76 args).run Try.prog w = .ok (.enter 76 args) w := enters_of Try.func76 (by kernel_rfl) rfl
set_option maxRecDepth 100000 in
theorem is_any (d : Dt) (n : Nt) (w : World) : Calls Try.prog 76 #[.agg #[.int .i64 d.1, .int .i64 d.2], nv n] w fun e w' => e = .returned (.bool (decide (n.1 = d))) ∧ Below w.heap.size w w' := by
  have HQ := Lib.hid (eql_dot n.1 d)
  have HB := Lib.hid (bel_tr (bel_box w (.cells #[.int .i64 d.1, .int .i64 d.2] 97)) (bel_box _ (.cells (nc n) 37)))
  have hq := HQ.out
  obtain ⟨d1, d2⟩ := d
  obtain ⟨⟨n1, n2⟩, ⟨n3, n4⟩, n5, n6⟩ := n
  generalize decide (((n1, n2), (n3, n4), n5, n6).1 = (d1, d2)) = r at *
  go_enter Try.func76, Try.ntmps76
  go_wp2_with fail
  go_ret
  exact ⟨rfl, HB.out⟩
set_option maxRecDepth 100000 in
set_option maxHeartbeats 1000000 in
theorem indexB (l : List Nt) (a : Option Addr) (c g : Nat) (bv : Value) (p : Nt → Bool) (w : World) (eg : ∀ args w, (callFunc g args).run Try.prog w = .ok (.enter g args) w) (hp : ∀ (n : Nt) (W : World), Calls Try.prog g #[bv, nv n] W fun e w' => e = .returned (.bool (p n)) ∧ Below W.heap.size W w') (hx : RowN w a l) (hlx : l.length ≤ 1000000) :
    Calls Try.prog 75 #[.slice a l.length c, .func (.func g) #[bv] #[]] w fun e w' => e = .returned (.int .i64 (posI p l)) ∧ Below w.heap.size w w' := by
  have HP := Lib.hid hp
  have HX := Lib.hid hx
  have hli : (l.length : Int) ≤ 1000000 := by omega
  clear hp hx hlx
  go_enter Try.func75, Try.ntmps75
  go_wp2_with fail
  go_loopw [5, 8] (fun _ i wr => ∃ k : Nat, k ≤ l.length ∧ i = .int .i64 (k : Int) ∧ Hid (Below w.heap.size w wr) ∧ Hid (∀ j (hj : j < l.length), j < k → p l[j] = false)) (fun _ i _ => l.length - (intOf i).toNat)
  case atStart => exact ⟨0, Nat.zero_le _, rfl, Below.refl _ _, fun j _ h => by omega⟩
  case round =>
    obtain ⟨k, hk, rfl, hh, HV⟩ := hrel
    by_cases hlt : k < l.length
    · obtain ⟨b1, o1, rfl, p0, p1, p2, p3, p4, p5⟩ := (HX.out.keep hh.out).get k hlt
      have HQ := Lib.hid (HP.out l[k] wr)
      have HT := Lib.hid (pos_here (p := p) hlt)
      obtain ⟨q, hq⟩ : ∃ q, q = l[k] := ⟨_, rfl⟩
      rw [← hq] at p0 p1 p2 p3 p4 p5 HQ HT
      have HQe := Lib.hid hq
      have hi1 : (k : Int) < (l.length : Int) := by omega
      clear hq
      obtain ⟨⟨q1, q2⟩, ⟨q3, q4⟩, q5, q6⟩ := q
      go_wp2_with fail
      refine HQ.out.mono ?_
      rintro e w3 ⟨rfl, hb⟩
      have HB := Lib.hid (bel_tr hh.out hb)
      clear hb HQ
      rcases hpq : p ((q1, q2), (q3, q4), q5, q6) with _ | _
      · go_wp2_with fail
        go_roundw
        case rel =>
          refine ⟨k + 1, by omega, by go_num, HB, fun j hj hjk => ?_⟩
          by_cases hjk2 : j = k
          · subst hjk2; rw [← HQe.out]; exact hpq
          · exact HV.out j hj (by omega)
        case measure => simp [intOf]; omega
      · have hT := HT.out hpq HV.out
        go_wp2_with fail
        go_ret
        exact ⟨by rw [hT]; rfl, HB.out⟩
    · obtain rfl : k = l.length := by omega
      have HN : Hid (posI p l = -1) := pos_away fun j hj => HV.out j hj hj
      have hend : ¬ (l.length : Int) < (l.length : Int) := by omega
      go_wp2_with fail
      go_ret
      exact ⟨by rw [HN.out]; rfl, hh.out⟩



set_option maxRecDepth 100000 in
set_option maxHeartbeats 1000000 in
theorem place_prog (l : List Nt) (d : Dt) (a : Option Addr) (c : Nat) (w : World) (hx : RowN w a l) (hlx : l.length ≤ 1000000) :
    Calls Try.prog 63 #[.slice a l.length c, dv d] w fun e w' => e = .returned (.int .i64 (idxS l d)) ∧ Below w.heap.size w w' := by
  have HB := Lib.hid (bel_box w (.cells #[.int .i64 d.1, .int .i64 d.2] 34))
  have HC := Lib.hid (indexB l a c 76 (.agg #[.int .i64 d.1, .int .i64 d.2]) (fun n => decide (n.1 = d)) _ enters_is (is_any d) (hx.keep HB.out) hlx)
  rw [pos_idx] at HC
  clear hx hlx
  generalize idxS l d = R at *
  obtain ⟨d1, d2⟩ := d
  go_enter Try.func63, Try.ntmps63
  go_wp2_with fail
  refine HC.out.mono ?_
  rintro e w2 ⟨rfl, hb⟩
  have HB2 := Lib.hid (bel_tr HB.out hb)
  clear hb HC
  go_wp2_with fail
  go_ret
  exact ⟨rfl, HB2.out⟩

/-! ### The first error -/
set_option maxRecDepth 100000 in
theorem unless_prog (b : Bool) (z : Int) (w : World) : Calls Try.prog 50 #[.bool b, .int .i64 z] w fun e w' => e = .returned (.int .i64 (if b = true then 0 else z)) ∧ w' = w := by
  cases b
  · go_enter Try.func50, Try.ntmps50
    go_wp2_with fail
    go_ret
    exact ⟨rfl, rfl⟩
  · go_enter Try.func50, Try.ntmps50
    go_wp2_with fail
    go_ret
    exact ⟨rfl, rfl⟩
def firstE : List Int → Int
  | [] => 0
  | e :: t => if e = 0 then firstE t else e
theorem firstE_drop {es : List Int} {k : Nat} (hk : k < es.length) : firstE (es.drop k) = if es[k] = 0 then firstE (es.drop (k + 1)) else es[k] := by
  rw [List.drop_eq_getElem_cons hk, firstE]
set_option maxRecDepth 100000 in
set_option maxHeartbeats 1000000 in
theorem first_prog (es : List Int) (b o c : Nat) (w : World) (hx : G.RowI .i64 w (some ⟨b, o, none⟩) es) (hlx : es.length ≤ 1000) :
    Calls Try.prog 49 #[.slice (some ⟨b, o, none⟩) es.length c] w fun e w' => e = .returned (.int .i64 (firstE es)) ∧ w' = w := by
  have HX := Lib.hid hx
  have hli : (es.length : Int) ≤ 1000 := by omega
  clear hx hlx
  go_enter Try.func49, Try.ntmps49
  go_wp2_with fail
  go_loopw [4, 7] (fun _ i wr => ∃ k : Nat, k ≤ es.length ∧ i = .int .i64 (k : Int) ∧ wr = w ∧ Hid (firstE es = firstE (es.drop k))) (fun _ i _ => es.length - (intOf i).toNat)
  case atStart => exact ⟨0, Nat.zero_le _, rfl, rfl, by show _ = _; rw [List.drop_zero]⟩
  case round =>
    obtain ⟨k, hk, rfl, rfl, HF⟩ := hrel
    by_cases hlt : k < es.length
    · have hi0 : (k : Int) < (es.length : Int) := by omega
      have hc : wr.cell? ⟨b, o + k, none⟩ = some (.int .i64 es[k]) := by
        rcases HX.out with h | ⟨b', o', e, h⟩
        · rw [h] at hlt; exact absurd hlt (Nat.not_lt_zero _)
        · cases e; exact h k hlt
      have HF2 : Hid (firstE es = if es[k] = 0 then firstE (es.drop (k + 1)) else es[k]) := HF.out.trans (firstE_drop hlt)
      clear HF
      generalize es[k] = q at *
      by_cases hq : q = 0
      · subst hq
        go_wp2_with fail
        go_roundw
        case rel => exact ⟨k + 1, by omega, by go_num, by first | rfl | trivial, by have := HF2.out; rwa [if_pos rfl] at this⟩
        case measure => simp [intOf]; omega
      · go_wp2_with fail
        go_ret
        exact ⟨by rw [HF2.out, if_neg hq]; rfl, rfl⟩
    · obtain rfl : k = es.length := by omega
      have hend : ¬ (es.length : Int) < (es.length : Int) := by omega
      have HF2 : Hid (firstE es = 0) := HF.out.trans (by rw [List.drop_length]; rfl)
      go_wp2_with fail
      go_ret
      exact ⟨by rw [HF2.out]; rfl, rfl⟩
end Go.Proofs.Yteojbekkbgcmnab.Un
end

/-
  The exported functions of package index.
-/
section
namespace Go.Proofs.Yteojbekkbgcmnab.Un
set_option linter.unusedVariables false
open Go.RowKit V Go.Shelf Go.Sort D Nd Qs Wk Ix
attribute [local irreducible] Sch.heldN Sch.stepV Sch.stepE

theorem visP_cases (l : List Nt) : (validS l = true ∧ visP l = (visS l, 0)) ∨ (validS l = false ∧ visP l = ([], 2)) := by
  rcases hv : validS l with _ | _
  · exact .inr ⟨rfl, by unfold visP orderP; rw [hv]; rfl⟩
  · exact .inl ⟨rfl, by unfold visP orderP; rw [hv]; rfl⟩
def lenP (l : List Nt) : Int × Int := (((visP l).1.length : Int), (visP l).2)
def runesQ (l : List Nt) : List Int × Int := ((visP l).1.map (fun n => n.2.2.2), (visP l).2)
def textP (l : List Nt) : List UInt8 × Int := if (visP l).2 = 0 then ((R.encR (runesQ l).1).1, ((R.encR (runesQ l).1).2 : Int)) else ([], (visP l).2)
def atP (l : List Nt) (i : Int) : Nt × Int :=
  if (visP l).2 = 0 then (if h : 0 ≤ i ∧ i.toNat < (visP l).1.length then ((visP l).1[i.toNat]'h.2, 0) else (zeroN, 3)) else (zeroN, (visP l).2)
theorem infoR : (Try.prog.info? 21).map (fun i => (i.zero, i.size, i.bytes)) = some (some (.int .i32 0), 1, 4) := by kernel_rfl

set_option maxRecDepth 100000 in
set_option maxHeartbeats 1000000 in
theorem len_prog (l : List Nt) (a : Option Addr) (c : Nat) (w : World) (hx : RowN w a l) (hlx : l.length ≤ 400000) :
    Calls Try.prog 29 #[.slice a l.length c] w fun e w' => e = .returned (.tuple #[.int .i64 (lenP l).1, .int .i64 (lenP l).2]) ∧ Below w.heap.size w w' := by
  have HC := Lib.hid (visible_prog l a c w hx hlx)
  have HE : Hid (lenP l = (((visP l).1.length : Int), (visP l).2)) := rfl
  clear hx hlx
  generalize lenP l = R at *
  generalize visP l = Q at *
  obtain ⟨v, z⟩ := Q
  simp only at HC HE
  go_enter Try.func29, Try.ntmps29
  go_wp2_with fail
  refine HC.out.mono ?_
  rintro e w2 ⟨v2, rfl, ho, hb⟩
  obtain ⟨a2, c2, rfl, -⟩ := ON.row ho
  have HB := Lib.hid hb
  clear ho hb HC
  go_wp2_with fail
  go_ret2
  exact ⟨by rw [HE.out]; rfl, HB.out⟩
theorem taken_succ {V : List Nt} {k : Nat} (h : k < V.length) : ((V.take (k + 1)).map fun n => n.2.2.2) = ((V.take k).map fun n => n.2.2.2) ++ [V[k].2.2.2] := by
  rw [List.take_succ_eq_append_getElem h, List.map_append]
  rfl
set_option maxRecDepth 100000 in
set_option maxHeartbeats 4000000 in
theorem runes_prog (l : List Nt) (a : Option Addr) (c : Nat) (w : World) (hx : RowN w a l) (hlx : l.length ≤ 400000) :
    Calls Try.prog 31 #[.slice a l.length c] w fun e w' => ∃ v, e = .returned (.tuple #[v, .int .i64 (runesQ l).2]) ∧ G.OI w' w.heap.size 21 .i32 v (runesQ l).1 ∧ Below w.heap.size w w' := by
  have HC := Lib.hid (visible_prog l a c w hx hlx)
  have HE : Hid (runesQ l = ((visP l).1.map (fun n => n.2.2.2), (visP l).2)) := rfl
  have HVl : Hid ((visP l).1.length ≤ 400000) := by have := visP_len l; show _ ≤ _; omega
  have HQ : Hid ((visP l).2 = 0 ∨ (visP l).2 = 2 ∧ (visP l).1 = []) := by
    rcases visP_cases l with ⟨-, h⟩ | ⟨-, h⟩
    · rw [h]; exact .inl rfl
    · rw [h]; exact .inr ⟨rfl, rfl⟩
  clear hx hlx
  generalize runesQ l = R at *
  generalize visP l = Q at *
  obtain ⟨V, z⟩ := Q
  simp only at HC HE HVl HQ
  have hvi : (V.length : Int) ≤ 400000 := by have := HVl.out; omega
  go_enter Try.func31, Try.ntmps31
  go_wp2_with fail
  refine HC.out.mono ?_
  rintro e w2 ⟨v2, rfl, ho, hb⟩
  obtain ⟨a2, c2, rfl, hr, -⟩ := ON.row ho
  have HB := Lib.hid hb
  have HW := Lib.hid hr
  clear ho hb hr HC
  rcases HQ.out with rfl | ⟨rfl, rfl⟩
  · obtain ⟨w3, v3, hmk, ho3, hb3⟩ := G.run_mkI w2 w2.heap.size Try.underlying30 infoR V.length (by have := HVl.out; omega) (by omega) (Nat.le_refl _)
    have HO3 := Lib.hid ho3
    have HZ3 := Lib.hid hb3
    clear ho3 hb3 HQ
    go_wp2_with fail
    go_loopw [6, 8, 22] (fun v _ i wr => ∃ k : Nat, k ≤ V.length ∧ i = .int .i64 (k : Int) ∧ Hid (Below w2.heap.size w2 wr) ∧ Hid (G.OI wr w2.heap.size 21 .i32 v ((V.take k).map fun n => n.2.2.2))) (fun _ _ i _ => V.length - (intOf i).toNat)
    case atStart => exact ⟨0, Nat.zero_le _, rfl, HZ3, HO3⟩
    case round =>
      clear HO3 HZ3
      obtain ⟨k, hk, rfl, HZ, HO⟩ := hrel
      by_cases hlt : k < V.length
      · have hi0 : (k : Int) < (V.length : Int) := by omega
        obtain ⟨b1, o1, e1, hna⟩ := na_of (HW.out.keep HZ.out) k hlt
        have HT := Lib.hid (taken_succ hlt)
        have HKl : Hid (((V.take k).map fun n => n.2.2.2).length ≤ 400000) := by have := HVl.out; show _ ≤ _; rw [List.length_map, List.length_take]; omega
        obtain ⟨q, hq⟩ : ∃ q, q = V[k] := ⟨_, rfl⟩
        rw [← hq] at hna HT
        subst e1
        clear hq
        have hb2 := bel_tr (bel_box wr (.cells (nc q) 37)) (bel_box _ (.cells #[.int .i32 q.2.2.2] 21))
        have HZ2 := Lib.hid (bel_tr HZ.out hb2)
        have HO2 := Lib.hid (HO.out.below hb2)
        have HBs : Hid (w2.heap.size ≤ ((wr.alloc (.cells (nc q) 37)).alloc (.cells #[.int .i32 q.2.2.2] 21)).heap.size) := HZ2.out.size
        clear hb2
        generalize hL : ((V.take k).map fun n => n.2.2.2) = L at *
        generalize hL2 : ((V.take (k + 1)).map fun n => n.2.2.2) = L2 at *
        obtain ⟨n0, n1, n2, n3, n4, n5⟩ := hna
        obtain ⟨⟨q1, q2⟩, ⟨q3, q4⟩, q5, q6⟩ := q
        clear hL
        go_wp2_with (at_builtin; refine G.wpList_appI rfl (.tmp 26) (.tmp 29) 30 rfl Try.underlying30 infoR _ L rfl HO2.out (wr.heap.size + 1) 0 1 1 [q6] rfl rfl (G.RowI.lit .i32 _ _ (by simp) [q6] _ _ rfl) (by have := HKl.out; simp; omega) (by omega) HBs.out ?_; intro v' w' ho' hg' hgr')
        have HO7 : Hid (G.OI w' w2.heap.size 21 .i32 v' L2) := by show G.OI _ _ _ _ _ _; rw [HT.out]; exact ho'
        have HZ7 := Lib.hid (HZ2.out.grown hg' HZ2.out.size (fun x hx => (HO2.out.lt x hx).1))
        clear ho' hg' hgr'
        refine ⟨⟨k + 1, by omega, by go_num, HZ7, by rw [hL2]; exact HO7⟩, ?_⟩
        simp [intOf]; omega
      · obtain rfl : k = V.length := by omega
        have hend : ¬ (V.length : Int) < (V.length : Int) := by omega
        rw [List.take_length] at HO
        have HB4 := Lib.hid (bel_tr HB.out HZ.out)
        have HO4 := Lib.hid (HO.out.mono HB.out.size)
        clear HO
        go_wp2_with fail
        go_ret2
        exact ⟨_, by rw [HE.out]; rfl, by rw [HE.out]; exact HO4.out, HB4.out⟩
  · go_wp2_with fail
    go_ret2
    exact ⟨_, by rw [HE.out]; rfl, by rw [HE.out]; exact G.OI.nil _ _ _ _, HB.out⟩
end Go.Proofs.Yteojbekkbgcmnab.Un
end

/-
  The exported functions of package index: Text, At, Of, Before, Left, Dots.
-/
section
namespace Go.Proofs.Yteojbekkbgcmnab.Un
set_option linter.unusedVariables false
open Go.RowKit V Go.Shelf Go.Sort D Nd Qs Wk Ix
attribute [local irreducible] Sch.heldN Sch.stepV Sch.stepE

theorem visP_or (l : List Nt) : (visP l).2 = 0 ∨ (visP l).2 = 2 ∧ (visP l).1 = [] := by
  rcases visP_cases l with ⟨-, h⟩ | ⟨-, h⟩
  · rw [h]; exact .inl rfl
  · rw [h]; exact .inr ⟨rfl, rfl⟩
set_option maxRecDepth 100000 in
set_option maxHeartbeats 4000000 in
theorem text_prog (l : List Nt) (a : Option Addr) (c : Nat) (w : World) (hx : RowN w a l) (hlx : l.length ≤ 400000) :
    Calls Try.prog 30 #[.slice a l.length c] w fun e w' => e = .returned (.tuple #[.string ⟨(textP l).1.toArray⟩, .int .i64 (textP l).2]) ∧ Below w.heap.size w w' := by
  have HC := Lib.hid (runes_prog l a c w hx hlx)
  have HE : Hid (textP l = if (runesQ l).2 = 0 then ((R.encR (runesQ l).1).1, ((R.encR (runesQ l).1).2 : Int)) else ([], (runesQ l).2)) := rfl
  have HVl : Hid ((runesQ l).1.length ≤ 400000) := by have := visP_len l; show ((visP l).1.map _).length ≤ _; rw [List.length_map]; omega
  have HEn := Lib.hid (fun a c w h => R.encode_any (runesQ l).1 a c w (by have := HVl.out; omega) h)
  clear hx hlx
  generalize textP l = T at *
  generalize runesQ l = Q at *
  obtain ⟨zs, z⟩ := Q
  simp only at HC HE HVl HEn
  generalize R.encR zs = en at *
  obtain ⟨bs, ec⟩ := en
  simp only at HE HEn
  go_enter Try.func30, Try.ntmps30
  go_wp2_with fail
  refine HC.out.mono ?_
  rintro e w2 ⟨v2, rfl, ho, hb⟩
  obtain ⟨a2, c2, rfl, hr, -⟩ := G.OI.row ho
  have HB := Lib.hid hb
  have HW := Lib.hid hr
  clear ho hb hr HC
  by_cases hz : z = 0
  · subst hz
    have hT := HE.out
    rw [if_pos rfl] at hT
    clear HE
    subst hT
    go_wp2_with fail
    refine (HEn.out _ _ _ HW.out).mono ?_
    rintro e w3 ⟨rfl, rfl⟩
    go_wp2_with fail
    go_ret2
    exact ⟨rfl, HB.out⟩
  · have hT := HE.out
    rw [if_neg hz] at hT
    clear HE
    subst hT
    go_wp2_with fail
    go_ret2
    exact ⟨rfl, HB.out⟩
theorem unless_no (z : Int) (w : World) : Calls Try.prog 50 #[.bool false, .int .i64 z] w fun e w' => e = .returned (.int .i64 z) ∧ w' = w := unless_prog false z w
theorem unless_yes (z : Int) (w : World) : Calls Try.prog 50 #[.bool true, .int .i64 z] w fun e w' => e = .returned (.int .i64 0) ∧ w' = w := unless_prog true z w

theorem at_err {l : List Nt} {i : Int} (h : ¬ (0 ≤ i ∧ i < ((visP l).1.length : Int))) : atP l i = (zeroN, firstE [(visP l).2, 3]) ∧ firstE [(visP l).2, 3] ≠ 0 := by
  unfold atP firstE firstE
  rcases visP_or l with h2 | ⟨h2, -⟩
  · rw [h2, if_pos rfl, if_pos rfl, dif_neg (by omega)]; exact ⟨rfl, by decide⟩
  · rw [h2, if_neg (by decide), if_neg (by decide)]; exact ⟨rfl, by decide⟩
theorem at_yes {l : List Nt} {i : Nat} (h : i < (visP l).1.length) : atP l (i : Int) = ((visP l).1[i], 0) ∧ (visP l).2 = 0 := by
  unfold atP
  rcases visP_or l with h2 | ⟨h2, h3⟩
  · rw [h2, if_pos rfl, dif_pos (by omega)]; exact ⟨rfl, rfl⟩
  · rw [h3] at h; exact absurd h (Nat.not_lt_zero _)
set_option maxRecDepth 100000 in
set_option maxHeartbeats 4000000 in
theorem at_prog (l : List Nt) (i : Int) (a : Option Addr) (c : Nat) (w : World) (hx : RowN w a l) (hlx : l.length ≤ 400000) :
    Calls Try.prog 26 #[.slice a l.length c, .int .i64 i] w fun e w' => e = .returned (.tuple #[nv (atP l i).1, .int .i64 (atP l i).2]) ∧ Below w.heap.size w w' := by
  have HB := Lib.hid (bel_box w (.cells #[.int .i64 0, .int .i64 0, .int .i64 0, .int .i64 0, .int .i64 0, .int .i32 0] 37))
  have HC := Lib.hid (visible_prog l a c _ (hx.keep HB.out) hlx)
  have HZ := Lib.hid (Zb.new w)
  have HVl : Hid ((visP l).1.length ≤ 400000) := by have := visP_len l; show _ ≤ _; omega
  have HNo := Lib.hid (at_err (l := l) (i := i))
  have HYe := Lib.hid (fun i h => at_yes (l := l) (i := i) h)
  clear hx hlx
  by_cases hin : 0 ≤ i ∧ i < ((visP l).1.length : Int)
  · obtain ⟨hi0, hi1⟩ := hin
    obtain ⟨k, rfl⟩ : ∃ k : Nat, i = (k : Int) := ⟨i.toNat, by omega⟩
    have hk : k < (visP l).1.length := by omega
    have hd0 : decide ((0 : Int) ≤ (k : Int)) = true := decide_eq_true hi0
    have hd1 : decide ((k : Int) < ((visP l).1.length : Int)) = true := decide_eq_true hi1
    obtain ⟨hy1, hy2⟩ := HYe.out k hk
    have HE := Lib.hid hy1
    rw [hy2] at HC
    clear HNo HYe hy1 hy2
    generalize atP l (k : Int) = R at *
    generalize (visP l).1 = V at *
    obtain ⟨q, hq⟩ : ∃ q, q = V[k] := ⟨_, rfl⟩
    rw [← hq] at HE
    have HQ := Lib.hid hq
    clear hq
    go_enter Try.func26, Try.ntmps26
    go_wp2_with fail
    generalize w.alloc (.cells #[.int .i64 0, .int .i64 0, .int .i64 0, .int .i64 0, .int .i64 0, .int .i32 0] 37) = w1 at *
    refine HC.out.mono ?_
    rintro e w2 ⟨v2, rfl, ho, hb⟩
    obtain ⟨a2, c2, rfl, hr, -⟩ := ON.row ho
    have HW := Lib.hid hr
    replace HB := Lib.hid (bel_tr HB.out hb)
    replace HZ := Lib.hid (HZ.out.keep hb)
    clear ho hb hr HC
    go_wp2_with fail
    refine (unless_yes 3 _).mono ?_
    rintro e w3 ⟨rfl, rfl⟩
    have hbx := bel_box w3 (.cells ⟨[.int .i64 0, .int .i64 0]⟩ 26)
    replace HB := Lib.hid (bel_tr HB.out hbx)
    replace HW := Lib.hid (HW.out.keep hbx)
    replace HZ := Lib.hid (HZ.out.keep hbx)
    have HR1 : Hid (G.RowI .i64 (w3.alloc (.cells ⟨[.int .i64 0, .int .i64 0]⟩ 26)) (some ⟨w3.heap.size, 0, none⟩) [0, 0]) := G.RowI.lit .i64 w3 _ rfl [0, 0] ⟨[.int .i64 0, .int .i64 0]⟩ _ rfl
    clear hbx
    go_wp2_with fail
    refine (first_prog [0, 0] _ 0 2 _ HR1.out (by simp)).mono ?_
    rintro e w4 ⟨rfl, rfl⟩
    generalize w3.alloc (.cells ⟨[.int .i64 0, .int .i64 0]⟩ 26) = w5 at *
    obtain ⟨b1, o1, rfl, hna⟩ := na_of HW.out k hk
    rw [← HQ.out] at hna
    obtain ⟨n0, n1, n2, n3, n4, n5⟩ := hna
    obtain ⟨⟨z0, z1, z2, z3, z4, z5⟩, hf⟩ := HZ.out
    have f0 := hf 0
    have f1 := hf 1
    have f2 := hf 2
    have f3 := hf 3
    have f4 := hf 4
    have f5 := hf 5
    clear hf HQ
    obtain ⟨⟨q1, q2⟩, ⟨q3, q4⟩, q5, q6⟩ := q
    have HFe : Hid (firstE [0, 0] = 0) := rfl
    have hfe := HFe.out
    rw [hfe]
    go_wp2_with fail
    (try simp only [Exit.inBlock, Exit.then])
    refine bodyPost_ret (v := .tuple #[nv ((q1, q2), (q3, q4), q5, q6), .int .i64 0]) (by rw [results_cell_tmp (fn := Try.f26) (p := 4) (u := 5) (ty := 37) rfl]; go_simp) rfl ?_
    rw [HE.out]
    exact ⟨rfl, putN_below HB.out (by omega) ((q1, q2), (q3, q4), q5, q6)⟩
  · obtain ⟨hn1, hn2⟩ := HNo.out hin
    have HE := Lib.hid hn1
    clear HNo HYe hn1
    generalize atP l i = R at *
    generalize visP l = Q at *
    obtain ⟨V, z⟩ := Q
    simp only at HC HE HVl hin hn2
    by_cases hi0 : 0 ≤ i
    · have hi1 : ¬ i < (V.length : Int) := fun h => hin ⟨hi0, h⟩
      have hd0 : decide ((0 : Int) ≤ i) = true := decide_eq_true hi0
      have hd1 : decide (i < (V.length : Int)) = false := decide_eq_false hi1
      clear hin
      go_enter Try.func26, Try.ntmps26
      go_wp2_with fail
      generalize w.alloc (.cells #[.int .i64 0, .int .i64 0, .int .i64 0, .int .i64 0, .int .i64 0, .int .i32 0] 37) = w1 at *
      refine HC.out.mono ?_
      rintro e w2 ⟨v2, rfl, ho, hb⟩
      obtain ⟨a2, c2, rfl, hr, -⟩ := ON.row ho
      have HW := Lib.hid hr
      replace HB := Lib.hid (bel_tr HB.out hb)
      replace HZ := Lib.hid (HZ.out.keep hb)
      clear ho hb hr HC
      go_wp2_with fail
      refine (unless_no 3 _).mono ?_
      rintro e w3 ⟨rfl, rfl⟩
      have hbx := bel_box w3 (.cells ⟨[.int .i64 z, .int .i64 3]⟩ 26)
      replace HB := Lib.hid (bel_tr HB.out hbx)
      replace HW := Lib.hid (HW.out.keep hbx)
      replace HZ := Lib.hid (HZ.out.keep hbx)
      have HR1 : Hid (G.RowI .i64 (w3.alloc (.cells ⟨[.int .i64 z, .int .i64 3]⟩ 26)) (some ⟨w3.heap.size, 0, none⟩) [z, 3]) := G.RowI.lit .i64 w3 _ rfl [z, 3] ⟨[.int .i64 z, .int .i64 3]⟩ _ rfl
      clear hbx
      go_wp2_with fail
      refine (first_prog [z, 3] _ 0 2 _ HR1.out (by simp)).mono ?_
      rintro e w4 ⟨rfl, rfl⟩
      generalize w3.alloc (.cells ⟨[.int .i64 z, .int .i64 3]⟩ 26) = w5 at *
      generalize firstE [z, 3] = r at *
      obtain ⟨⟨z0, z1, z2, z3, z4, z5⟩, hf⟩ := HZ.out
      have f0 := hf 0
      have f1 := hf 1
      have f2 := hf 2
      have f3 := hf 3
      have f4 := hf 4
      have f5 := hf 5
      clear hf
      go_wp2_with fail
      (try simp only [Exit.inBlock, Exit.then])
      refine bodyPost_ret (v := .tuple #[.agg #[.int .i64 0, .int .i64 0, .int .i64 0, .int .i64 0, .int .i64 0, .int .i32 0], .int .i64 r]) (by rw [results_cell_tmp (fn := Try.f26) (p := 4) (u := 5) (ty := 37) rfl]; go_simp) rfl ?_
      rw [HE.out]
      exact ⟨rfl, putN_below HB.out (by omega) zeroN⟩
    · have hd0 : decide ((0 : Int) ≤ i) = false := decide_eq_false hi0
      clear hin
      go_enter Try.func26, Try.ntmps26
      go_wp2_with fail
      generalize w.alloc (.cells #[.int .i64 0, .int .i64 0, .int .i64 0, .int .i64 0, .int .i64 0, .int .i32 0] 37) = w1 at *
      refine HC.out.mono ?_
      rintro e w2 ⟨v2, rfl, ho, hb⟩
      obtain ⟨a2, c2, rfl, hr, -⟩ := ON.row ho
      have HW := Lib.hid hr
      replace HB := Lib.hid (bel_tr HB.out hb)
      replace HZ := Lib.hid (HZ.out.keep hb)
      clear ho hb hr HC
      go_wp2_with fail
      refine (unless_no 3 _).mono ?_
      rintro e w3 ⟨rfl, rfl⟩
      have hbx := bel_box w3 (.cells ⟨[.int .i64 z, .int .i64 3]⟩ 26)
      replace HB := Lib.hid (bel_tr HB.out hbx)
      replace HW := Lib.hid (HW.out.keep hbx)
      replace HZ := Lib.hid (HZ.out.keep hbx)
      have HR1 : Hid (G.RowI .i64 (w3.alloc (.cells ⟨[.int .i64 z, .int .i64 3]⟩ 26)) (some ⟨w3.heap.size, 0, none⟩) [z, 3]) := G.RowI.lit .i64 w3 _ rfl [z, 3] ⟨[.int .i64 z, .int .i64 3]⟩ _ rfl
      clear hbx
      go_wp2_with fail
      refine (first_prog [z, 3] _ 0 2 _ HR1.out (by simp)).mono ?_
      rintro e w4 ⟨rfl, rfl⟩
      generalize w3.alloc (.cells ⟨[.int .i64 z, .int .i64 3]⟩ 26) = w5 at *
      generalize firstE [z, 3] = r at *
      obtain ⟨⟨z0, z1, z2, z3, z4, z5⟩, hf⟩ := HZ.out
      have f0 := hf 0
      have f1 := hf 1
      have f2 := hf 2
      have f3 := hf 3
      have f4 := hf 4
      have f5 := hf 5
      clear hf
      go_wp2_with fail
      (try simp only [Exit.inBlock, Exit.then])
      refine bodyPost_ret (v := .tuple #[.agg #[.int .i64 0, .int .i64 0, .int .i64 0, .int .i64 0, .int .i64 0, .int .i32 0], .int .i64 r]) (by rw [results_cell_tmp (fn := Try.f26) (p := 4) (u := 5) (ty := 37) rfl]; go_simp) rfl ?_
      rw [HE.out]
      exact ⟨rfl, putN_below HB.out (by omega) zeroN⟩

end Go.Proofs.Yteojbekkbgcmnab.Un
end

/-
  Of and Before of package index.
-/
section
namespace Go.Proofs.Yteojbekkbgcmnab.Un
set_option linter.unusedVariables false
open Go.RowKit V Go.Shelf Go.Sort D Nd Qs Wk Ix
attribute [local irreducible] Sch.heldN Sch.stepV Sch.stepE

def errD (z : Int) (d : Dt) (i : Int) : Int := firstE [z, if validR d = true then 0 else 2, if decide (0 ≤ i) = true then 0 else 9]
def ofI (l : List Nt) (d : Dt) : Int × Int := if errD (visP l).2 d (idxS (visP l).1 d) = 0 then (idxS (visP l).1 d, 0) else (0, errD (visP l).2 d (idxS (visP l).1 d))
def befI (l : List Nt) (d : Dt) : Int × Int := if errD (orderP l).2 d (idxS (orderP l).1 d) = 0 then (((aliveL ((orderP l).1.take (idxS (orderP l).1 d).toNat)).length : Int), 0) else (0, errD (orderP l).2 d (idxS (orderP l).1 d))
theorem idx_bound (l : List Nt) (d : Dt) : idxS l d = -1 ∨ ∃ k : Nat, k < l.length ∧ idxS l d = (k : Int) := by
  unfold idxS
  rcases h : atS l d with _ | x
  · exact .inl rfl
  · right
    refine ⟨_, ?_, rfl⟩
    obtain ⟨h1, h2⟩ := at_some h
    have h3 : (l.takeWhile fun n => !decide (n.1 = d)).length ≤ l.length := (List.takeWhile_prefix _).length_le
    rcases Nat.lt_or_eq_of_le h3 with h4 | h4
    · exact h4
    · exfalso
      have h5 : l.takeWhile (fun n => !decide (n.1 = d)) = l := (List.takeWhile_prefix _).eq_of_length h4
      have h6 := List.all_takeWhile (p := fun n => !decide (n.1 = d)) (l := l)
      rw [h5, List.all_eq_true] at h6
      have := h6 x h1
      rw [h2] at this
      simp at this
theorem err_pos {z i : Int} {d : Dt} (h : errD z d i = 0) : 0 ≤ i := by
  unfold errD firstE firstE firstE at h
  by_cases hi : 0 ≤ i
  · exact hi
  · rw [decide_eq_false hi] at h
    simp at h
    split at h
    · split at h <;> omega
    · omega
set_option maxRecDepth 100000 in
set_option maxHeartbeats 4000000 in
theorem ofI_prog (l : List Nt) (d : Dt) (a : Option Addr) (c : Nat) (w : World) (hx : RowN w a l) (hlx : l.length ≤ 400000) :
    Calls Try.prog 40 #[.slice a l.length c, dv d] w fun e w' => e = .returned (.tuple #[.int .i64 (ofI l d).1, .int .i64 (ofI l d).2]) ∧ Below w.heap.size w w' := by
  have HB := Lib.hid (bel_box w (.cells #[.int .i64 d.1, .int .i64 d.2] 34))
  have HD := Lib.hid (bd_new w d)
  have HC := Lib.hid (visible_prog l a c _ (hx.keep HB.out) hlx)
  have HVl : Hid ((visP l).1.length ≤ 400000) := by have := visP_len l; show _ ≤ _; omega
  have HPl := Lib.hid (fun a c w h => place_prog (visP l).1 d a c w h (by have := HVl.out; omega))
  have HVd := Lib.hid (fun w => D.valid_any d w)
  have HE : Hid (ofI l d = if errD (visP l).2 d (idxS (visP l).1 d) = 0 then (idxS (visP l).1 d, 0) else (0, errD (visP l).2 d (idxS (visP l).1 d))) := rfl
  have HEr : Hid (errD (visP l).2 d (idxS (visP l).1 d) = firstE [(visP l).2, if validR d = true then 0 else 2, if decide (0 ≤ idxS (visP l).1 d) = true then 0 else 9]) := rfl
  clear hx hlx
  generalize ofI l d = T at *
  generalize visP l = Q at *
  obtain ⟨V, z⟩ := Q
  simp only at HC HE HVl HPl HEr
  generalize errD z d (idxS V d) = ee at *
  generalize idxS V d = i at *
  generalize validR d = vd at *
  go_enter Try.func40, Try.ntmps40
  go_wp2_with fail
  generalize w.alloc (.cells #[.int .i64 d.1, .int .i64 d.2] 34) = w1 at *
  have HBs := Lib.hid HB.out.size
  refine HC.out.mono ?_
  rintro e w2 ⟨v2, rfl, ho, hb⟩
  obtain ⟨a2, c2, rfl, hr, -⟩ := ON.row ho
  have HW := Lib.hid hr
  replace HB := Lib.hid (bel_tr HB.out hb)
  replace HD := Lib.hid (HD.out.keep hb)
  clear ho hb hr HC
  have c0 := HD.out.c0
  have c1 := HD.out.c1
  go_wp2_with fail
  refine (HPl.out _ _ _ HW.out).mono ?_
  rintro e w3 ⟨rfl, hb⟩
  replace HB := Lib.hid (bel_tr HB.out hb)
  replace HD := Lib.hid (HD.out.keep hb)
  clear hb c0 c1 HPl
  have c0 := HD.out.c0
  have c1 := HD.out.c1
  go_wp2_with fail
  refine (HVd.out _).mono ?_
  rintro e w4 ⟨rfl, hb⟩
  replace HB := Lib.hid (bel_tr HB.out hb)
  clear hb c0 c1 HVd HD
  go_wp2_with fail
  refine (unless_prog vd 2 _).mono ?_
  rintro e w5 ⟨rfl, rfl⟩
  generalize (if vd = true then (0 : Int) else 2) = u1 at *
  go_wp2_with fail
  refine (unless_prog _ 9 _).mono ?_
  rintro e w6 ⟨rfl, rfl⟩
  generalize (if decide (0 ≤ i) = true then (0 : Int) else 9) = u2 at *
  have hb := bel_box w6 (.cells ⟨[.int .i64 z, .int .i64 u1, .int .i64 u2]⟩ 26)
  replace HB := Lib.hid (bel_tr HB.out hb)
  have HR1 : Hid (G.RowI .i64 (w6.alloc (.cells ⟨[.int .i64 z, .int .i64 u1, .int .i64 u2]⟩ 26)) (some ⟨w6.heap.size, 0, none⟩) [z, u1, u2]) := G.RowI.lit .i64 w6 _ rfl [z, u1, u2] ⟨[.int .i64 z, .int .i64 u1, .int .i64 u2]⟩ _ rfl
  clear hb
  go_wp2_with fail
  refine (first_prog [z, u1, u2] _ 0 3 _ HR1.out (by simp)).mono ?_
  rintro e w7 ⟨rfl, rfl⟩
  clear HR1
  generalize w6.alloc (.cells ⟨[.int .i64 z, .int .i64 u1, .int .i64 u2]⟩ 26) = w7 at *
  have hEr := HEr.out
  rw [← hEr]
  clear hEr
  by_cases hz : ee = 0
  · subst hz
    have hT := HE.out
    rw [if_pos rfl] at hT
    clear HE
    subst hT
    go_wp2_with fail
    go_ret2
    exact ⟨rfl, HB.out⟩
  · have hT := HE.out
    rw [if_neg hz] at hT
    clear HE
    subst hT
    go_wp2_with fail
    go_ret2
    exact ⟨rfl, HB.out⟩
set_option maxRecDepth 100000 in
set_option maxHeartbeats 4000000 in
theorem befI_prog (l : List Nt) (d : Dt) (a : Option Addr) (c : Nat) (w : World) (hx : RowN w a l) (hlx : l.length ≤ 400000) :
    Calls Try.prog 41 #[.slice a l.length c, dv d] w fun e w' => e = .returned (.tuple #[.int .i64 (befI l d).1, .int .i64 (befI l d).2]) ∧ Below w.heap.size w w' := by
  have HB := Lib.hid (bel_box w (.cells #[.int .i64 d.1, .int .i64 d.2] 34))
  have HD := Lib.hid (bd_new w d)
  have HC := Lib.hid (order_prog l a c _ (hx.keep HB.out) hlx)
  have HVl : Hid ((orderP l).1.length ≤ 400000) := by have := orderP_len l; show _ ≤ _; omega
  have HPl := Lib.hid (fun a c w h => place_prog (orderP l).1 d a c w h (by have := HVl.out; omega))
  have HVd := Lib.hid (fun w => D.valid_any d w)
  have HE : Hid (befI l d = if errD (orderP l).2 d (idxS (orderP l).1 d) = 0 then (((aliveL ((orderP l).1.take (idxS (orderP l).1 d).toNat)).length : Int), 0) else (0, errD (orderP l).2 d (idxS (orderP l).1 d))) := rfl
  have HEr : Hid (errD (orderP l).2 d (idxS (orderP l).1 d) = firstE [(orderP l).2, if validR d = true then 0 else 2, if decide (0 ≤ idxS (orderP l).1 d) = true then 0 else 9]) := rfl
  have HAl := Lib.hid (fun (k : Nat) v base w h => alive_prog ((orderP l).1.take k) v base w h (by have := HVl.out; rw [List.length_take]; omega))
  have HIb : Hid (errD (orderP l).2 d (idxS (orderP l).1 d) = 0 → ∃ k : Nat, k < (orderP l).1.length ∧ idxS (orderP l).1 d = (k : Int)) := fun h => by
    rcases idx_bound (orderP l).1 d with h1 | h1
    · have := err_pos h; omega
    · exact h1
  clear hx hlx
  generalize befI l d = T at *
  generalize orderP l = Q at *
  obtain ⟨V, z⟩ := Q
  simp only at HC HE HVl HPl HEr HAl HIb
  generalize errD z d (idxS V d) = ee at *
  generalize idxS V d = i at *
  generalize validR d = vd at *
  go_enter Try.func41, Try.ntmps41
  go_wp2_with fail
  generalize w.alloc (.cells #[.int .i64 d.1, .int .i64 d.2] 34) = w1 at *
  have HBs := Lib.hid HB.out.size
  refine HC.out.mono ?_
  rintro e w2 ⟨v2, rfl, ho, hb⟩
  have HO := Lib.hid ho
  obtain ⟨a2, c2, rfl, hr, -, hlc, hxx⟩ := ON.row ho
  have HW := Lib.hid hr
  have HXx := Lib.hid hxx
  have HLc := Lib.hid hlc
  clear hlc hxx
  replace HB := Lib.hid (bel_tr HB.out hb)
  replace HD := Lib.hid (HD.out.keep hb)
  clear ho hb hr HC
  have c0 := HD.out.c0
  have c1 := HD.out.c1
  go_wp2_with fail
  refine (HPl.out _ _ _ HW.out).mono ?_
  rintro e w3 ⟨rfl, hb⟩
  replace HB := Lib.hid (bel_tr HB.out hb)
  replace HD := Lib.hid (HD.out.keep hb)
  replace HO := Lib.hid (HO.out.below hb)
  clear hb c0 c1 HPl
  have c0 := HD.out.c0
  have c1 := HD.out.c1
  go_wp2_with fail
  refine (HVd.out _).mono ?_
  rintro e w4 ⟨rfl, hb⟩
  replace HB := Lib.hid (bel_tr HB.out hb)
  replace HO := Lib.hid (HO.out.below hb)
  clear hb c0 c1 HVd HD
  go_wp2_with fail
  refine (unless_prog vd 2 _).mono ?_
  rintro e w5 ⟨rfl, rfl⟩
  generalize (if vd = true then (0 : Int) else 2) = u1 at *
  go_wp2_with fail
  refine (unless_prog _ 9 _).mono ?_
  rintro e w6 ⟨rfl, rfl⟩
  generalize (if decide (0 ≤ i) = true then (0 : Int) else 9) = u2 at *
  have hb := bel_box w6 (.cells ⟨[.int .i64 z, .int .i64 u1, .int .i64 u2]⟩ 26)
  replace HB := Lib.hid (bel_tr HB.out hb)
  replace HO := Lib.hid (HO.out.below hb)
  have HR1 : Hid (G.RowI .i64 (w6.alloc (.cells ⟨[.int .i64 z, .int .i64 u1, .int .i64 u2]⟩ 26)) (some ⟨w6.heap.size, 0, none⟩) [z, u1, u2]) := G.RowI.lit .i64 w6 _ rfl [z, u1, u2] ⟨[.int .i64 z, .int .i64 u1, .int .i64 u2]⟩ _ rfl
  clear hb
  go_wp2_with fail
  refine (first_prog [z, u1, u2] _ 0 3 _ HR1.out (by simp)).mono ?_
  rintro e w7 ⟨rfl, rfl⟩
  clear HR1
  generalize w6.alloc (.cells ⟨[.int .i64 z, .int .i64 u1, .int .i64 u2]⟩ 26) = w7 at *
  have hEr := HEr.out
  rw [← hEr]
  clear hEr
  by_cases hz : ee = 0
  · subst hz
    have hT := HE.out
    rw [if_pos rfl] at hT
    clear HE
    subst hT
    obtain ⟨k, hk, rfl⟩ := HIb.out rfl
    have hcut := cut_loN a2 V.length c2 k (by have := HLc.out; omega)
    have HOk : Hid (ON w7 w1.heap.size EN (.slice a2 k c2) (V.take k)) := by
      obtain ⟨g, rfl⟩ : ∃ g, a2 = some ⟨g, 0, none⟩ := by
        rcases a2 with _ | x
        · rcases (ON.r HO.out).1 with h | ⟨b, o, h, -⟩
          · rw [h] at hk; exact absurd hk (Nat.not_lt_zero _)
          · cases h
        · obtain ⟨e, -⟩ := HXx.out x rfl
          exact ⟨x.block, by rw [← e]⟩
      exact HO.out.cut k (by omega)
    have HA := Lib.hid (HAl.out k _ _ _ HOk.out)
    go_wp2_with fail
    refine HA.out.mono ?_
    rintro e w8 ⟨v8, rfl, ho, hg⟩
    obtain ⟨a8, c8, rfl, -⟩ := ON.row ho
    have HB8 := Lib.hid (bel_low HB.out hg (fun x e => Nat.le_trans HBs.out (HOk.out.lt x e).1))
    clear ho hg HA
    go_wp2_with fail
    go_ret2
    exact ⟨rfl, HB8.out⟩
  · have hT := HE.out
    rw [if_neg hz] at hT
    clear HE
    subst hT
    go_wp2_with fail
    go_ret2
    exact ⟨rfl, HB.out⟩
end Go.Proofs.Yteojbekkbgcmnab.Un
end

/-
  Left and Dots of package index.
-/
section
namespace Go.Proofs.Yteojbekkbgcmnab.Un
set_option linter.unusedVariables false
open Go.RowKit V Go.Shelf Go.Sort D Nd Qs Wk Ix
attribute [local irreducible] Sch.heldN Sch.stepV Sch.stepE

def leftI (l : List Nt) (i : Int) : Dt × Int :=
  if firstE [(visP l).2, if 0 ≤ i ∧ i ≤ ((visP l).1.length : Int) then 0 else 3] = 0 then (if i = 0 then (0, 0) else (((visP l).1.map (·.1))[(i - 1).toNat]?).getD (0, 0), 0)
  else ((0, 0), firstE [(visP l).2, if 0 ≤ i ∧ i ≤ ((visP l).1.length : Int) then 0 else 3])
theorem left_err {l : List Nt} {i : Int} (h : ¬ (0 ≤ i ∧ i ≤ ((visP l).1.length : Int))) : leftI l i = ((0, 0), firstE [(visP l).2, 3]) ∧ firstE [(visP l).2, 3] ≠ 0 := by
  have h3 : firstE [(visP l).2, 3] ≠ 0 := by
    unfold firstE firstE
    rcases visP_or l with h2 | ⟨h2, -⟩ <;> rw [h2] <;> decide
  refine ⟨?_, h3⟩
  unfold leftI
  rw [if_neg h, if_neg h3]
theorem left_zero (l : List Nt) : leftI l 0 = ((0, 0), firstE [(visP l).2, 0]) := by
  unfold leftI
  have hc : (0 : Int) ≤ 0 ∧ (0 : Int) ≤ ((visP l).1.length : Int) := ⟨Int.le_refl _, by omega⟩
  rw [if_pos hc]
  by_cases h : firstE [(visP l).2, 0] = 0
  · rw [if_pos h, if_pos rfl, h]
  · rw [if_neg h]
theorem left_yes {l : List Nt} {k : Nat} (h : k < (visP l).1.length) : leftI l ((k : Int) + 1) = ((visP l).1[k].1, 0) ∧ (visP l).2 = 0 := by
  have hz : (visP l).2 = 0 := by
    rcases visP_or l with h2 | ⟨h2, h3⟩
    · exact h2
    · rw [h3] at h; exact absurd h (Nat.not_lt_zero _)
  refine ⟨?_, hz⟩
  unfold leftI
  have hc : (0 : Int) ≤ (k : Int) + 1 ∧ (k : Int) + 1 ≤ ((visP l).1.length : Int) := ⟨by omega, by omega⟩
  rw [if_pos hc, hz, if_pos (show firstE [0, 0] = 0 from rfl), if_neg (by omega), show ((k : Int) + 1 - 1).toNat = k by omega, List.getElem?_eq_getElem (by rw [List.length_map]; exact h)]
  simp
theorem run_storeD_below {B : Nat} {a w : World} {g : Nat} (h : Below B a w) (hg : B ≤ g) (d : Dt) : Below B a ((w.setCell ⟨g, 0, none⟩ (.int .i64 d.1)).setCell ⟨g, 1, none⟩ (.int .i64 d.2)) :=
  (h.setCell (p := ⟨g, 0, none⟩) hg _).setCell (p := ⟨g, 1, none⟩) hg _
set_option maxRecDepth 100000 in
set_option maxHeartbeats 8000000 in
theorem leftI_prog (l : List Nt) (i : Int) (a : Option Addr) (c : Nat) (w : World) (hx : RowN w a l) (hlx : l.length ≤ 400000) :
    Calls Try.prog 45 #[.slice a l.length c, .int .i64 i] w fun e w' => e = .returned (.tuple #[dv (leftI l i).1, .int .i64 (leftI l i).2]) ∧ Below w.heap.size w w' := by
  have HB := Lib.hid (bel_box w (.cells #[.int .i64 0, .int .i64 0] 34))
  have HC := Lib.hid (visible_prog l a c _ (hx.keep HB.out) hlx)
  have HZ : Hid (Bd (w.alloc (.cells #[.int .i64 0, .int .i64 0] 34)) w.heap.size (0, 0)) := bd_new w (0, 0)
  have HVl : Hid ((visP l).1.length ≤ 400000) := by have := visP_len l; show _ ≤ _; omega
  have HNo := Lib.hid (left_err (l := l) (i := i))
  have HYe := Lib.hid (fun k h => left_yes (l := l) (k := k) h)
  have HLz := Lib.hid (left_zero l)
  clear hx hlx
  by_cases hin : 0 ≤ i ∧ i ≤ ((visP l).1.length : Int)
  · obtain ⟨hi0, hi1⟩ := hin
    by_cases hi2 : i = 0
    · subst hi2
      have HE := Lib.hid HLz.out
      clear HNo HYe HLz
      generalize leftI l 0 = R at *
      generalize visP l = Q at *
      obtain ⟨V, z⟩ := Q
      simp only at HC HE HVl hi1
      have hd0 : decide ((0 : Int) ≤ 0) = true := rfl
      have hd1 : decide ((0 : Int) ≤ (V.length : Int)) = true := decide_eq_true hi1
      go_enter Try.func45, Try.ntmps45
      go_wp2_with fail
      generalize w.alloc (.cells #[.int .i64 0, .int .i64 0] 34) = w1 at *
      refine HC.out.mono ?_
      rintro e w2 ⟨v2, rfl, ho, hb⟩
      obtain ⟨a2, c2, rfl, hr, -, hlc, -⟩ := ON.row ho
      have HW := Lib.hid hr
      have HLc := Lib.hid hlc
      replace HB := Lib.hid (bel_tr HB.out hb)
      replace HZ := Lib.hid (HZ.out.keep hb)
      clear ho hb hr HC hlc
      go_wp2_with fail
      refine (unless_yes 3 _).mono ?_
      rintro e w3 ⟨rfl, rfl⟩
      have hb := bel_box w3 (.cells ⟨[.int .i64 z, .int .i64 0]⟩ 26)
      replace HB := Lib.hid (bel_tr HB.out hb)
      replace HW := Lib.hid (HW.out.keep hb)
      replace HZ := Lib.hid (HZ.out.keep hb)
      have HR1 : Hid (G.RowI .i64 (w3.alloc (.cells ⟨[.int .i64 z, .int .i64 0]⟩ 26)) (some ⟨w3.heap.size, 0, none⟩) [z, 0]) := G.RowI.lit .i64 w3 _ rfl [z, 0] ⟨[.int .i64 z, .int .i64 0]⟩ _ rfl
      clear hb
      go_wp2_with fail
      refine (first_prog [z, 0] _ 0 2 _ HR1.out (by simp)).mono ?_
      rintro e w4 ⟨rfl, rfl⟩
      clear HR1
      generalize w3.alloc (.cells ⟨[.int .i64 z, .int .i64 0]⟩ 26) = w5 at *
      generalize firstE [z, 0] = r at *
      have z0 := HZ.out.c0
      have z1 := HZ.out.c1
      have f0 := bd_free HZ.out 0
      have f1 := bd_free HZ.out 1
      by_cases hr : r = 0
      · subst hr
        go_wp2_with fail
        (try simp only [Exit.inBlock, Exit.then])
        refine bodyPost_ret (v := .tuple #[.agg #[.int .i64 0, .int .i64 0], .int .i64 0]) (by rw [results_cell_tmp (fn := Try.f45) (p := 4) (u := 5) (ty := 34) rfl]; go_simp) rfl ?_
        rw [HE.out]
        exact ⟨rfl, run_storeD_below HB.out (by omega) (0, 0)⟩
      · go_wp2_with fail
        (try simp only [Exit.inBlock, Exit.then])
        refine bodyPost_ret (v := .tuple #[.agg #[.int .i64 0, .int .i64 0], .int .i64 r]) (by rw [results_cell_tmp (fn := Try.f45) (p := 4) (u := 5) (ty := 34) rfl]; go_simp) rfl ?_
        rw [HE.out]
        exact ⟨rfl, run_storeD_below HB.out (by omega) (0, 0)⟩
    · obtain ⟨k, rfl⟩ : ∃ k : Nat, i = (k : Int) + 1 := ⟨(i - 1).toNat, by omega⟩
      have hk : k < (visP l).1.length := by omega
      have hki : (k : Int) < ((visP l).1.length : Int) := by omega
      have hki0 : (0 : Int) ≤ (k : Int) := by omega
      have hd0 : decide ((0 : Int) ≤ (k : Int) + 1) = true := decide_eq_true hi0
      have hd1 : decide ((k : Int) + 1 ≤ ((visP l).1.length : Int)) = true := decide_eq_true hi1
      obtain ⟨hy1, hy2⟩ := HYe.out k hk
      have HE := Lib.hid hy1
      rw [hy2] at HC
      clear HNo HYe hy1 hy2 HLz
      generalize leftI l ((k : Int) + 1) = R at *
      generalize (visP l).1 = V at *
      obtain ⟨q, hq⟩ : ∃ q, q = V[k] := ⟨_, rfl⟩
      rw [← hq] at HE
      have HQ := Lib.hid hq
      have hkb : (k : Int) ≤ 400000 := by have := HVl.out; omega
      clear hq
      go_enter Try.func45, Try.ntmps45
      go_wp2_with fail
      generalize w.alloc (.cells #[.int .i64 0, .int .i64 0] 34) = w1 at *
      refine HC.out.mono ?_
      rintro e w2 ⟨v2, rfl, ho, hb⟩
      obtain ⟨a2, c2, rfl, hr, -, hlc, -⟩ := ON.row ho
      have HW := Lib.hid hr
      have HLc := Lib.hid hlc
      replace HB := Lib.hid (bel_tr HB.out hb)
      replace HZ := Lib.hid (HZ.out.keep hb)
      clear ho hb hr HC hlc
      go_wp2_with fail
      refine (unless_yes 3 _).mono ?_
      rintro e w3 ⟨rfl, rfl⟩
      have hb := bel_box w3 (.cells ⟨[.int .i64 0, .int .i64 0]⟩ 26)
      replace HB := Lib.hid (bel_tr HB.out hb)
      replace HW := Lib.hid (HW.out.keep hb)
      replace HZ := Lib.hid (HZ.out.keep hb)
      have HR1 : Hid (G.RowI .i64 (w3.alloc (.cells ⟨[.int .i64 0, .int .i64 0]⟩ 26)) (some ⟨w3.heap.size, 0, none⟩) [0, 0]) := G.RowI.lit .i64 w3 _ rfl [0, 0] ⟨[.int .i64 0, .int .i64 0]⟩ _ rfl
      clear hb
      go_wp2_with fail
      refine (first_prog [0, 0] _ 0 2 _ HR1.out (by simp)).mono ?_
      rintro e w4 ⟨rfl, rfl⟩
      clear HR1
      generalize w3.alloc (.cells ⟨[.int .i64 0, .int .i64 0]⟩ 26) = w5 at *
      have hfe : firstE [0, 0] = 0 := rfl
      rw [hfe]
      clear hfe
      obtain ⟨b1, o1, rfl, hna⟩ := na_of HW.out k hk
      rw [← HQ.out] at hna
      have hix := ixN b1 o1 V.length c2 k (k : Int) rfl hk
      obtain ⟨n0, n1, n2, n3, n4, n5⟩ := hna
      have z0 := HZ.out.c0
      have z1 := HZ.out.c1
      have f0 := bd_free HZ.out 0
      have f1 := bd_free HZ.out 1
      clear HQ
      obtain ⟨⟨q1, q2⟩, ⟨q3, q4⟩, q5, q6⟩ := q
      go_wp2_with fail
      (try simp only [Exit.inBlock, Exit.then])
      refine bodyPost_ret (v := .tuple #[.agg #[.int .i64 q1, .int .i64 q2], .int .i64 0]) (by rw [results_cell_tmp (fn := Try.f45) (p := 4) (u := 5) (ty := 34) rfl]; go_simp) rfl ?_
      rw [HE.out]
      exact ⟨rfl, run_storeD_below HB.out (by omega) (q1, q2)⟩
  · obtain ⟨hn1, hn2⟩ := HNo.out hin
    have HE := Lib.hid hn1
    clear HNo HYe hn1 HLz
    generalize leftI l i = R at *
    generalize visP l = Q at *
    obtain ⟨V, z⟩ := Q
    simp only at HC HE HVl hin hn2
    by_cases hi0 : 0 ≤ i
    · have hi1 : ¬ i ≤ (V.length : Int) := fun h => hin ⟨hi0, h⟩
      have hd0 : decide ((0 : Int) ≤ i) = true := decide_eq_true hi0
      have hd1 : decide (i ≤ (V.length : Int)) = false := decide_eq_false hi1
      clear hin
      go_enter Try.func45, Try.ntmps45
      go_wp2_with fail
      generalize w.alloc (.cells #[.int .i64 0, .int .i64 0] 34) = w1 at *
      refine HC.out.mono ?_
      rintro e w2 ⟨v2, rfl, ho, hb⟩
      obtain ⟨a2, c2, rfl, hr, -, hlc, -⟩ := ON.row ho
      have HW := Lib.hid hr
      have HLc := Lib.hid hlc
      replace HB := Lib.hid (bel_tr HB.out hb)
      replace HZ := Lib.hid (HZ.out.keep hb)
      clear ho hb hr HC hlc
      go_wp2_with fail
      refine (unless_no 3 _).mono ?_
      rintro e w3 ⟨rfl, rfl⟩
      have hb := bel_box w3 (.cells ⟨[.int .i64 z, .int .i64 3]⟩ 26)
      replace HB := Lib.hid (bel_tr HB.out hb)
      replace HW := Lib.hid (HW.out.keep hb)
      replace HZ := Lib.hid (HZ.out.keep hb)
      have HR1 : Hid (G.RowI .i64 (w3.alloc (.cells ⟨[.int .i64 z, .int .i64 3]⟩ 26)) (some ⟨w3.heap.size, 0, none⟩) [z, 3]) := G.RowI.lit .i64 w3 _ rfl [z, 3] ⟨[.int .i64 z, .int .i64 3]⟩ _ rfl
      clear hb
      go_wp2_with fail
      refine (first_prog [z, 3] _ 0 2 _ HR1.out (by simp)).mono ?_
      rintro e w4 ⟨rfl, rfl⟩
      clear HR1
      generalize w3.alloc (.cells ⟨[.int .i64 z, .int .i64 3]⟩ 26) = w5 at *
      generalize firstE [z, 3] = r at *
      have z0 := HZ.out.c0
      have z1 := HZ.out.c1
      have f0 := bd_free HZ.out 0
      have f1 := bd_free HZ.out 1
      go_wp2_with fail
      (try simp only [Exit.inBlock, Exit.then])
      refine bodyPost_ret (v := .tuple #[.agg #[.int .i64 0, .int .i64 0], .int .i64 r]) (by rw [results_cell_tmp (fn := Try.f45) (p := 4) (u := 5) (ty := 34) rfl]; go_simp) rfl ?_
      rw [HE.out]
      exact ⟨rfl, run_storeD_below HB.out (by omega) (0, 0)⟩
    · have hd0 : decide ((0 : Int) ≤ i) = false := decide_eq_false hi0
      clear hin
      go_enter Try.func45, Try.ntmps45
      go_wp2_with fail
      generalize w.alloc (.cells #[.int .i64 0, .int .i64 0] 34) = w1 at *
      refine HC.out.mono ?_
      rintro e w2 ⟨v2, rfl, ho, hb⟩
      obtain ⟨a2, c2, rfl, hr, -, hlc, -⟩ := ON.row ho
      have HW := Lib.hid hr
      have HLc := Lib.hid hlc
      replace HB := Lib.hid (bel_tr HB.out hb)
      replace HZ := Lib.hid (HZ.out.keep hb)
      clear ho hb hr HC hlc
      go_wp2_with fail
      refine (unless_no 3 _).mono ?_
      rintro e w3 ⟨rfl, rfl⟩
      have hb := bel_box w3 (.cells ⟨[.int .i64 z, .int .i64 3]⟩ 26)
      replace HB := Lib.hid (bel_tr HB.out hb)
      replace HW := Lib.hid (HW.out.keep hb)
      replace HZ := Lib.hid (HZ.out.keep hb)
      have HR1 : Hid (G.RowI .i64 (w3.alloc (.cells ⟨[.int .i64 z, .int .i64 3]⟩ 26)) (some ⟨w3.heap.size, 0, none⟩) [z, 3]) := G.RowI.lit .i64 w3 _ rfl [z, 3] ⟨[.int .i64 z, .int .i64 3]⟩ _ rfl
      clear hb
      go_wp2_with fail
      refine (first_prog [z, 3] _ 0 2 _ HR1.out (by simp)).mono ?_
      rintro e w4 ⟨rfl, rfl⟩
      clear HR1
      generalize w3.alloc (.cells ⟨[.int .i64 z, .int .i64 3]⟩ 26) = w5 at *
      generalize firstE [z, 3] = r at *
      have z0 := HZ.out.c0
      have z1 := HZ.out.c1
      have f0 := bd_free HZ.out 0
      have f1 := bd_free HZ.out 1
      go_wp2_with fail
      (try simp only [Exit.inBlock, Exit.then])
      refine bodyPost_ret (v := .tuple #[.agg #[.int .i64 0, .int .i64 0], .int .i64 r]) (by rw [results_cell_tmp (fn := Try.f45) (p := 4) (u := 5) (ty := 34) rfl]; go_simp) rfl ?_
      rw [HE.out]
      exact ⟨rfl, run_storeD_below HB.out (by omega) (0, 0)⟩
end Go.Proofs.Yteojbekkbgcmnab.Un
end

/-
  Dots of package index.
-/
section
namespace Go.Proofs.Yteojbekkbgcmnab.Un
set_option linter.unusedVariables false
open Go.RowKit V Go.Shelf Go.Sort D Nd Qs Wk Ix
attribute [local irreducible] Sch.heldN Sch.stepV Sch.stepE

theorem cut_midN (a : Option Addr) (len cap m n : Nat) (hmn : m ≤ n) (hn : n ≤ len) (hlc : len ≤ cap) : ∀ wx : World,
    (Instr.slice 22 (.slice a len cap) (some (.int .i64 (m : Int))) (some (.int .i64 (n : Int))) none).run Try.prog wx = .ok (.slice (offN a cap m) (n - m) (cap - m)) wx := by
  obtain ⟨i, hi, hz0, hz1, hz2⟩ := G.info_of infoN
  intro wx
  have h1 : (Instr.sliceBound (.int .i64 (n : Int)) cap .sliceAcap).run Try.prog wx = .ok n wx := by
    rw [run_sliceBound _ _ _ _ _ (by omega) (by omega)]; rfl
  have h2 : (Instr.sliceBound (.int .i64 (m : Int)) n .sliceB).run Try.prog wx = .ok m wx := by
    rw [run_sliceBound _ _ _ _ _ (by omega) (by omega)]; rfl
  simp [Instr.slice, run_underlying Try.underlying22, Instr.sliceBounds, h1, h2, Result.andThen, sizeOf, typeInfo, hi, hz1, offN]
def partE (l : List Nt) (i j : Int) : Int := firstE [(visP l).2, if 0 ≤ i ∧ i ≤ j ∧ j ≤ ((visP l).1.length : Int) then 0 else 3]
def idotsI (l : List Nt) (i j : Int) : List Dt × Int := if partE l i j = 0 then ((((visP l).1.drop i.toNat).take (j.toNat - i.toNat)).map (·.1), 0) else ([], partE l i j)
theorem part_err {l : List Nt} {i j : Int} (h : ¬ (0 ≤ i ∧ i ≤ j ∧ j ≤ ((visP l).1.length : Int))) : idotsI l i j = ([], firstE [(visP l).2, 3]) ∧ firstE [(visP l).2, 3] ≠ 0 := by
  have h3 : firstE [(visP l).2, 3] ≠ 0 := by
    unfold firstE firstE
    rcases visP_or l with h2 | ⟨h2, -⟩ <;> rw [h2] <;> decide
  refine ⟨?_, h3⟩
  unfold idotsI partE
  rw [if_neg h, if_neg h3]
theorem part_yes {l : List Nt} {i j : Nat} (h : i ≤ j) (h2 : j ≤ (visP l).1.length) : idotsI l i j = if (visP l).2 = 0 then ((((visP l).1.drop i).take (j - i)).map (·.1), 0) else ([], (visP l).2) := by
  unfold idotsI partE
  have hc : (0 : Int) ≤ (i : Int) ∧ (i : Int) ≤ (j : Int) ∧ (j : Int) ≤ ((visP l).1.length : Int) := ⟨by omega, by omega, by omega⟩
  have hf : firstE [(visP l).2, 0] = (visP l).2 := by
    unfold firstE firstE
    split
    · rename_i h; rw [h]; rfl
    · rfl
  rw [if_pos hc, hf]
  rfl
set_option maxRecDepth 100000 in
set_option maxHeartbeats 8000000 in
theorem idots_prog (l : List Nt) (i j : Int) (a : Option Addr) (c : Nat) (w : World) (hx : RowN w a l) (hlx : l.length ≤ 400000) :
    Calls Try.prog 33 #[.slice a l.length c, .int .i64 i, .int .i64 j] w fun e w' => ∃ v, e = .returned (.tuple #[v, .int .i64 (idotsI l i j).2]) ∧ OD w' w.heap.size ED v (idotsI l i j).1 ∧ Below w.heap.size w w' := by
  have HB := Lib.hid (Below.refl w.heap.size w)
  have HC := Lib.hid (visible_prog l a c w hx hlx)
  have HVl : Hid ((visP l).1.length ≤ 400000) := by have := visP_len l; show _ ≤ _; omega
  have HNo := Lib.hid (part_err (l := l) (i := i) (j := j))
  have HYe := Lib.hid (fun i j h h2 => part_yes (l := l) (i := i) (j := j) h h2)
  clear hx hlx
  by_cases hin : 0 ≤ i ∧ i ≤ j ∧ j ≤ ((visP l).1.length : Int)
  · obtain ⟨hi0, hi1, hi2⟩ := hin
    obtain ⟨m, rfl⟩ : ∃ m : Nat, i = (m : Int) := ⟨i.toNat, by omega⟩
    obtain ⟨n, rfl⟩ : ∃ n : Nat, j = (n : Int) := ⟨j.toNat, by omega⟩
    have hmn : m ≤ n := by omega
    have hnl : n ≤ (visP l).1.length := by omega
    have HE := Lib.hid (HYe.out m n hmn hnl)
    have hd0 : decide ((0 : Int) ≤ (m : Int)) = true := decide_eq_true hi0
    have hd1 : decide ((m : Int) ≤ (n : Int)) = true := decide_eq_true hi1
    have hd2 : decide ((n : Int) ≤ ((visP l).1.length : Int)) = true := decide_eq_true hi2
    clear HNo HYe
    generalize idotsI l (m : Int) (n : Int) = R at *
    generalize visP l = Q at *
    obtain ⟨V, z⟩ := Q
    simp only at HC HE HVl hd2 hnl hi2
    go_enter Try.func33, Try.ntmps33
    go_wp2_with fail
    refine HC.out.mono ?_
    rintro e w2 ⟨v2, rfl, ho, hb⟩
    obtain ⟨a2, c2, rfl, hr, -, hlc, -⟩ := ON.row ho
    have HW := Lib.hid hr
    have HLc := Lib.hid hlc
    replace HB := Lib.hid (bel_tr HB.out hb)
    clear ho hb hr HC hlc
    go_wp2_with fail
    refine (unless_yes 3 _).mono ?_
    rintro e w3 ⟨rfl, rfl⟩
    have hb := bel_box w3 (.cells ⟨[.int .i64 z, .int .i64 0]⟩ 26)
    replace HB := Lib.hid (bel_tr HB.out hb)
    replace HW := Lib.hid (HW.out.keep hb)
    have HR1 : Hid (G.RowI .i64 (w3.alloc (.cells ⟨[.int .i64 z, .int .i64 0]⟩ 26)) (some ⟨w3.heap.size, 0, none⟩) [z, 0]) := G.RowI.lit .i64 w3 _ rfl [z, 0] ⟨[.int .i64 z, .int .i64 0]⟩ _ rfl
    clear hb
    go_wp2_with fail
    refine (first_prog [z, 0] _ 0 2 _ HR1.out (by simp)).mono ?_
    rintro e w4 ⟨rfl, rfl⟩
    clear HR1
    generalize w3.alloc (.cells ⟨[.int .i64 z, .int .i64 0]⟩ 26) = w5 at *
    have hf : firstE [z, 0] = z := by
      unfold firstE firstE
      split
      · rename_i h; rw [h]; rfl
      · rfl
    rw [hf]
    clear hf
    by_cases hz : z = 0
    · subst hz
      have hT := HE.out
      rw [if_pos rfl] at hT
      clear HE
      subst hT
      have hnb : n ≤ 400000 := by have := HVl.out; omega
      have hsb : ((n - m : Nat) : Int) = (n : Int) - (m : Int) := by omega
      obtain ⟨w6, hmk, ho6, hb6⟩ := make_cap_d (n - m) (by omega) w5
      rw [hsb] at hmk
      have hcut := cut_midN a2 V.length c2 m n hmn hnl HLc.out
      have HXr := Lib.hid ((offN_row HW.out c2 m HLc.out (by omega)).take (n - m))
      have HXl : Hid (((V.drop m).take (n - m)).length = n - m) := by show _ = _; rw [List.length_take, List.length_drop]; omega
      have HO6 := Lib.hid ho6
      have HZ6 := Lib.hid hb6
      have hni : ((n : Int) - (m : Int)) ≤ 400000 := by omega
      have HBs := Lib.hid HB.out.size
      clear ho6 hb6 HW
      generalize hXX : (V.drop m).take (n - m) = X at *
      have HXe : Hid (X.map (·.1) = (((V.map (·.1)).drop m).take (n - m))) := by show _ = _; rw [← hXX, List.map_take, List.map_drop]
      clear hXX
      generalize offN a2 c2 m = aX at *
      obtain ⟨t, ht⟩ : ∃ t, t = n - m := ⟨_, rfl⟩
      rw [← ht] at hcut hsb HXl
      clear ht
      have hti : (t : Int) ≤ 400000 := by omega
      go_wp2_with fail
      go_loopw [11, 13, 48] (fun v _ i wr => ∃ k : Nat, k ≤ t ∧ i = .int .i64 (k : Int) ∧ Hid (Below w5.heap.size w5 wr) ∧ Hid (OD wr w5.heap.size ED v ((X.take k).map (·.1)))) (fun _ _ i _ => t - (intOf i).toNat)
      case atStart => exact ⟨0, Nat.zero_le _, rfl, HZ6, HO6⟩
      case round =>
        clear HO6
        obtain ⟨k, hk, rfl, HZ, HO⟩ := hrel
        by_cases hlt : k < t
        · have hi0 : (k : Int) < (t : Int) := by omega
          have hkX : k < X.length := by rw [HXl.out]; exact hlt
          obtain ⟨b1, o1, e1, hna⟩ := na_of (HXr.out.keep HZ.out) k hkX
          have HSt := Lib.hid (take_dots hkX)
          have HPk : Hid (((X.take k).map (·.1)).length ≤ 400000) := by show _ ≤ _; rw [List.length_map, List.length_take]; omega
          obtain ⟨q, hq⟩ : ∃ q, q = X[k] := ⟨_, rfl⟩
          rw [← hq] at hna HSt
          subst e1
          clear hq
          have hb0 := bel_box wr (.cells (nc q) 37)
          have HZ1 := Lib.hid (bel_tr HZ.out hb0)
          have HO1 := Lib.hid (HO.out.below hb0)
          clear hb0
          obtain ⟨n0, n1, n2, n3, n4, n5⟩ := hna
          obtain ⟨⟨q1, q2⟩, ⟨q3, q4⟩, q5, q6⟩ := q
          have hb2 := bel_box (wr.alloc (.cells (nc ((q1, q2), (q3, q4), q5, q6)) 37)) (.cells #[.int .i64 q1, .int .i64 q2] 34)
          have HO2 := Lib.hid (HO1.out.below hb2)
          have HZ2 := Lib.hid (bel_tr HZ1.out hb2)
          have hsz : (wr.alloc (.cells (nc ((q1, q2), (q3, q4), q5, q6)) 37)).heap.size = wr.heap.size + 1 := by simp
          have HLt : Hid (RowD ((wr.alloc (.cells (nc ((q1, q2), (q3, q4), q5, q6)) 37)).alloc (.cells #[.int .i64 q1, .int .i64 q2] 34)) (some ⟨wr.heap.size + 1, 0, none⟩) [(q1, q2)]) := by rw [← hsz]; exact RowD.lit _ [(q1, q2)] _ _ _ rfl
          clear hb2 hsz
          go_wp2_with (at_builtin; refine wpList_appD rfl _ _ _ rfl Try.underlying45 infoD _ _ rfl HO2.out (some ⟨wr.heap.size + 1, 0, none⟩) [(q1, q2)] 1 rfl HLt.out (fun h => by cases h) (by have := HPk.out; simp only [List.length_cons, List.length_nil]; omega) HZ2.out.size ?_)
          intro v7 w7 ho hg _
          have HO7 : Hid (OD w7 w5.heap.size ED v7 ((X.take (k + 1)).map (·.1))) := by show OD _ _ _ _ _; rw [HSt.out, List.map_take]; exact ho
          have HZ7 := Lib.hid (HZ2.out.grown hg HZ2.out.size (fun x hx => (HO2.out.lt x hx).1))
          clear ho hg n0 n1 n2 n3 n4 n5
          go_wp2_with fail
          refine ⟨⟨k + 1, by omega, by go_num, HZ7, HO7⟩, ?_⟩
          simp [intOf]; omega
        · obtain rfl : k = t := by omega
          have hend : ¬ (k : Int) < (k : Int) := by omega
          rw [List.take_of_length_le (by rw [HXl.out]; exact Nat.le_refl _)] at HO
          have HB9 := Lib.hid (bel_tr HB.out HZ.out)
          have HO9 := Lib.hid (HO.out.mono (fun x hx => Nat.le_trans HBs.out (HO.out.lt x hx).1))
          clear HO
          go_wp2_with fail
          go_ret2
          rw [HXe.out] at HO9
          exact ⟨_, rfl, HO9.out, HB9.out⟩
    · have hT := HE.out
      rw [if_neg hz] at hT
      clear HE
      subst hT
      go_wp2_with fail
      go_ret2
      exact ⟨_, rfl, OD.nil _ _ _, HB.out⟩
  · obtain ⟨hn1, hn2⟩ := HNo.out hin
    have HE := Lib.hid hn1
    clear HNo HYe hn1
    generalize idotsI l i j = R at *
    generalize visP l = Q at *
    obtain ⟨V, z⟩ := Q
    simp only at HC HE HVl hin hn2
    by_cases hi0 : 0 ≤ i
    · have hd0 : decide ((0 : Int) ≤ i) = true := decide_eq_true hi0
      by_cases hi1 : i ≤ j
      · have hd1 : decide (i ≤ j) = true := decide_eq_true hi1
        have hi2 : ¬ j ≤ (V.length : Int) := fun h => hin ⟨hi0, hi1, h⟩
        have hd2 : decide (j ≤ (V.length : Int)) = false := decide_eq_false hi2
        clear hin
        go_enter Try.func33, Try.ntmps33
        go_wp2_with fail
        refine HC.out.mono ?_
        rintro e w2 ⟨v2, rfl, ho, hb⟩
        obtain ⟨a2, c2, rfl, hr, -, hlc, -⟩ := ON.row ho
        have HW := Lib.hid hr
        have HLc := Lib.hid hlc
        replace HB := Lib.hid (bel_tr HB.out hb)
        clear ho hb hr HC hlc
        go_wp2_with fail
        refine (unless_no 3 _).mono ?_
        rintro e w3 ⟨rfl, rfl⟩
        have hb := bel_box w3 (.cells ⟨[.int .i64 z, .int .i64 3]⟩ 26)
        replace HB := Lib.hid (bel_tr HB.out hb)
        replace HW := Lib.hid (HW.out.keep hb)
        have HR1 : Hid (G.RowI .i64 (w3.alloc (.cells ⟨[.int .i64 z, .int .i64 3]⟩ 26)) (some ⟨w3.heap.size, 0, none⟩) [z, 3]) := G.RowI.lit .i64 w3 _ rfl [z, 3] ⟨[.int .i64 z, .int .i64 3]⟩ _ rfl
        clear hb
        go_wp2_with fail
        refine (first_prog [z, 3] _ 0 2 _ HR1.out (by simp)).mono ?_
        rintro e w4 ⟨rfl, rfl⟩
        clear HR1
        generalize w3.alloc (.cells ⟨[.int .i64 z, .int .i64 3]⟩ 26) = w5 at *
        generalize firstE [z, 3] = r at *
        go_wp2_with fail
        go_ret2
        exact ⟨_, by rw [HE.out]; rfl, by rw [HE.out]; exact OD.nil _ _ _, HB.out⟩
      · have hd1 : decide (i ≤ j) = false := decide_eq_false hi1
        clear hin
        go_enter Try.func33, Try.ntmps33
        go_wp2_with fail
        refine HC.out.mono ?_
        rintro e w2 ⟨v2, rfl, ho, hb⟩
        obtain ⟨a2, c2, rfl, hr, -, hlc, -⟩ := ON.row ho
        have HW := Lib.hid hr
        have HLc := Lib.hid hlc
        replace HB := Lib.hid (bel_tr HB.out hb)
        clear ho hb hr HC hlc
        go_wp2_with fail
        refine (unless_no 3 _).mono ?_
        rintro e w3 ⟨rfl, rfl⟩
        have hb := bel_box w3 (.cells ⟨[.int .i64 z, .int .i64 3]⟩ 26)
        replace HB := Lib.hid (bel_tr HB.out hb)
        replace HW := Lib.hid (HW.out.keep hb)
        have HR1 : Hid (G.RowI .i64 (w3.alloc (.cells ⟨[.int .i64 z, .int .i64 3]⟩ 26)) (some ⟨w3.heap.size, 0, none⟩) [z, 3]) := G.RowI.lit .i64 w3 _ rfl [z, 3] ⟨[.int .i64 z, .int .i64 3]⟩ _ rfl
        clear hb
        go_wp2_with fail
        refine (first_prog [z, 3] _ 0 2 _ HR1.out (by simp)).mono ?_
        rintro e w4 ⟨rfl, rfl⟩
        clear HR1
        generalize w3.alloc (.cells ⟨[.int .i64 z, .int .i64 3]⟩ 26) = w5 at *
        generalize firstE [z, 3] = r at *
        go_wp2_with fail
        go_ret2
        exact ⟨_, by rw [HE.out]; rfl, by rw [HE.out]; exact OD.nil _ _ _, HB.out⟩
    · have hd0 : decide ((0 : Int) ≤ i) = false := decide_eq_false hi0
      clear hin
      go_enter Try.func33, Try.ntmps33
      go_wp2_with fail
      refine HC.out.mono ?_
      rintro e w2 ⟨v2, rfl, ho, hb⟩
      obtain ⟨a2, c2, rfl, hr, -, hlc, -⟩ := ON.row ho
      have HW := Lib.hid hr
      have HLc := Lib.hid hlc
      replace HB := Lib.hid (bel_tr HB.out hb)
      clear ho hb hr HC hlc
      go_wp2_with fail
      refine (unless_no 3 _).mono ?_
      rintro e w3 ⟨rfl, rfl⟩
      have hb := bel_box w3 (.cells ⟨[.int .i64 z, .int .i64 3]⟩ 26)
      replace HB := Lib.hid (bel_tr HB.out hb)
      replace HW := Lib.hid (HW.out.keep hb)
      have HR1 : Hid (G.RowI .i64 (w3.alloc (.cells ⟨[.int .i64 z, .int .i64 3]⟩ 26)) (some ⟨w3.heap.size, 0, none⟩) [z, 3]) := G.RowI.lit .i64 w3 _ rfl [z, 3] ⟨[.int .i64 z, .int .i64 3]⟩ _ rfl
      clear hb
      go_wp2_with fail
      refine (first_prog [z, 3] _ 0 2 _ HR1.out (by simp)).mono ?_
      rintro e w4 ⟨rfl, rfl⟩
      clear HR1
      generalize w3.alloc (.cells ⟨[.int .i64 z, .int .i64 3]⟩ 26) = w5 at *
      generalize firstE [z, 3] = r at *
      go_wp2_with fail
      go_ret2
      exact ⟨_, by rw [HE.out]; rfl, by rw [HE.out]; exact OD.nil _ _ _, HB.out⟩
end Go.Proofs.Yteojbekkbgcmnab.Un
end
