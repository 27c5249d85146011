/-
  Valid, equal, Has, as the program asks: closures over two boxes.
-/
import Derived.Test.YtefnoajkdhgonaaDCut
import Derived.Test.YtefnoajkdhgonaaFPass
import Derived.Test.YtefnoajkdhgonaaDHas

/-
  The library's IndexFunc and ContainsFunc at dots, by what the function value says of the dots of the list.
-/
section
namespace Go.Proofs.Ytefnoajkdhgonaa.F
set_option linter.unusedVariables false
open Go.RowKit V Go.Sort D

/-- What a function value says of the dots of a list, wherever it is asked behind w. -/
def Ask (w : World) (g : Nat) (cb : Array Value) (l : List Dt) (p : Dt → Bool) : Prop :=
  ∀ W, Below w.heap.size w W → ∀ d ∈ l, Calls Try.prog g (#[dv d] ++ cb) W fun e w' => e = .returned (.bool (p d)) ∧ Below W.heap.size W w'
theorem Ask.keep {w w' : World} {g : Nat} {cb : Array Value} {l : List Dt} {p : Dt → Bool} (h : Ask w g cb l p) (hb : Below w.heap.size w w') : Ask w' g cb l p :=
  fun W hW d hd => h W (hb.trans (hW.mono hb.size)) d hd
theorem any_here {l : List Dt} {k : Nat} {p : Dt → Bool} (hk : k < l.length) (h : p l[k] = true) : l.any p = true := by
  rw [List.any_eq_true]; exact ⟨l[k], List.getElem_mem hk, h⟩
theorem any_away {l : List Dt} {p : Dt → Bool} (h : ∀ j (hj : j < l.length), p l[j] = false) : l.any p = false := by
  rw [List.any_eq_false]
  intro x hx
  obtain ⟨j, hj, rfl⟩ := List.mem_iff_getElem.1 hx
  rw [h j hj]; simp

set_option maxRecDepth 100000 in
set_option maxHeartbeats 1000000 in
theorem indexF (l : List Dt) (a : Option Addr) (c g : Nat) (cb : Array Value) (p : Dt → Bool) (w : World) (eg : ∀ args w, (callFunc g args).run Try.prog w = .ok (.enter g args) w) (hp : Ask w g cb l p) (hx : RowD w a l) (hlx : l.length ≤ 1000000) :
    Calls Try.prog 72 #[.slice a l.length c, .func (.func g) #[] cb] w fun e w' => ∃ z : Int, e = .returned (.int .i64 z) ∧ decide (0 ≤ z) = l.any p ∧ Below w.heap.size w w' := by
  have HP := Lib.hid hp
  have HX := Lib.hid hx
  have hli : (l.length : Int) ≤ 1000000 := by omega
  clear hp hx hlx
  go_enter Try.func72, Try.ntmps72
  go_wp2_with fail
  go_loopw [5, 8] (fun _ i wr => ∃ k : Nat, k ≤ l.length ∧ i = .int .i64 (k : Int) ∧ Hid (Below w.heap.size w wr) ∧ Hid (∀ j (hj : j < l.length), j < k → p l[j] = false)) (fun _ i _ => l.length - (intOf i).toNat)
  case atStart => exact ⟨0, Nat.zero_le _, rfl, Below.refl _ _, fun j _ h => by omega⟩
  case round =>
    obtain ⟨k, hk, rfl, hh, HV⟩ := hrel
    by_cases hlt : k < l.length
    · obtain ⟨b1, o1, rfl, p0, p1⟩ := HX.out.get hh.out k hlt
      have HQ := Lib.hid (HP.out wr hh.out l[k] (List.getElem_mem hlt))
      have HT := Lib.hid (any_here (p := p) hlt)
      obtain ⟨q, hq⟩ : ∃ q, q = l[k] := ⟨_, rfl⟩
      rw [← hq] at p0 p1 HQ HT
      have HQe := Lib.hid hq
      have hi1 : (k : Int) < (l.length : Int) := by omega
      clear hq
      obtain ⟨q1, q2⟩ := q
      go_wp2_with fail
      refine HQ.out.mono ?_
      rintro e w3 ⟨rfl, hb⟩
      have HB := bel_tr hh hb
      clear hb HQ
      rcases hpq : p (q1, q2) with _ | _
      · go_wp2_with fail
        go_roundw
        case rel =>
          refine ⟨k + 1, by omega, by go_num, HB, fun j hj hjk => ?_⟩
          by_cases hjk2 : j = k
          · subst hjk2; rw [← HQe.out]; exact hpq
          · exact HV.out j hj (by omega)
        case measure => simp [intOf]; omega
      · have hT := HT.out hpq
        go_wp2_with fail
        go_ret
        exact ⟨k, rfl, by rw [hT]; simp, HB.out⟩
    · obtain rfl : k = l.length := by omega
      have HN : Hid (l.any p = false) := any_away fun j hj => HV.out j hj hj
      have hend : ¬ (l.length : Int) < (l.length : Int) := by omega
      go_wp2_with fail
      go_ret
      exact ⟨-1, rfl, by rw [HN.out]; simp, hh.out⟩

set_option maxRecDepth 100000 in
theorem containsF (l : List Dt) (a : Option Addr) (c g : Nat) (cb : Array Value) (p : Dt → Bool) (w : World) (eg : ∀ args w, (callFunc g args).run Try.prog w = .ok (.enter g args) w) (hp : Ask w g cb l p) (hx : RowD w a l) (hlx : l.length ≤ 1000000) :
    Calls Try.prog 44 #[.slice a l.length c, .func (.func g) #[] cb] w fun e w' => e = .returned (.bool (l.any p)) ∧ Below w.heap.size w w' := by
  have HI := Lib.hid (indexF l a c g cb p w eg hp hx hlx)
  clear hp hx hlx
  generalize l.any p = q at *
  go_enter Try.func44, Try.ntmps44
  go_wp2_with fail
  refine HI.out.mono ?_
  rintro e w2 ⟨z, rfl, hz, hb⟩
  have HB := Lib.hid hb
  clear hb HI
  cases q
  · have hz2 : ¬ (0 : Int) ≤ z := by simpa using hz
    go_wp2_with fail
    go_ret
    exact ⟨by simp, HB.out⟩
  · have hz2 : (0 : Int) ≤ z := by simpa using hz
    go_wp2_with fail
    go_ret
    exact ⟨by simp, HB.out⟩
end Go.Proofs.Ytefnoajkdhgonaa.F
end

/-
  Which contexts are allowed: the program's and the reference's.
-/
section
namespace Go.Proofs.Ytefnoajkdhgonaa.F
set_option linter.unusedVariables false
open Go.RowKit V Go.Sort D

/-- A context as a value. -/
abbrev cv (x y : Value) : Value := .agg #[x, y]
abbrev cbox (x y : Value) : Obj := .cells #[x, y] 25
/-- A box of two slices. -/
def Bc (w : World) (g : Nat) (x y : Value) : Prop := w.cell? ⟨g, 0, none⟩ = some x ∧ w.cell? ⟨g, 1, none⟩ = some y
theorem Bc.keep {w w' : World} {g : Nat} {x y : Value} (h : Bc w g x y) (hb : Below w.heap.size w w') : Bc w' g x y :=
  ⟨(hb.cell (p := ⟨g, 0, none⟩) (lt_of_cell h.1)).trans h.1, (hb.cell (p := ⟨g, 1, none⟩) (lt_of_cell h.2)).trans h.2⟩
theorem two_new (w : World) (x y : Value) : Bc (w.alloc (cbox x y)) w.heap.size x y := by
  refine ⟨?_, ?_⟩ <;> go_simp

theorem enters_noDot : ∀ args w, (callFunc 45 args).run Try.prog w = .ok (.enter 45 args) w := enters_of Try.func45 (by kernel_rfl) rfl
set_option maxRecDepth 100000 in
theorem noDot_any (d : Dt) (w : World) : Calls Try.prog 45 #[dv d] w fun e w' => e = .returned (.bool (!validR d)) ∧ Below w.heap.size w w' := by
  have HV := Lib.hid (fun w => E.valid_lays d w)
  generalize validR d = R at *
  obtain ⟨d1, d2⟩ := d
  go_enter Try.func45, Try.ntmps45
  go_wp2_with fail
  refine (HV.out _).mono ?_
  rintro e w2 ⟨rfl, hl⟩
  have HB := bel_tr (Lib.hid (bel_box w _)) hl.bel
  clear hl HV
  go_wp2_with fail
  go_ret
  exact ⟨rfl, HB.out⟩
theorem ask_noDot (w : World) (l : List Dt) : Ask w 45 #[] l (fun d => !validR d) := fun W _ d _ => noDot_any d W
theorem any_valid (l : List Dt) : (l.any fun d => !validR d) = !(l.all validR) := by rw [← List.not_all_eq_any_not]

set_option maxRecDepth 100000 in
set_option maxHeartbeats 1000000 in
theorem valid_any (xs ys : List Dt) (a b : Option Addr) (n m : Nat) (w : World) (hx : RowD w a xs) (hy : RowD w b ys) (hlx : xs.length ≤ 1000000) (hly : ys.length ≤ 1000000) :
    Calls Try.prog 11 #[cv (.slice a xs.length n) (.slice b ys.length m)] w fun e w' => e = .returned (.bool (validC (xs, ys))) ∧ Below w.heap.size w w' := by
  have HV := Lib.hid (fun w h => E.validV_any xs a n w h (by omega))
  have HS := Lib.hid (fun w h => isSet_any ys b m w h (by omega))
  have HC := Lib.hid (fun w h => containsF ys b m 45 #[] (fun d => !validR d) w enters_noDot (ask_noDot w ys) h hly)
  rw [any_valid] at HC
  have HE : Hid (validC (xs, ys) = (E.validV xs && isSetR ys && ys.all validR)) := rfl
  have HB := Lib.hid (bel_box w (cbox (.slice a xs.length n) (.slice b ys.length m)))
  have HT := Lib.hid (two_new w (.slice a xs.length n) (.slice b ys.length m))
  have HX := Lib.hid (hx.keep HB.out)
  have HY := Lib.hid (hy.keep HB.out)
  clear hx hy hlx hly
  generalize validC (xs, ys) = R at *
  generalize E.validV xs = v1 at *
  generalize isSetR ys = v2 at *
  generalize ys.all validR = v3 at *
  go_enter Try.func11, Try.ntmps11
  go_wp2_with fail
  generalize w.alloc (cbox (.slice a xs.length n) (.slice b ys.length m)) = w1 at *
  have k0 := HT.out.1
  have k1 := HT.out.2
  go_wp2_with fail
  refine (HV.out _ HX.out).mono ?_
  rintro e w2 ⟨rfl, hl⟩
  have hb := hl.bel
  replace HT := Lib.hid (HT.out.keep hb)
  replace HY := Lib.hid (HY.out.keep hb)
  replace HB := bel_tr HB hb
  clear hl hb HV k0 k1
  have k1 := HT.out.2
  rcases v1 with _ | _
  · have hE := HE.out
    subst hE
    clear HE
    go_wp2_with fail
    go_ret
    exact ⟨rfl, HB.out⟩
  · go_wp2_with fail
    refine (HS.out _ HY.out).mono ?_
    rintro e w3 ⟨rfl, hb⟩
    replace HT := Lib.hid (HT.out.keep hb)
    replace HY := Lib.hid (HY.out.keep hb)
    replace HB := bel_tr HB hb
    clear hb HS k1
    have k1 := HT.out.2
    rcases v2 with _ | _
    · have hE := HE.out
      subst hE
      clear HE
      go_wp2_with fail
      go_ret
      exact ⟨rfl, HB.out⟩
    · go_wp2_with fail
      refine (HC.out _ HY.out).mono ?_
      rintro e w4 ⟨rfl, hb⟩
      replace HB := bel_tr HB hb
      clear hb HC k1
      have hE := HE.out
      subst hE
      clear HE
      go_wp2_with fail
      go_ret
      exact ⟨by simp, HB.out⟩
end Go.Proofs.Ytefnoajkdhgonaa.F
end

/-
  The library's Equal at dots; Equal of contexts: the program's and the reference's.
-/
section
namespace Go.Proofs.Ytefnoajkdhgonaa.F
set_option linter.unusedVariables false
open Go.RowKit V Go.Sort D

set_option maxRecDepth 100000 in
set_option maxHeartbeats 1000000 in
theorem equalV (xs ys : List Dt) (a b : Option Addr) (c d : Nat) (w : World) (hx : RowD w a xs) (hy : RowD w b ys) (hlx : xs.length ≤ 140737488355328) (hly : ys.length ≤ 140737488355328) :
    Calls Try.prog 52 #[.slice a xs.length c, .slice b ys.length d] w fun e w' => e = .returned (.bool (decide (xs = ys))) ∧ Below w.heap.size w w' := by
  have HX := Lib.hid hx
  have HY := Lib.hid hy
  have hli : (xs.length : Int) ≤ 140737488355328 := by omega
  clear hx hy hlx hly
  by_cases hl : xs.length = ys.length
  · have q0 : ((xs.length : Int) != (ys.length : Int)) = false := by rw [bne_eq_false_iff_eq]; omega
    go_enter Try.func52, Try.ntmps52
    go_wp2_with fail
    go_loopw [5, 13] (fun _ i wr => ∃ k : Nat, k ≤ xs.length ∧ i = .int .i64 k ∧ Hid (Below w.heap.size w wr) ∧ Hid (∀ j (hj : j < xs.length) (hj2 : j < ys.length), j < k → xs[j] = ys[j])) (fun _ i _ => xs.length - (intOf i).toNat)
    case atStart => exact ⟨0, Nat.zero_le _, rfl, Below.refl _ _, fun j _ _ h => by omega⟩
    case round =>
      obtain ⟨k, hk, rfl, hh, HV⟩ := hrel
      by_cases hlt : k < xs.length
      · have hlt2 : k < ys.length := by omega
        obtain ⟨b1, o1, rfl, p0, p1⟩ := HX.out.get hh.out k hlt
        obtain ⟨b2, o2, rfl, q1, q2⟩ := HY.out.get hh.out k hlt2
        obtain ⟨p, hp⟩ : ∃ p, p = xs[k] := ⟨_, rfl⟩
        obtain ⟨q, hq⟩ : ∃ q, q = ys[k] := ⟨_, rfl⟩
        rw [← hp] at p0 p1
        rw [← hq] at q1 q2
        have HP := Lib.hid hp
        have HQ := Lib.hid hq
        clear hp hq
        by_cases hpq : p = q
        · subst hpq
          go_wp2_with fail
          go_quiet (fail)
          go_wp2_with fail
          go_roundw
          case rel =>
            refine ⟨k + 1, by omega, by go_num, bel_drewN hh.out _, fun j hj hj2 hjk => ?_⟩
            by_cases hjk2 : j = k
            · subst hjk2; rw [← HP.out, ← HQ.out]
            · exact HV.out j hj hj2 (by omega)
          case measure => simp [intOf]; omega
        · have hne := neq_yes hpq
          have HN : Hid (decide (xs = ys) = false) := by
            show _ = _
            rw [decide_eq_false_iff_not]
            rintro rfl
            exact hpq (by rw [HP.out, HQ.out])
          clear hpq
          go_wp2_with fail
          go_quiet (fail)
          go_wp2_with fail
          go_ret
          exact ⟨by rw [HN.out]; rfl, bel_drewN hh.out _⟩
      · obtain rfl : k = xs.length := by omega
        have HN : Hid (decide (xs = ys) = true) := by
          show _ = _
          rw [decide_eq_true_eq]
          exact List.ext_getElem hl fun j hj hj2 => HV.out j hj hj2 hj
        have hend : ¬ (xs.length : Int) < (xs.length : Int) := by omega
        go_wp2_with fail
        go_ret
        exact ⟨by rw [HN.out]; rfl, hh.out⟩
  · have q0 : ((xs.length : Int) != (ys.length : Int)) = true := by rw [bne_iff_ne]; omega
    have HN : Hid (decide (xs = ys) = false) := by
      show _ = _
      rw [decide_eq_false_iff_not]
      rintro rfl
      exact hl rfl
    go_enter Try.func52, Try.ntmps52
    go_wp2_with fail
    go_ret
    exact ⟨by rw [HN.out]; rfl, Below.refl _ _⟩

set_option maxRecDepth 100000 in
set_option maxHeartbeats 1000000 in
theorem equalD (xs ys : List Dt) (a b : Option Addr) (c d : Nat) (w : World) (hx : RowD w a xs) (hy : RowD w b ys) (hlx : xs.length ≤ 140737488355328) (hly : ys.length ≤ 140737488355328) :
    Calls Try.prog 53 #[.slice a xs.length c, .slice b ys.length d] w fun e w' => e = .returned (.bool (decide (xs = ys))) ∧ Below w.heap.size w w' := by
  have HX := Lib.hid hx
  have HY := Lib.hid hy
  have hli : (xs.length : Int) ≤ 140737488355328 := by omega
  clear hx hy hlx hly
  by_cases hl : xs.length = ys.length
  · have q0 : ((xs.length : Int) != (ys.length : Int)) = false := by rw [bne_eq_false_iff_eq]; omega
    go_enter Try.func53, Try.ntmps53
    go_wp2_with fail
    go_loopw [5, 13] (fun _ i wr => ∃ k : Nat, k ≤ xs.length ∧ i = .int .i64 k ∧ Hid (Below w.heap.size w wr) ∧ Hid (∀ j (hj : j < xs.length) (hj2 : j < ys.length), j < k → xs[j] = ys[j])) (fun _ i _ => xs.length - (intOf i).toNat)
    case atStart => exact ⟨0, Nat.zero_le _, rfl, Below.refl _ _, fun j _ _ h => by omega⟩
    case round =>
      obtain ⟨k, hk, rfl, hh, HV⟩ := hrel
      by_cases hlt : k < xs.length
      · have hlt2 : k < ys.length := by omega
        obtain ⟨b1, o1, rfl, p0, p1⟩ := HX.out.get hh.out k hlt
        obtain ⟨b2, o2, rfl, q1, q2⟩ := HY.out.get hh.out k hlt2
        obtain ⟨p, hp⟩ : ∃ p, p = xs[k] := ⟨_, rfl⟩
        obtain ⟨q, hq⟩ : ∃ q, q = ys[k] := ⟨_, rfl⟩
        rw [← hp] at p0 p1
        rw [← hq] at q1 q2
        have HP := Lib.hid hp
        have HQ := Lib.hid hq
        clear hp hq
        by_cases hpq : p = q
        · subst hpq
          go_wp2_with fail
          go_quiet (fail)
          go_wp2_with fail
          go_roundw
          case rel =>
            refine ⟨k + 1, by omega, by go_num, bel_drewN hh.out _, fun j hj hj2 hjk => ?_⟩
            by_cases hjk2 : j = k
            · subst hjk2; rw [← HP.out, ← HQ.out]
            · exact HV.out j hj hj2 (by omega)
          case measure => simp [intOf]; omega
        · have hne := neq_yes hpq
          have HN : Hid (decide (xs = ys) = false) := by
            show _ = _
            rw [decide_eq_false_iff_not]
            rintro rfl
            exact hpq (by rw [HP.out, HQ.out])
          clear hpq
          go_wp2_with fail
          go_quiet (fail)
          go_wp2_with fail
          go_ret
          exact ⟨by rw [HN.out]; rfl, bel_drewN hh.out _⟩
      · obtain rfl : k = xs.length := by omega
        have HN : Hid (decide (xs = ys) = true) := by
          show _ = _
          rw [decide_eq_true_eq]
          exact List.ext_getElem hl fun j hj hj2 => HV.out j hj hj2 hj
        have hend : ¬ (xs.length : Int) < (xs.length : Int) := by omega
        go_wp2_with fail
        go_ret
        exact ⟨by rw [HN.out]; rfl, hh.out⟩
  · have q0 : ((xs.length : Int) != (ys.length : Int)) = true := by rw [bne_iff_ne]; omega
    have HN : Hid (decide (xs = ys) = false) := by
      show _ = _
      rw [decide_eq_false_iff_not]
      rintro rfl
      exact hl rfl
    go_enter Try.func53, Try.ntmps53
    go_wp2_with fail
    go_ret
    exact ⟨by rw [HN.out]; rfl, Below.refl _ _⟩

set_option maxRecDepth 100000 in
set_option maxHeartbeats 1000000 in
theorem equal_any (xs ys us vs : List Dt) (a b p q : Option Addr) (n m j k : Nat) (w : World) (hx : RowD w a xs) (hy : RowD w b ys) (hu : RowD w p us) (hv : RowD w q vs) (hlx : xs.length ≤ 1000000) (hly : ys.length ≤ 1000000) (hlu : us.length ≤ 1000000) (hlv : vs.length ≤ 1000000) :
    Calls Try.prog 15 #[cv (.slice a xs.length n) (.slice b ys.length m), cv (.slice p us.length j) (.slice q vs.length k)] w fun e w' => e = .returned (.bool (decide ((xs, ys) = (us, vs)))) ∧ Below w.heap.size w w' := by
  have H1 := Lib.hid (fun w h1 h2 => equalV xs us a p n j w h1 h2 (by omega) (by omega))
  have H2 := Lib.hid (fun w h1 h2 => equalD ys vs b q m k w h1 h2 (by omega) (by omega))
  have HE : Hid (decide ((xs, ys) = (us, vs)) = (decide (xs = us) && decide (ys = vs))) := by
    show _ = _
    rw [Bool.eq_iff_iff]
    simp
  have HB := Lib.hid (bel_box w (cbox (.slice a xs.length n) (.slice b ys.length m)))
  have HT := Lib.hid (two_new w (.slice a xs.length n) (.slice b ys.length m))
  have HX := Lib.hid (hx.keep HB.out)
  have HY := Lib.hid (hy.keep HB.out)
  have HU := Lib.hid (hu.keep HB.out)
  have HV := Lib.hid (hv.keep HB.out)
  clear hx hy hu hv hlx hly hlu hlv
  generalize decide ((xs, ys) = (us, vs)) = R at *
  generalize decide (xs = us) = e1 at *
  generalize decide (ys = vs) = e2 at *
  go_enter Try.func15, Try.ntmps15
  go_wp2_with fail
  have hsz : (w.alloc (cbox (.slice a xs.length n) (.slice b ys.length m))).heap.size = w.heap.size + 1 := by simp
  generalize w.alloc (cbox (.slice a xs.length n) (.slice b ys.length m)) = w1 at *
  have hb := bel_box w1 (cbox (.slice p us.length j) (.slice q vs.length k))
  have HS := Lib.hid (two_new w1 (.slice p us.length j) (.slice q vs.length k))
  rw [hsz] at HS
  replace HT := Lib.hid (HT.out.keep hb)
  replace HX := Lib.hid (HX.out.keep hb)
  replace HY := Lib.hid (HY.out.keep hb)
  replace HU := Lib.hid (HU.out.keep hb)
  replace HV := Lib.hid (HV.out.keep hb)
  replace HB := bel_tr HB hb
  clear hb hsz
  generalize w1.alloc (cbox (.slice p us.length j) (.slice q vs.length k)) = w2 at *
  have k0 := HT.out.1
  have k1 := HT.out.2
  have k2 := HS.out.1
  have k3 := HS.out.2
  go_wp2_with fail
  refine (H1.out _ HX.out HU.out).mono ?_
  rintro e w3 ⟨rfl, hb⟩
  replace HT := Lib.hid (HT.out.keep hb)
  replace HS := Lib.hid (HS.out.keep hb)
  replace HY := Lib.hid (HY.out.keep hb)
  replace HV := Lib.hid (HV.out.keep hb)
  replace HB := bel_tr HB hb
  clear hb H1 k0 k1 k2 k3
  have k1 := HT.out.2
  have k3 := HS.out.2
  rcases e1 with _ | _
  · have hE := HE.out
    subst hE
    clear HE
    go_wp2_with fail
    go_ret
    exact ⟨rfl, HB.out⟩
  · go_wp2_with fail
    refine (H2.out _ HY.out HV.out).mono ?_
    rintro e w4 ⟨rfl, hb⟩
    replace HB := bel_tr HB hb
    clear hb H2 k1 k3
    have hE := HE.out
    subst hE
    clear HE
    go_wp2_with fail
    go_ret
    exact ⟨by simp, HB.out⟩

set_option maxRecDepth 100000 in
set_option maxHeartbeats 1000000 in
theorem equal_ref (xs ys us vs : List Dt) (a b p q : Option Addr) (n m j k : Nat) (w : World) (hx : RowD w a xs) (hy : RowD w b ys) (hu : RowD w p us) (hv : RowD w q vs) (hlx : xs.length ≤ 1000000) (hly : ys.length ≤ 1000000) (hlu : us.length ≤ 1000000) (hlv : vs.length ≤ 1000000) :
    Calls Try.prog 16 #[cv (.slice a xs.length n) (.slice b ys.length m), cv (.slice p us.length j) (.slice q vs.length k)] w fun e w' => e = .returned (.bool (decide ((xs, ys) = (us, vs)))) ∧ Below w.heap.size w w' := by
  have H1 := Lib.hid (fun w h1 h2 => same_ref xs us a p n j w h1 h2 (by omega) (by omega))
  have H2 := Lib.hid (fun w h1 h2 => same_ref ys vs b q m k w h1 h2 (by omega) (by omega))
  have HE : Hid (decide ((xs, ys) = (us, vs)) = (decide (xs = us) && decide (ys = vs))) := by
    show _ = _
    rw [Bool.eq_iff_iff]
    simp
  have HB := Lib.hid (bel_box w (cbox (.slice a xs.length n) (.slice b ys.length m)))
  have HT := Lib.hid (two_new w (.slice a xs.length n) (.slice b ys.length m))
  have HX := Lib.hid (hx.keep HB.out)
  have HY := Lib.hid (hy.keep HB.out)
  have HU := Lib.hid (hu.keep HB.out)
  have HV := Lib.hid (hv.keep HB.out)
  clear hx hy hu hv hlx hly hlu hlv
  generalize decide ((xs, ys) = (us, vs)) = R at *
  generalize decide (xs = us) = e1 at *
  generalize decide (ys = vs) = e2 at *
  go_enter Try.func16, Try.ntmps16
  go_wp2_with fail
  have hsz : (w.alloc (cbox (.slice a xs.length n) (.slice b ys.length m))).heap.size = w.heap.size + 1 := by simp
  generalize w.alloc (cbox (.slice a xs.length n) (.slice b ys.length m)) = w1 at *
  have hb := bel_box w1 (cbox (.slice p us.length j) (.slice q vs.length k))
  have HS := Lib.hid (two_new w1 (.slice p us.length j) (.slice q vs.length k))
  rw [hsz] at HS
  replace HT := Lib.hid (HT.out.keep hb)
  replace HX := Lib.hid (HX.out.keep hb)
  replace HY := Lib.hid (HY.out.keep hb)
  replace HU := Lib.hid (HU.out.keep hb)
  replace HV := Lib.hid (HV.out.keep hb)
  replace HB := bel_tr HB hb
  clear hb hsz
  generalize w1.alloc (cbox (.slice p us.length j) (.slice q vs.length k)) = w2 at *
  have k0 := HT.out.1
  have k1 := HT.out.2
  have k2 := HS.out.1
  have k3 := HS.out.2
  go_wp2_with fail
  refine (H1.out _ HX.out HU.out).mono ?_
  rintro e w3 ⟨rfl, hb⟩
  replace HT := Lib.hid (HT.out.keep hb)
  replace HS := Lib.hid (HS.out.keep hb)
  replace HY := Lib.hid (HY.out.keep hb)
  replace HV := Lib.hid (HV.out.keep hb)
  replace HB := bel_tr HB hb
  clear hb H1 k0 k1 k2 k3
  have k1 := HT.out.2
  have k3 := HS.out.2
  rcases e1 with _ | _
  · have hE := HE.out
    subst hE
    clear HE
    go_wp2_with fail
    go_ret
    exact ⟨rfl, HB.out⟩
  · go_wp2_with fail
    refine (H2.out _ HY.out HV.out).mono ?_
    rintro e w4 ⟨rfl, hb⟩
    replace HB := bel_tr HB hb
    clear hb H2 k1 k3
    have hE := HE.out
    subst hE
    clear HE
    go_wp2_with fail
    go_ret
    exact ⟨by simp, HB.out⟩

end Go.Proofs.Ytefnoajkdhgonaa.F
end

/-
  Whether a dot is in a context: the program's and the reference's.
-/
section
namespace Go.Proofs.Ytefnoajkdhgonaa.F
set_option linter.unusedVariables false
open Go.RowKit V Go.Sort D

/-- A box with a dot. -/
def Bd (g : Nat) (x y : Int) (w : World) : Prop := w.cell? ⟨g, 0, none⟩ = some (.int .i64 x) ∧ w.cell? ⟨g, 1, none⟩ = some (.int .i64 y)
theorem Bd.keep {w w' : World} {g : Nat} {x y : Int} (h : Bd g x y w) (hb : Below w.heap.size w w') : Bd g x y w' :=
  ⟨(hb.cell (p := ⟨g, 0, none⟩) (lt_of_cell h.1)).trans h.1, (hb.cell (p := ⟨g, 1, none⟩) (lt_of_cell h.2)).trans h.2⟩

set_option maxRecDepth 100000 in
set_option maxHeartbeats 1000000 in
theorem has_any (xs ys : List Dt) (d : Dt) (a b : Option Addr) (n m : Nat) (w : World) (hx : RowD w a xs) (hy : RowD w b ys) (hlx : xs.length ≤ 1000000) (hly : ys.length ≤ 1000000) :
    Calls Try.prog 24 #[cv (.slice a xs.length n) (.slice b ys.length m), dv d] w fun e w' => e = .returned (.bool (hasC (xs, ys) d)) ∧ Below w.heap.size w w' := by
  have H1 := Lib.hid (fun w h => E.has_any xs d a n w h (by omega))
  have H2 := Lib.hid (fun w => E.valid_lays d w)
  have H3 := Lib.hid (fun w h => D.has_any ys d b m w h hly)
  have HE : Hid (hasC (xs, ys) d = (validR d && (E.hasV xs d || decide (d ∈ ys)))) := rfl
  have HB := Lib.hid (bel_box w (cbox (.slice a xs.length n) (.slice b ys.length m)))
  have HT := Lib.hid (two_new w (.slice a xs.length n) (.slice b ys.length m))
  have HX := Lib.hid (hx.keep HB.out)
  have HY := Lib.hid (hy.keep HB.out)
  have HHv : Hid (E.hasV xs d = true → validR d = true) := fun h => (hasV_iff.1 h).1
  clear hx hy hlx hly
  generalize hasC (xs, ys) d = R at *
  generalize E.hasV xs d = v1 at *
  generalize validR d = v2 at *
  generalize decide (d ∈ ys) = v3 at *
  obtain ⟨d1, d2⟩ := d
  go_enter Try.func24, Try.ntmps24
  go_wp2_with fail
  have hsz : (w.alloc (cbox (.slice a xs.length n) (.slice b ys.length m))).heap.size = w.heap.size + 1 := by simp
  generalize w.alloc (cbox (.slice a xs.length n) (.slice b ys.length m)) = w1 at *
  have hb := bel_box w1 (.cells #[.int .i64 d1, .int .i64 d2] 38)
  have HK : Hid (Bd w1.heap.size d1 d2 (w1.alloc (.cells #[.int .i64 d1, .int .i64 d2] 38))) := by refine ⟨?_, ?_⟩ <;> go_simp
  rw [hsz] at HK
  replace HT := Lib.hid (HT.out.keep hb)
  replace HX := Lib.hid (HX.out.keep hb)
  replace HY := Lib.hid (HY.out.keep hb)
  replace HB := bel_tr HB hb
  clear hb hsz
  generalize w1.alloc (.cells #[.int .i64 d1, .int .i64 d2] 38) = w2 at *
  have k0 := HT.out.1
  have k1 := HT.out.2
  have k2 := HK.out.1
  have k3 := HK.out.2
  go_wp2_with fail
  refine (H1.out _ HX.out).mono ?_
  rintro e w3 ⟨rfl, hb⟩
  replace hb := hb.bel
  replace HT := Lib.hid (HT.out.keep hb)
  replace HX := Lib.hid (HX.out.keep hb)
  replace HY := Lib.hid (HY.out.keep hb)
  replace HK := Lib.hid (HK.out.keep hb)
  replace HB := bel_tr HB hb
  clear hb k0 k1 k2 k3
  have k0 := HT.out.1
  have k1 := HT.out.2
  have k2 := HK.out.1
  have k3 := HK.out.2
  rcases v1 with _ | _
  · go_wp2_with fail
    refine (H2.out _).mono ?_
    rintro e w3 ⟨rfl, hb⟩
    replace hb := hb.bel
    replace HT := Lib.hid (HT.out.keep hb)
    replace HX := Lib.hid (HX.out.keep hb)
    replace HY := Lib.hid (HY.out.keep hb)
    replace HK := Lib.hid (HK.out.keep hb)
    replace HB := bel_tr HB hb
    clear hb k0 k1 k2 k3
    have k0 := HT.out.1
    have k1 := HT.out.2
    have k2 := HK.out.1
    have k3 := HK.out.2
    rcases v2 with _ | _
    · have hE := HE.out
      try simp at hE
      subst hE
      clear HE
      go_wp2_with fail
      go_ret
      exact ⟨by simp, HB.out⟩
    · go_wp2_with fail
      refine (H3.out _ HY.out).mono ?_
      rintro e w3 ⟨rfl, hb⟩
      replace HT := Lib.hid (HT.out.keep hb)
      replace HX := Lib.hid (HX.out.keep hb)
      replace HY := Lib.hid (HY.out.keep hb)
      replace HK := Lib.hid (HK.out.keep hb)
      replace HB := bel_tr HB hb
      clear hb k0 k1 k2 k3
      have k0 := HT.out.1
      have k1 := HT.out.2
      have k2 := HK.out.1
      have k3 := HK.out.2
      have hE := HE.out
      try simp at hE
      subst hE
      clear HE
      go_wp2_with fail
      go_ret
      exact ⟨by simp, HB.out⟩
  · have h2 := HHv.out (by first | trivial | rfl)
    subst h2
    have hE := HE.out
    try simp at hE
    subst hE
    clear HE
    go_wp2_with fail
    go_ret
    exact ⟨by simp, HB.out⟩

set_option maxRecDepth 100000 in
set_option maxHeartbeats 1000000 in
theorem has_ref (xs ys : List Dt) (d : Dt) (a b : Option Addr) (n m : Nat) (w : World) (hx : RowD w a xs) (hy : RowD w b ys) (hlx : xs.length ≤ 1000000) (hly : ys.length ≤ 1000000) :
    Calls Try.prog 25 #[cv (.slice a xs.length n) (.slice b ys.length m), dv d] w fun e w' => e = .returned (.bool (hasC (xs, ys) d)) ∧ Below w.heap.size w w' := by
  have H1 := Lib.hid (fun w h => E.has_ref xs d a n w h (by omega))
  have H2 := Lib.hid (fun w => E.valid_lays_ref d w)
  have H3 := Lib.hid (fun w h => D.has_ref ys d b m w h (by omega))
  have HE : Hid (hasC (xs, ys) d = (validR d && (E.hasV xs d || decide (d ∈ ys)))) := rfl
  have HB := Lib.hid (bel_box w (cbox (.slice a xs.length n) (.slice b ys.length m)))
  have HT := Lib.hid (two_new w (.slice a xs.length n) (.slice b ys.length m))
  have HX := Lib.hid (hx.keep HB.out)
  have HY := Lib.hid (hy.keep HB.out)
  have HHv : Hid (E.hasV xs d = true → validR d = true) := fun h => (hasV_iff.1 h).1
  clear hx hy hlx hly
  generalize hasC (xs, ys) d = R at *
  generalize E.hasV xs d = v1 at *
  generalize validR d = v2 at *
  generalize decide (d ∈ ys) = v3 at *
  obtain ⟨d1, d2⟩ := d
  go_enter Try.func25, Try.ntmps25
  go_wp2_with fail
  have hsz : (w.alloc (cbox (.slice a xs.length n) (.slice b ys.length m))).heap.size = w.heap.size + 1 := by simp
  generalize w.alloc (cbox (.slice a xs.length n) (.slice b ys.length m)) = w1 at *
  have hb := bel_box w1 (.cells #[.int .i64 d1, .int .i64 d2] 38)
  have HK : Hid (Bd w1.heap.size d1 d2 (w1.alloc (.cells #[.int .i64 d1, .int .i64 d2] 38))) := by refine ⟨?_, ?_⟩ <;> go_simp
  rw [hsz] at HK
  replace HT := Lib.hid (HT.out.keep hb)
  replace HX := Lib.hid (HX.out.keep hb)
  replace HY := Lib.hid (HY.out.keep hb)
  replace HB := bel_tr HB hb
  clear hb hsz
  generalize w1.alloc (.cells #[.int .i64 d1, .int .i64 d2] 38) = w2 at *
  have k0 := HT.out.1
  have k1 := HT.out.2
  have k2 := HK.out.1
  have k3 := HK.out.2
  go_wp2_with fail
  refine (H2.out _).mono ?_
  rintro e w3 ⟨rfl, hb⟩
  replace hb := hb.bel
  replace HT := Lib.hid (HT.out.keep hb)
  replace HX := Lib.hid (HX.out.keep hb)
  replace HY := Lib.hid (HY.out.keep hb)
  replace HK := Lib.hid (HK.out.keep hb)
  replace HB := bel_tr HB hb
  clear hb k0 k1 k2 k3
  have k0 := HT.out.1
  have k1 := HT.out.2
  have k2 := HK.out.1
  have k3 := HK.out.2
  rcases v2 with _ | _
  · have hE := HE.out
    try simp at hE
    subst hE
    clear HE
    go_wp2_with fail
    go_ret
    exact ⟨by simp, HB.out⟩
  · go_wp2_with fail
    refine (H1.out _ HX.out).mono ?_
    rintro e w3 ⟨rfl, hb⟩
    replace hb := hb.bel
    replace HT := Lib.hid (HT.out.keep hb)
    replace HX := Lib.hid (HX.out.keep hb)
    replace HY := Lib.hid (HY.out.keep hb)
    replace HK := Lib.hid (HK.out.keep hb)
    replace HB := bel_tr HB hb
    clear hb k0 k1 k2 k3
    have k0 := HT.out.1
    have k1 := HT.out.2
    have k2 := HK.out.1
    have k3 := HK.out.2
    rcases v1 with _ | _
    · go_wp2_with fail
      refine (H3.out _ HY.out).mono ?_
      rintro e w3 ⟨rfl, hb⟩
      replace HT := Lib.hid (HT.out.keep hb)
      replace HX := Lib.hid (HX.out.keep hb)
      replace HY := Lib.hid (HY.out.keep hb)
      replace HK := Lib.hid (HK.out.keep hb)
      replace HB := bel_tr HB hb
      clear hb k0 k1 k2 k3
      have k0 := HT.out.1
      have k1 := HT.out.2
      have k2 := HK.out.1
      have k3 := HK.out.2
      have hE := HE.out
      try simp at hE
      subst hE
      clear HE
      go_wp2_with fail
      go_ret
      exact ⟨by simp, HB.out⟩
    · have hE := HE.out
      try simp at hE
      subst hE
      clear HE
      go_wp2_with fail
      go_ret
      exact ⟨by simp, HB.out⟩
end Go.Proofs.Ytefnoajkdhgonaa.F
end

/-
  Whether all dots are valid; which contexts are: the reference's.
-/
section
namespace Go.Proofs.Ytefnoajkdhgonaa.F
set_option linter.unusedVariables false
open Go.RowKit V Go.Sort D

theorem all_here {l : List Dt} {k : Nat} {p : Dt → Bool} (hk : k < l.length) (h : p l[k] = false) : l.all p = false := by
  rw [List.all_eq_false]; exact ⟨l[k], List.getElem_mem hk, by rw [h]; simp⟩
theorem all_away {l : List Dt} {p : Dt → Bool} (h : ∀ j (hj : j < l.length), p l[j] = true) : l.all p = true := by
  rw [List.all_eq_true]
  intro x hx
  obtain ⟨j, hj, rfl⟩ := List.mem_iff_getElem.1 hx
  exact h j hj
set_option maxRecDepth 100000 in
set_option maxHeartbeats 1000000 in
theorem dots_ref (l : List Dt) (a : Option Addr) (c : Nat) (w : World) (hx : RowD w a l) (hlx : l.length ≤ 1000000) :
    Calls Try.prog 29 #[.slice a l.length c] w fun e w' => e = .returned (.bool (l.all validR)) ∧ Below w.heap.size w w' := by
  have HX := Lib.hid hx
  have hli : (l.length : Int) ≤ 1000000 := by omega
  have HVr := Lib.hid (fun d w => E.valid_lays_ref d w)
  clear hx hlx
  go_enter Try.func29, Try.ntmps29
  go_wp2_with fail
  go_loopw [3] (fun i wr => ∃ k : Nat, k ≤ l.length ∧ i = .int .i64 (k : Int) ∧ Hid (Below w.heap.size w wr) ∧ Hid (∀ j (hj : j < l.length), j < k → validR l[j] = true)) (fun i _ => l.length - (intOf i).toNat)
  case atStart => exact ⟨0, Nat.zero_le _, rfl, Below.refl _ _, fun j _ h => by omega⟩
  case round =>
    obtain ⟨k, hk, rfl, hh, HV⟩ := hrel
    by_cases hlt : k < l.length
    · obtain ⟨b1, o1, rfl, p0, p1⟩ := HX.out.get hh.out k hlt
      have HT := Lib.hid (all_here (p := validR) hlt)
      obtain ⟨q, hq⟩ : ∃ q, q = l[k] := ⟨_, rfl⟩
      rw [← hq] at p0 p1 HT
      have HQe := Lib.hid hq
      have hi1 : (k : Int) < (l.length : Int) := by omega
      clear hq
      have HQ := Lib.hid (HVr.out q wr)
      go_wp2_with fail
      refine HQ.out.mono ?_
      rintro e w3 ⟨rfl, hl⟩
      have HB := bel_tr hh hl.bel
      clear hl HQ
      rcases hpq : validR q with _ | _
      · have hT := HT.out hpq
        go_wp2_with fail
        go_ret
        exact ⟨by rw [hT]; rfl, HB.out⟩
      · go_wp2_with fail
        go_roundw
        case rel =>
          refine ⟨k + 1, by omega, by go_num, HB, fun j hj hjk => ?_⟩
          by_cases hjk2 : j = k
          · subst hjk2; rw [← HQe.out]; exact hpq
          · exact HV.out j hj (by omega)
        case measure => simp [intOf]; omega
    · obtain rfl : k = l.length := by omega
      have HN : Hid (l.all validR = true) := all_away fun j hj => HV.out j hj hj
      have hend : ¬ (l.length : Int) < (l.length : Int) := by omega
      go_wp2_with fail
      go_ret
      exact ⟨by rw [HN.out]; rfl, hh.out⟩

set_option maxRecDepth 100000 in
set_option maxHeartbeats 1000000 in
theorem valid_ref (xs ys : List Dt) (a b : Option Addr) (n m : Nat) (w : World) (hx : RowD w a xs) (hy : RowD w b ys) (hlx : xs.length ≤ 1000000) (hly : ys.length ≤ 1000000) :
    Calls Try.prog 12 #[cv (.slice a xs.length n) (.slice b ys.length m)] w fun e w' => e = .returned (.bool (validC (xs, ys))) ∧ Below w.heap.size w w' := by
  have HV := Lib.hid (fun w h => E.validV_ref xs a n w h (by omega))
  have HS := Lib.hid (fun w h => isSet_ref ys b m w h (by omega))
  have HC := Lib.hid (fun w h => dots_ref ys b m w h hly)
  have HE : Hid (validC (xs, ys) = (E.validV xs && isSetR ys && ys.all validR)) := rfl
  have HB := Lib.hid (bel_box w (cbox (.slice a xs.length n) (.slice b ys.length m)))
  have HT := Lib.hid (two_new w (.slice a xs.length n) (.slice b ys.length m))
  have HX := Lib.hid (hx.keep HB.out)
  have HY := Lib.hid (hy.keep HB.out)
  clear hx hy hlx hly
  generalize validC (xs, ys) = R at *
  generalize E.validV xs = v1 at *
  generalize isSetR ys = v2 at *
  generalize ys.all validR = v3 at *
  go_enter Try.func12, Try.ntmps12
  go_wp2_with fail
  generalize w.alloc (cbox (.slice a xs.length n) (.slice b ys.length m)) = w1 at *
  have k0 := HT.out.1
  have k1 := HT.out.2
  go_wp2_with fail
  refine (HV.out _ HX.out).mono ?_
  rintro e w2 ⟨rfl, hl⟩
  have hb := hl.bel
  replace HT := Lib.hid (HT.out.keep hb)
  replace HY := Lib.hid (HY.out.keep hb)
  replace HB := bel_tr HB hb
  clear hl hb HV k0 k1
  have k1 := HT.out.2
  rcases v1 with _ | _
  · have hE := HE.out
    subst hE
    clear HE
    go_wp2_with fail
    go_ret
    exact ⟨rfl, HB.out⟩
  · go_wp2_with fail
    refine (HS.out _ HY.out).mono ?_
    rintro e w3 ⟨rfl, hb⟩
    replace HT := Lib.hid (HT.out.keep hb)
    replace HY := Lib.hid (HY.out.keep hb)
    replace HB := bel_tr HB hb
    clear hb HS k1
    have k1 := HT.out.2
    rcases v2 with _ | _
    · have hE := HE.out
      subst hE
      clear HE
      go_wp2_with fail
      go_ret
      exact ⟨rfl, HB.out⟩
    · go_wp2_with fail
      refine (HC.out _ HY.out).mono ?_
      rintro e w4 ⟨rfl, hb⟩
      replace HB := bel_tr HB hb
      clear hb HC k1
      have hE := HE.out
      subst hE
      clear HE
      go_wp2_with fail
      go_ret
      exact ⟨by simp, HB.out⟩
end Go.Proofs.Ytefnoajkdhgonaa.F
end
