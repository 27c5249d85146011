/-
  Context, Dead, Time of the program.
-/
import Derived.Test.YtgopkffgljiblaaGreatQKil
import Derived.Test.YtgopkffgljiblaaGreatMFMis

section
namespace Go.Proofs.YtgopkffgljiblaaGreat.Qs
set_option linter.unusedVariables false
open Go.RowKit V Go.Sort D Nd

theorem enters_every : ∀ args w, (callFunc 82 args).run Tryz.prog w = .ok (.enter 82 args) w := enters_of Tryz.func82 (by kernel_rfl) rfl
theorem enters_dead : ∀ args w, (callFunc 83 args).run Tryz.prog w = .ok (.enter 83 args) w := enters_of Tryz.func83 (by kernel_rfl) rfl
set_option maxRecDepth 100000 in
theorem every_any (n : Nt) (w : World) : Calls Tryz.prog 82 #[nv n] w fun e w' => e = .returned (.bool true) ∧ Below w.heap.size w w' := by
  go_enter Tryz.func82, Tryz.ntmps82
  go_wp2_with fail
  go_ret
  exact ⟨rfl, bel_box _ _⟩
theorem ask_every (w : World) (l : List Nt) : AskN w 82 #[] l (fun _ => true) := fun W _ n _ => every_any n W
theorem ask_dead (w : World) (l : List Nt) : AskN w 83 #[] l (fun n => deadN n) := fun W _ n _ => (dead_any n W).mono fun _ _ h => ⟨h.1, h.2.bel⟩
/-- The dots of the chosen nodes. -/
def pickS (l : List Nt) (p : Nt → Bool) : List Dt := (l.filter p).map (·.1)
theorem pick_step {l : List Nt} {p : Nt → Bool} {k : Nat} (hk : k < l.length) : pickS (l.take (k + 1)) p = if p l[k] = true then pickS (l.take k) p ++ [l[k].1] else pickS (l.take k) p := by
  have e : l.take (k + 1) = l.take k ++ [l[k]] := by rw [List.take_add_one, List.getElem?_eq_getElem hk]; rfl
  unfold pickS
  rw [e, List.filter_append, List.filter_cons]
  split
  · simp
  · simp
theorem pick_len (l : List Nt) (p : Nt → Bool) : (pickS l p).length ≤ l.length := by
  unfold pickS
  rw [List.length_map]
  exact List.length_filter_le _ _
def ctxP (l : List Nt) (p : Nt → Bool) : F.Ct × Int := if validS l = true then F.madeB (pickS l p) else (([], []), 2)

theorem wc_gb {w w' : World} {g : Nat} {r : Option Nat} (h : F.Wc w g) (hg : w.grownBy w' r) (hne : some g ≠ r) : F.Wc w' g := fun i hi => by
  obtain ⟨⟨v, hv⟩, hf⟩ := h i hi
  have e := hg.block g h.lt hne
  exact ⟨⟨v, (World.cell?_of_block (a := ⟨g, i, none⟩) e).trans hv⟩, (World.frozen?_of_block (a := ⟨g, i, none⟩) e).trans hf⟩
set_option maxRecDepth 100000 in
set_option maxHeartbeats 4000000 in
theorem ctx_of (l : List Nt) (p : Nt → Bool) (g : Nat) (a : Option Addr) (c : Nat) (w : World) (eg : ∀ args w, (callFunc g args).run Tryz.prog w = .ok (.enter g args) w) (hp : AskN w g #[] l p) (hx : RowN w a l) (hlx : l.length ≤ 300000) :
    Calls Tryz.prog 81 #[.slice a l.length c, .func (.func g) #[] #[]] w fun e w' => ∃ x y, e = .returned (.tuple #[F.cv x y, .int .i64 (ctxP l p).2]) ∧ F.Ov w' w.heap.size x y (ctxP l p).1 ∧ Below w.heap.size w w' := by
  have HE : Hid ((validS l = true → ctxP l p = F.madeB (pickS l p)) ∧ (validS l = false → ctxP l p = (([], []), 2))) := ⟨fun h => if_pos h, fun h => if_neg (by rw [h]; simp)⟩
  have HV := Lib.hid (fun w h => validS_any l a c w h (by omega))
  have HM := Lib.hid (fun A cv w (h : RowD w A (pickS l p)) => F.of_any6 (pickS l p) A cv w h (by have := pick_len l p; omega))
  have HX := Lib.hid hx
  have HP := Lib.hid hp
  have HLn := Lib.hid hlx
  have hli : (l.length : Int) ≤ 300000 := by omega
  have hb0 := bel_box w (F.cbox (.slice none 0 0) (.slice none 0 0))
  have HW0 := Lib.hid (F.wc_new w)
  have HB0 := Lib.hid hb0
  clear hp hx hlx hb0
  generalize ctxP l p = R at *
  generalize validS l = va at *
  go_enter Tryz.func81, Tryz.ntmps81
  go_wp2_with fail
  generalize w.alloc (F.cbox (.slice none 0 0) (.slice none 0 0)) = w1 at *
  refine (HV.out _ (HX.out.keep HB0.out)).mono ?_
  rintro e w2 ⟨rfl, hb⟩
  have HB := bel_tr HB0 hb
  have HW := Lib.hid (HW0.out.keep hb)
  have HB0 := Lib.hid HB
  clear hb HV HW0
  rcases va with _ | _
  · have HE2 := Lib.hid (HE.out.2 (by first | trivial | rfl))
    obtain ⟨⟨u0, r0⟩, r1⟩ := HW.out 0 (by omega)
    obtain ⟨⟨u1, r2⟩, r3⟩ := HW.out 1 (by omega)
    have HP2 := Lib.hid (F.put_two (x := .slice none 0 0) (y := .slice none 0 0) HW.out)
    have HB4 := Lib.hid (F.below_put (g := w.heap.size) (x := .slice none 0 0) (y := .slice none 0 0) HB.out (Nat.le_refl _))
    go_wp2_with fail
    generalize (w2.setCell ⟨w.heap.size, 0, none⟩ (.slice none 0 0)).setCell ⟨w.heap.size, 1, none⟩ (.slice none 0 0) = W at *
    have q0 := HP2.out.1
    have q1 := HP2.out.2
    (try simp only [Exit.inBlock, Exit.then])
    refine bodyPost_ret (v := .tuple #[F.cv (.slice none 0 0) (.slice none 0 0), .int .i64 2]) (by rw [results_cell_tmp (fn := Tryz.f81) (p := 4) (u := 5) (ty := 25) rfl]; go_simp) rfl ?_
    rw [HE2.out]
    exact ⟨_, _, rfl, F.Ov.nil _ _, HB4.out⟩
  · have HE2 := Lib.hid (HE.out.1 (by first | trivial | rfl))
    have hWl := HW.out.lt
    have HWl := Lib.hid hWl
    clear hWl
    go_wp2_with fail
    go_loopw [6, 8, 15] (fun v _ i wr => ∃ k : Nat, k ≤ l.length ∧ i = .int .i64 (k : Int) ∧ Hid (Below w.heap.size w wr) ∧ Hid (w2.heap.size ≤ wr.heap.size) ∧ Hid (F.Wc wr w.heap.size) ∧ Hid (OD wr w2.heap.size D.E v (pickS (l.take k) p))) (fun _ _ i _ => l.length - (intOf i).toNat)
    case atStart => exact ⟨0, Nat.zero_le _, rfl, HB, Nat.le_refl _, HW, OD.nil _ _ _⟩
    case round =>
      obtain ⟨k, hk, rfl, hh, HS, HW, HO⟩ := hrel
      by_cases hlt : k < l.length
      · have hi0 : (k : Int) < (l.length : Int) := by omega
        obtain ⟨b1, o1, rfl, hna⟩ := na_of (HX.out.keep hh.out) k hlt
        have HSt := Lib.hid (pick_step (p := p) hlt)
        have HMe := Lib.hid (List.getElem_mem hlt)
        obtain ⟨q, hq⟩ : ∃ q, q = l[k] := ⟨_, rfl⟩
        rw [← hq] at hna HSt HMe
        clear hq
        have hb0 := bel_box wr (.cells (nc q) 51)
        have HB1 := bel_tr hh hb0
        have HW1 := Lib.hid (HW.out.keep hb0)
        have HO1 := Lib.hid (HO.out.below hb0)
        have HS1 := Lib.hid (Nat.le_trans HS.out hb0.size)
        have HQ := Lib.hid (HP.out _ HB1.out q HMe.out)
        have HPk : Hid ((pickS (l.take k) p).length ≤ 300000) := by
          have h1 := pick_len (l.take k) p
          rw [List.length_take] at h1
          have h2 := HLn.out
          show _ ≤ _
          omega
        have hbx := Nb.new wr q
        clear hb0
        rcases hpq : p q with _ | _
        · rw [hpq] at HQ
          have HSt2 : Hid (pickS (l.take (k + 1)) p = pickS (l.take k) p) := by show _ = _; rw [HSt.out, if_neg (by rw [hpq]; simp)]
          rw [← HSt2.out] at HO1
          clear hpq HSt hbx
          obtain ⟨n0, n1, n2, n3, n4, n5⟩ := hna
          obtain ⟨⟨q1, q2⟩, ⟨q3, q4⟩, q5, q6⟩ := q
          go_wp2_with fail
          refine HQ.out.mono ?_
          rintro e w4 ⟨rfl, hb⟩
          replace HB1 := bel_tr HB1 hb
          replace HW1 := Lib.hid (HW1.out.keep hb)
          replace HO1 := Lib.hid (HO1.out.below hb)
          replace HS1 := Lib.hid (Nat.le_trans HS1.out hb.size)
          clear hb HQ n0 n1 n2 n3 n4 n5
          go_wp2_with fail
          go_roundw
          case rel => exact ⟨k + 1, by omega, by go_num, HB1, HS1, HW1, HO1⟩
          case measure => simp [intOf]; omega
        · rw [hpq] at HQ
          have HSt2 : Hid (pickS (l.take (k + 1)) p = pickS (l.take k) p ++ [q.1]) := by show _ = _; rw [HSt.out, if_pos hpq]
          clear hpq HSt
          obtain ⟨n0, n1, n2, n3, n4, n5⟩ := hna
          obtain ⟨⟨q1, q2⟩, ⟨q3, q4⟩, q5, q6⟩ := q
          go_wp2_with fail
          refine HQ.out.mono ?_
          rintro e w4 ⟨rfl, hb⟩
          replace HB1 := bel_tr HB1 hb
          replace HW1 := Lib.hid (HW1.out.keep hb)
          replace HO1 := Lib.hid (HO1.out.below hb)
          replace HS1 := Lib.hid (Nat.le_trans HS1.out hb.size)
          have HN := Lib.hid (hbx.keep hb)
          clear hb HQ n0 n1 n2 n3 n4 n5 hbx
          obtain ⟨n0, n1, n2, n3, n4, n5⟩ := HN.out
          have hb2 := bel_box w4 (.cells #[.int .i64 q1, .int .i64 q2] 48)
          have HO2 := Lib.hid (HO1.out.below hb2)
          have HB2 := bel_tr HB1 hb2
          have HW2 := Lib.hid (HW1.out.keep hb2)
          have HS2 := Lib.hid (Nat.le_trans HS1.out hb2.size)
          have HLt : Hid (RowD (w4.alloc (.cells #[.int .i64 q1, .int .i64 q2] 48)) (some ⟨w4.heap.size, 0, none⟩) [(q1, q2)]) := lit_one w4 (q1, q2) _
          clear hb2
          go_wp2_with (at_builtin; refine wpList_appD rfl _ _ _ rfl Tryz.underlying22 infoD _ _ rfl HO2.out (some ⟨w4.heap.size, 0, none⟩) [(q1, q2)] 1 rfl HLt.out (fun h => by cases h) (by have := HPk.out; simp; omega) HS2.out ?_)
          intro v7 w7 ho hg _
          have HO7 : Hid (OD w7 w2.heap.size D.E v7 (pickS (l.take (k + 1)) p)) := by rw [HSt2.out]; exact ho
          have HB7 := Lib.hid (HB2.out.grown hg HB2.out.size (fun x hx => Nat.le_trans HB0.out.size (HO2.out.lt x hx).1))
          have HW7 := Lib.hid (wc_gb HW2.out hg (fun e => by have := (HO2.out.lt _ e.symm).1; have := HWl.out; omega))
          have HS7 := Lib.hid (Nat.le_trans HS2.out hg.size)
          clear ho hg n0 n1 n2 n3 n4 n5
          go_wp2_with fail
          go_roundw
          case rel => exact ⟨k + 1, by omega, by go_num, HB7, HS7, HW7, HO7⟩
          case measure => simp [intOf]; omega
      · obtain rfl : k = l.length := by omega
        have hend : ¬ (l.length : Int) < (l.length : Int) := by omega
        rw [List.take_length] at HO
        obtain ⟨A, cv, rfl, hr, -⟩ := HO.out.row
        have HM2 := Lib.hid (HM.out A cv wr hr)
        have hl := HW.out.lt
        clear hr HM
        generalize F.madeB (pickS l p) = M at *
        generalize (pickS l p).length = n5 at *
        go_wp2_with fail
        refine HM2.out.mono ?_
        rintro e w3 ⟨x, y, rfl, ho, hb⟩
        have HO3 := Lib.hid ho
        have HBs := Lib.hid hh.out.size
        replace HW := Lib.hid (HW.out.keep hb)
        have HB3 := bel_tr hh hb
        obtain ⟨⟨u0, r0⟩, r1⟩ := HW.out 0 (by omega)
        obtain ⟨⟨u1, r2⟩, r3⟩ := HW.out 1 (by omega)
        obtain ⟨a6, n6, b6, m6, rfl, rfl⟩ := HO3.out.shape
        have HP2 := Lib.hid (F.put_two (x := .slice a6 M.1.1.length n6) (y := .slice b6 M.1.2.length m6) HW.out)
        have HO2 := Lib.hid ((HO3.out.put (g := w.heap.size) (u := .slice a6 M.1.1.length n6) (v := .slice b6 M.1.2.length m6) hl).mono HBs.out)
        have HB4 := Lib.hid (F.below_put (g := w.heap.size) (x := .slice a6 M.1.1.length n6) (y := .slice b6 M.1.2.length m6) HB3.out (Nat.le_refl _))
        clear ho hb hl HO HO3 HM2
        go_wp2_with fail
        generalize (w3.setCell ⟨w.heap.size, 0, none⟩ (.slice a6 M.1.1.length n6)).setCell ⟨w.heap.size, 1, none⟩ (.slice b6 M.1.2.length m6) = W at *
        have q0 := HP2.out.1
        have q1 := HP2.out.2
        (try simp only [Exit.inBlock, Exit.then])
        refine bodyPost_ret (v := .tuple #[F.cv (.slice a6 M.1.1.length n6) (.slice b6 M.1.2.length m6), .int .i64 M.2]) (by rw [results_cell_tmp (fn := Tryz.f81) (p := 4) (u := 5) (ty := 25) rfl]; go_simp) rfl ?_
        rw [HE2.out]
        exact ⟨_, _, rfl, HO2.out, HB4.out⟩
end Go.Proofs.YtgopkffgljiblaaGreat.Qs
end

/-
  Context, Dead and Time of the program.
-/
section
namespace Go.Proofs.YtgopkffgljiblaaGreat.Qs
set_option linter.unusedVariables false
open Go.RowKit V Go.Sort D Nd

def chs (dead : Bool) (n : Nt) : Bool := !dead || deadN n
set_option maxRecDepth 100000 in
set_option maxHeartbeats 4000000 in
theorem context_prog (l : List Nt) (a : Option Addr) (c : Nat) (w : World) (hx : RowN w a l) (hlx : l.length ≤ 300000) :
    Calls Tryz.prog 60 #[.slice a l.length c] w fun e w' => ∃ x y, e = .returned (.tuple #[F.cv x y, .int .i64 (ctxP l (chs false)).2]) ∧ F.Ov w' w.heap.size x y (ctxP l (chs false)).1 ∧ Below w.heap.size w w' := by
  have HC := Lib.hid (fun w h => ctx_of l (chs false) 82 a c w enters_every (ask_every w l) h hlx)
  have HW := Lib.hid (F.wc_new w)
  have HB := Lib.hid (bel_box w (F.cbox (.slice none 0 0) (.slice none 0 0)))
  have HX := Lib.hid (hx.keep HB.out)
  clear hx hlx
  generalize ctxP l (chs false) = R at *
  go_enter Tryz.func60, Tryz.ntmps60
  go_wp2_with fail
  generalize w.alloc (F.cbox (.slice none 0 0) (.slice none 0 0)) = w1 at *
  have hl := HW.out.lt
  refine (HC.out _ HX.out).mono ?_
  rintro e w3 ⟨x, y, rfl, ho, hb⟩
  have HO := Lib.hid ho
  have HBs := Lib.hid HB.out.size
  replace HW := Lib.hid (HW.out.keep hb)
  have HB3 := bel_tr HB hb
  obtain ⟨⟨u0, r0⟩, r1⟩ := HW.out 0 (by omega)
  obtain ⟨⟨u1, r2⟩, r3⟩ := HW.out 1 (by omega)
  obtain ⟨a6, n6, b6, m6, rfl, rfl⟩ := HO.out.shape
  have HP := Lib.hid (F.put_two (x := .slice a6 R.1.1.length n6) (y := .slice b6 R.1.2.length m6) HW.out)
  have HO2 := Lib.hid ((HO.out.put (g := w.heap.size) (u := .slice a6 R.1.1.length n6) (v := .slice b6 R.1.2.length m6) hl).mono HBs.out)
  have HB4 := Lib.hid (F.below_put (g := w.heap.size) (x := .slice a6 R.1.1.length n6) (y := .slice b6 R.1.2.length m6) HB3.out (Nat.le_refl _))
  clear ho hb HC hl HO
  go_wp2_with fail
  generalize (w3.setCell ⟨w.heap.size, 0, none⟩ (.slice a6 R.1.1.length n6)).setCell ⟨w.heap.size, 1, none⟩ (.slice b6 R.1.2.length m6) = W at *
  have q0 := HP.out.1
  have q1 := HP.out.2
  (try simp only [Exit.inBlock, Exit.then])
  refine bodyPost_ret (v := .tuple #[F.cv (.slice a6 R.1.1.length n6) (.slice b6 R.1.2.length m6), .int .i64 R.2]) (by rw [results_cell_tmp (fn := Tryz.f60) (p := 2) (u := 3) (ty := 25) rfl]; go_simp) rfl ?_
  exact ⟨_, _, rfl, HO2.out, HB4.out⟩
set_option maxRecDepth 100000 in
set_option maxHeartbeats 4000000 in
theorem dead_prog (l : List Nt) (a : Option Addr) (c : Nat) (w : World) (hx : RowN w a l) (hlx : l.length ≤ 300000) :
    Calls Tryz.prog 61 #[.slice a l.length c] w fun e w' => ∃ x y, e = .returned (.tuple #[F.cv x y, .int .i64 (ctxP l (chs true)).2]) ∧ F.Ov w' w.heap.size x y (ctxP l (chs true)).1 ∧ Below w.heap.size w w' := by
  have HC := Lib.hid (fun w h => ctx_of l (chs true) 83 a c w enters_dead (ask_dead w l) h hlx)
  have HW := Lib.hid (F.wc_new w)
  have HB := Lib.hid (bel_box w (F.cbox (.slice none 0 0) (.slice none 0 0)))
  have HX := Lib.hid (hx.keep HB.out)
  clear hx hlx
  generalize ctxP l (chs true) = R at *
  go_enter Tryz.func61, Tryz.ntmps61
  go_wp2_with fail
  generalize w.alloc (F.cbox (.slice none 0 0) (.slice none 0 0)) = w1 at *
  have hl := HW.out.lt
  refine (HC.out _ HX.out).mono ?_
  rintro e w3 ⟨x, y, rfl, ho, hb⟩
  have HO := Lib.hid ho
  have HBs := Lib.hid HB.out.size
  replace HW := Lib.hid (HW.out.keep hb)
  have HB3 := bel_tr HB hb
  obtain ⟨⟨u0, r0⟩, r1⟩ := HW.out 0 (by omega)
  obtain ⟨⟨u1, r2⟩, r3⟩ := HW.out 1 (by omega)
  obtain ⟨a6, n6, b6, m6, rfl, rfl⟩ := HO.out.shape
  have HP := Lib.hid (F.put_two (x := .slice a6 R.1.1.length n6) (y := .slice b6 R.1.2.length m6) HW.out)
  have HO2 := Lib.hid ((HO.out.put (g := w.heap.size) (u := .slice a6 R.1.1.length n6) (v := .slice b6 R.1.2.length m6) hl).mono HBs.out)
  have HB4 := Lib.hid (F.below_put (g := w.heap.size) (x := .slice a6 R.1.1.length n6) (y := .slice b6 R.1.2.length m6) HB3.out (Nat.le_refl _))
  clear ho hb HC hl HO
  go_wp2_with fail
  generalize (w3.setCell ⟨w.heap.size, 0, none⟩ (.slice a6 R.1.1.length n6)).setCell ⟨w.heap.size, 1, none⟩ (.slice b6 R.1.2.length m6) = W at *
  have q0 := HP.out.1
  have q1 := HP.out.2
  (try simp only [Exit.inBlock, Exit.then])
  refine bodyPost_ret (v := .tuple #[F.cv (.slice a6 R.1.1.length n6) (.slice b6 R.1.2.length m6), .int .i64 R.2]) (by rw [results_cell_tmp (fn := Tryz.f61) (p := 2) (u := 3) (ty := 25) rfl]; go_simp) rfl ?_
  exact ⟨_, _, rfl, HO2.out, HB4.out⟩
def timeP (l : List Nt) : Int × Int := if validS l = true then (timeS l, 0) else (0, 2)
end Go.Proofs.YtgopkffgljiblaaGreat.Qs
end
