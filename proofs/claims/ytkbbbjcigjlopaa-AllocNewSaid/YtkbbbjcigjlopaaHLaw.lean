/-
  The statements' own helpers: each returns true where the results are those of the plain functions.
-/
import Derived.Test.YtkbbbjcigjlopaaHRefT
import Derived.Shelf.SlSortCmp.QuietGrown
namespace Go.Proofs.Ytkbbbjcigjlopaa.H
set_option linter.unusedVariables false
open Go.RowKit V Go.Sort D

set_option maxRecDepth 100000 in
theorem at_any (a b : Int) (w : World) : Calls Try.prog 21 #[.int .i64 a, .int .i64 b] w fun e w' => e = .returned (dv (a, b)) ∧ Lays w w' := by
  go_enter Try.func21, Try.ntmps21
  go_wp2_with fail
  (try simp only [Exit.inBlock, Exit.then])
  refine bodyPost_ret (v := dv (a, b)) (by rw [results_cell1 (fn := Try.f21) (p := 4) (ty := 39) rfl]; go_simp) rfl ?_
  exact ⟨rfl, lays_box _ _⟩
theorem cells_new (w : World) (d : Dt) (t : TypeId) : (w.alloc (.cells #[.int .i64 d.1, .int .i64 d.2] t)).cell? ⟨w.heap.size, 0, none⟩ = some (.int .i64 d.1) ∧ (w.alloc (.cells #[.int .i64 d.1, .int .i64 d.2] t)).cell? ⟨w.heap.size, 1, none⟩ = some (.int .i64 d.2) := by
  refine ⟨?_, ?_⟩ <;> go_simp
/-- Next, and the law's look at what it returns. -/
theorem next_is (a : Option Addr) (d : Dt) (no : Int) (R : World → Prop) (row : Option Nat) (w : World) (hR : ∀ w1 w2, R w1 → Below w1.heap.size w1 w2 → R w2) (hrow : ∀ k, row = some k → k < w.heap.size)
    (h : Calls Try.prog 15 #[.pointer a] (w.alloc (.cells #[.int .i64 d.1, .int .i64 d.2] 39)) fun e w' => e = .returned (.tuple #[dv d, .int .i64 no]) ∧ R w' ∧ (w.alloc (.cells #[.int .i64 d.1, .int .i64 d.2] 39)).grownBy w' row) :
    Calls Try.prog 22 #[.pointer a, dv d, .int .i64 no] w fun e w' => e = .returned (.bool true) ∧ R w' ∧ w.grownBy w' row := by
  have HN := Lib.hid h
  have HR := Lib.hid hR
  have HW := Lib.hid hrow
  have hd := fun w => eql_dot d d w
  rw [show decide (d = d) = true by simp] at hd
  have e1 : (no == no) = true := by simp
  obtain ⟨c0, c1⟩ := cells_new w d 39
  clear h hR hrow
  obtain ⟨d1, d2⟩ := d
  simp only at *
  go_enter Try.func22, Try.ntmps22
  go_wp2_with fail
  refine HN.out.mono ?_
  rintro e w1 ⟨rfl, hR1, hg⟩
  have eb : w1.heap[w.heap.size]? = (w.alloc (.cells #[.int .i64 d1, .int .i64 d2] 39)).heap[w.heap.size]? := hg.block _ (by simp) (fun h => by have := HW.out _ h.symm; omega)
  replace c0 : w1.cell? ⟨w.heap.size, 0, none⟩ = some (.int .i64 d1) := (World.cell?_of_block eb).trans c0
  replace c1 : w1.cell? ⟨w.heap.size, 1, none⟩ = some (.int .i64 d2) := (World.cell?_of_block eb).trans c1
  have hlt := lt_of_cell c0
  have HR1 := Lib.hid hR1
  have HG := Lib.hid (gb_trans (gb_alloc w _ row) hg)
  clear hR1 hg eb HN
  go_wp2_with fail
  go_ret
  exact ⟨rfl, HR.out _ _ HR1.out (bel_box _ _), gb_trans HG.out (gb_alloc _ _ _)⟩
theorem am_stable (g : Nat) (x : Al) : ∀ w1 w2, Am w1 g x → Below w1.heap.size w1 w2 → Am w2 g x := fun _ _ h hb => h.keep hb
theorem sa_stable (a : Option Addr) (x : Al) : ∀ w1 w2, Sa w1 a x → Below w1.heap.size w1 w2 → Sa w2 a x := fun _ _ h hb => h.keep hb
theorem next_am (g : Nat) (x : Al) (w : World) (h : Am w g x) : Calls Try.prog 22 #[.pointer (some ⟨g, 0, none⟩), dv (headD (takeA x 1).2.1), .int .i64 (takeA x 1).2.2] w fun e w' => e = .returned (.bool true) ∧ Am w' g (takeA x 1).1 ∧ w.grownBy w' (some g) :=
  next_is _ _ _ (fun w' => Am w' g (takeA x 1).1) (some g) w (am_stable _ _) (fun k hk => by cases hk; exact h.1.lt) (next_all g x _ (h.keep (bel_box _ _)))
theorem gb_none {w w' : World} (h : w.grownBy w' none) : Below w.heap.size w w' := ⟨h.os, h.tape, h.output, h.size, fun i hi => h.block i hi (by simp)⟩
theorem next_sa (a : Option Addr) (l e : Int) (w : World) (h : Sa w a ⟨0, l, e⟩) : Calls Try.prog 22 #[.pointer a, dv (0, 0), .int .i64 1] w fun x w' => x = .returned (.bool true) ∧ Below w.heap.size w w' :=
  (next_is a (0, 0) 1 (fun _ => True) none w (fun _ _ _ _ => trivial) (fun k hk => by cases hk) ((next_yes a l e _ (h.keep (bel_box _ _))).mono fun _ _ ⟨h1, h2⟩ => ⟨h1, trivial, gb_below h2 _⟩)).mono fun _ _ ⟨h1, _, h2⟩ => ⟨h1, gb_none h2⟩

/-- Take, and the law's look at what it returns. -/
theorem takes_is (a : Option Addr) (n no : Int) (l : List Dt) (p : Option Addr) (c : Nat) (R : World → Prop) (row : Option Nat) (w : World) (hl : RowD w p l) (hR : ∀ w1 w2, R w1 → Below w1.heap.size w1 w2 → R w2) (hrow : ∀ k, row = some k → ∀ b o, p = some ⟨b, o, none⟩ → b ≠ k) (hlen : l.length ≤ 1000000)
    (h : Calls Try.prog 18 #[.pointer a, .int .i64 n] w fun e w' => ∃ q d, e = .returned (.tuple #[.slice q l.length d, .int .i64 no]) ∧ RowD w' q l ∧ R w' ∧ w.grownBy w' row) :
    Calls Try.prog 23 #[.pointer a, .int .i64 n, .int .i64 no, .slice p l.length c] w fun e w' => e = .returned (.bool true) ∧ R w' ∧ w.grownBy w' row := by
  have HN := Lib.hid h
  have HR := Lib.hid hR
  have HW := Lib.hid hrow
  have HL := Lib.hid hl
  have HLn := Lib.hid hlen
  have e1 : (no == no) = true := by simp
  clear h hR hrow hl hlen
  go_enter Try.func23, Try.ntmps23
  go_wp2_with fail
  refine HN.out.mono ?_
  rintro e w1 ⟨q, d, rfl, hq, hR1, hg⟩
  have HR1 := Lib.hid hR1
  have HG := Lib.hid hg
  have HS := Lib.hid (same_ref l l q p d c w1 hq (HL.out.gb hg (fun b o e h => HW.out b h.symm b o e rfl)) (by have := HLn.out; omega) (by have := HLn.out; omega))
  rw [show decide (l = l) = true by simp] at HS
  clear hR1 hg hq HN
  go_wp2_with fail
  refine HS.out.mono ?_
  rintro e w2 ⟨rfl, hb⟩
  have HB := Lib.hid hb
  clear hb
  go_wp2_with fail
  go_ret
  exact ⟨rfl, HR.out _ _ HR1.out HB.out, gb_trans HG.out (gb_below HB.out _)⟩
theorem take_lenA (x : Al) (n : Int) : (takeA x n).2.1.length ≤ 65536 := by
  unfold takeA
  split
  · simp
  · split
    · simp
    · simp only; rw [dotsA_len]; omega
theorem takes_am (g : Nat) (x : Al) (n : Int) (p : Option Addr) (c : Nat) (w : World) (h : Am w g x) (hl : RowD w p (takeA x n).2.1) (hp : ∀ b o, p = some ⟨b, o, none⟩ → b ≠ g) : Calls Try.prog 23 #[.pointer (some ⟨g, 0, none⟩), .int .i64 n, .int .i64 (takeA x n).2.2, .slice p (takeA x n).2.1.length c] w fun e w' => e = .returned (.bool true) ∧ Am w' g (takeA x n).1 ∧ w.grownBy w' (some g) :=
  takes_is _ _ _ _ _ _ (fun w' => Am w' g (takeA x n).1) (some g) w hl (am_stable _ _) (fun k hk => by cases hk; exact hp) (by have := take_lenA x n; omega)
    ((take_all g x n w h).mono fun e w' ⟨a, d, h1, h2, _, _, h5, h6⟩ => ⟨a, d, h1, h2, h5, h6⟩)
theorem takes_sa (a : Option Addr) (l e n : Int) (w : World) (h : Sa w a ⟨0, l, e⟩) : Calls Try.prog 23 #[.pointer a, .int .i64 n, .int .i64 1, .slice none 0 0] w fun x w' => x = .returned (.bool true) ∧ Below w.heap.size w w' :=
  (takes_is a n 1 [] none 0 (fun _ => True) none w (RowD.nil _ _) (fun _ _ _ _ => trivial) (fun k hk => by cases hk) (by simp) ((take_yes a l e n w h).mono fun _ _ ⟨h1, h2⟩ => ⟨none, 0, h1, RowD.nil _ _, trivial, gb_below h2 _⟩)).mono fun _ _ ⟨h1, _, h2⟩ => ⟨h1, gb_none h2⟩
set_option maxRecDepth 100000 in
theorem none_is (r l e : Int) (w : World) (h : newOk r l e = false) : Calls Try.prog 9 #[.int .i64 r, .int .i64 l, .int .i64 e] w fun x w' => x = .returned (.bool true) ∧ Below w.heap.size w w' := by
  have HN := Lib.hid (new_no r l e w h)
  clear h
  go_enter Try.func9, Try.ntmps9
  go_wp2_with fail
  refine HN.out.mono ?_
  rintro e w1 ⟨rfl, hb⟩
  have HB := Lib.hid hb
  clear hb
  go_wp2_with fail
  go_ret
  exact ⟨rfl, HB.out⟩
theorem mixed : Try.prog.follows .mixedOrders = true := by kernel_rfl
theorem cellG {w : World} {a : Addr} {v : Value} (h : w.cell? a = some v) : ∀ n os, (grow (w.drewN n) os).cell? a = some v := fun n os => cell_grown (lt_of_cell h) h n os
theorem lays_of (w : World) (n : Nat) (os : Array Obj) : Lays w (grow (w.drewN n) os) := ⟨n, os, rfl⟩
set_option maxRecDepth 100000 in
set_option maxHeartbeats 2000000 in
theorem looks_am (g : Nat) (x : Al) (w : World) (h : Am w g x) : Calls Try.prog 12 #[.pointer (some ⟨g, 0, none⟩), av x] w fun e w' => e = .returned (.bool true) ∧ Below w.heap.size w w' := by
  have hk := h.keep (bel_box w (abox x 23))
  have hS : ∀ n os, Sa (grow ((w.alloc (abox x 23)).drewN n) os) (some ⟨g, 0, none⟩) x := fun n os => hk.sa.keep (lays_of _ n os).bel
  have HR := Lib.hid (fun n os => Calls.grown_of (replica_any _ _ _ (hS n os)))
  have HLa := Lib.hid (fun n os => Calls.grown_of (last_any _ _ _ (hS n os)))
  have HE := Lib.hid (fun n os => Calls.grown_of (end_any _ _ _ (hS n os)))
  have HLe := Lib.hid (fun n os => Calls.grown_of (left_any _ _ _ (hS n os)))
  have hn := a3_new w x 23
  have k0 := cellG hn.c0
  have k1 := cellG hn.c1
  have k2 := cellG hn.c2
  have hv := h.2
  unfold Va at hv
  obtain ⟨v1, v2, v3, v4, v5⟩ := hv
  clear h hk hS hn v1 v2
  have hB : Hid (Below w.heap.size w (w.alloc (abox x 23))) := bel_box _ _
  obtain ⟨r, l, e⟩ := x
  simp only at *
  have e0 : (r == r) = true := by simp
  have e1 : (l == l) = true := by simp
  have e2 : (e == e) = true := by simp
  have e3 : (e - l == e - l) = true := by simp
  have mixed := mixed
  go_enter Try.func12, Try.ntmps12
  go_wp2_with fail
  refine wp_region_quiet_grown mixed (by kernel_rfl) ?_
  repeat (first | go_big_quiet_skip | (go_big_quiet_want; go_big_quiet_op; first | go_big_quiet_on | go_big_quiet_call (first | (go_at_call 25; exact HR.out _ _) | (go_at_call 19; exact HLa.out _ _) | (go_at_call 26; exact HE.out _ _) | (go_at_call 20; exact HLe.out _ _))))
  refine wpQuiet_nil ?_
  intro _ hw'
  obtain ⟨⟨nq, osq⟩, hw''⟩ := hw'
  subst hw''
  go_wp2_with fail
  go_ret
  exact ⟨rfl, hB.out.trans ((lays_of _ nq osq).bel.mono (by simp))⟩

/-! ### Calls that are not too many -/
def badA (x : Dt) : Bool := decide (x.1 = 1) && decide (300 < x.2) && decide (x.2 ≤ 65536)
def fewR (l : List Dt) : Bool := decide (l.length ≤ 60) && l.all fun x => !badA x
theorem few_bad {l : List Dt} {k : Nat} (hk : k < l.length) (h : badA l[k] = true) : fewR l = false := by
  unfold fewR
  rw [Bool.and_eq_false_iff]
  right
  rw [List.all_eq_false]
  exact ⟨l[k], List.getElem_mem hk, by rw [h]; simp⟩
theorem few_end {l : List Dt} (h : ∀ j (hj : j < l.length), j < 61 → badA l[j] = false) : fewR l = decide (l.length ≤ 60) := by
  unfold fewR
  by_cases hl : l.length ≤ 60
  · rw [show (l.all fun x => !badA x) = true from List.all_eq_true.2 fun x hx => by
      obtain ⟨j, hj, rfl⟩ := List.mem_iff_getElem.1 hx
      rw [h j hj (by omega)]; rfl]
    simp
  · simp [hl]
theorem ix_act (b o n c k : Nat) (z : Int) (hz : z = (k : Int)) (hk : k < n) : ∀ w, (Instr.indexAt 33 (.slice (some ⟨b, o, none⟩) n c) (.int .i64 z)).run Try.prog w = .ok (.pointer (some ⟨b, o + k * 2, none⟩)) w := by
  intro w
  subst hz
  have hk2 : (k : Int) < (n : Int) := by omega
  go_simp
set_option maxRecDepth 100000 in
set_option maxHeartbeats 2000000 in
theorem few_any (l : List Dt) (a : Option Addr) (c : Nat) (w : World) (hx : RowD w a l) (hlx : l.length ≤ 9223372036854775807) : Calls Try.prog 13 #[.slice a l.length c] w fun e w' => e = .returned (.bool (fewR l)) ∧ w' = w := by
  have HX := Lib.hid hx
  have hli : (l.length : Int) ≤ 9223372036854775807 := by omega
  clear hx hlx
  go_enter Try.func13, Try.ntmps13
  go_wp2_with fail
  go_loop [3] (fun i => ∃ k : Nat, k ≤ l.length ∧ k ≤ 61 ∧ i = .int .i64 (k : Int) ∧ Hid (∀ j (hj : j < l.length), j < k → badA l[j] = false)) (fun i => 61 - (intOf i).toNat)
  case atStart => exact ⟨0, Nat.zero_le _, by omega, rfl, fun j _ h => by omega⟩
  case round =>
    obtain ⟨k, hk, hk2, rfl, HV⟩ := hrel
    by_cases hlt : k < l.length
    · have hi1 : (k : Int) < (l.length : Int) := by omega
      by_cases hlt2 : k < 61
      · have hi2 : (k : Int) < 61 := by omega
        obtain ⟨b1, o1, rfl, p0, p1⟩ := HX.out.get (Below.refl _ _) k hlt
        obtain ⟨q, hq⟩ : ∃ q, q = l[k] := ⟨_, rfl⟩
        rw [← hq] at p0 p1
        have HB : Hid (badA q = true → fewR l = false) := fun h => few_bad hlt (by rw [← hq]; exact h)
        have HN : Hid (badA q = false → ∀ j (hj : j < l.length), j < k + 1 → badA l[j] = false) := fun h j hj hjk => by
          by_cases e : j = k
          · subst e; rw [← hq]; exact h
          · exact HV.out j hj (by omega)
        have hix := ix_act b1 o1 l.length c k (k : Int) rfl hlt
        clear hq
        obtain ⟨q1, q2⟩ := q
        simp only at p0 p1
        by_cases h1 : q1 = 1
        · subst h1
          by_cases h2 : 300 < q2
          · by_cases h3 : q2 ≤ 65536
            · have hb : fewR l = false := HB.out (by unfold badA; simp [h2, h3])
              have HF := Lib.hid hb
              clear HB HN HV hb
              go_wp2_with fail
              go_ret
              exact ⟨by rw [HF.out]; rfl, rfl⟩
            · have HN2 := Lib.hid (HN.out (by unfold badA; simp; omega))
              clear HB HN HV
              go_wp2_with fail
              go_round
              case rel => exact ⟨k + 1, by omega, by omega, by go_num, HN2⟩
              case measure => simp [intOf]; omega
          · have HN2 := Lib.hid (HN.out (by unfold badA; simp; omega))
            clear HB HN HV
            go_wp2_with fail
            go_round
            case rel => exact ⟨k + 1, by omega, by omega, by go_num, HN2⟩
            case measure => simp [intOf]; omega
        · have HN2 := Lib.hid (HN.out (by unfold badA; simp [h1]))
          have hd : (q1 == 1) = false := by simpa using h1
          clear HB HN HV
          go_wp2_with fail
          go_round
          case rel => exact ⟨k + 1, by omega, by omega, by go_num, HN2⟩
          case measure => simp [intOf]; omega
      · have hf : fewR l = false := by
          unfold fewR
          rw [Bool.and_eq_false_iff]
          left
          simp; omega
        have HF := Lib.hid hf
        have hi2 : ¬ (k : Int) < 61 := by omega
        have hi3 : ¬ (l.length : Int) ≤ 60 := by omega
        clear hf HV
        go_wp2_with fail
        go_ret
        exact ⟨by rw [HF.out]; rfl, rfl⟩
    · have hi1 : ¬ (k : Int) < (l.length : Int) := by omega
      have hf := few_end (l := l) fun j hj h => HV.out j hj (by omega)
      have HF := Lib.hid hf
      clear hf HV
      by_cases h60 : l.length ≤ 60
      · have h61 : (l.length : Int) ≤ 60 := by omega
        go_wp2_with fail
        go_ret
        exact ⟨by rw [HF.out, decide_eq_true h60]; rfl, rfl⟩
      · have h61 : ¬ (l.length : Int) ≤ 60 := by omega
        go_wp2_with fail
        go_ret
        exact ⟨by rw [HF.out, decide_eq_false h60]; rfl, rfl⟩
end Go.Proofs.Ytkbbbjcigjlopaa.H
