/-
  The examples of the chapter: they come out as it says.
-/
import Derived.Test.YtkbbbjcigjlopaaHLaw
namespace Go.Proofs.Ytkbbbjcigjlopaa.H
set_option linter.unusedVariables false
open Go.RowKit V Go.Sort D

theorem next_eq {g : Nat} {x y : Al} {l : List Dt} {d : Dt} {no : Int} {w : World} (h : Am w g x) (he : takeA x 1 = (y, l, no)) (hd : headD l = d) : Calls Try.prog 22 #[.pointer (some ⟨g, 0, none⟩), .agg #[.int .i64 d.1, .int .i64 d.2], .int .i64 no] w fun e w' => e = .returned (.bool true) ∧ Am w' g y ∧ w.grownBy w' (some g) := by
  have := next_am g x w h
  rw [he] at this
  simp only [hd] at this
  exact this
theorem takes_eq {g : Nat} {x y : Al} {n no : Int} {l : List Dt} {p : Option Addr} {k : Nat} (c : Nat) {w : World} (h : Am w g x) (he : takeA x n = (y, l, no)) (hk : l.length = k) (hl : RowD w p l) (hp : ∀ b o, p = some ⟨b, o, none⟩ → b ≠ g) : Calls Try.prog 23 #[.pointer (some ⟨g, 0, none⟩), .int .i64 n, .int .i64 no, .slice p k c] w fun e w' => e = .returned (.bool true) ∧ Am w' g y ∧ w.grownBy w' (some g) := by
  have := takes_am g x n p c w h (by rw [he]; exact hl) hp
  rw [he] at this
  simp only [hk] at this
  exact this
theorem ext_eq {g : Nat} {x y : Al} {n no : Int} {w : World} (h : Am w g x) (he : extA x n = (y, no)) : Calls Try.prog 16 #[.pointer (some ⟨g, 0, none⟩), .int .i64 n] w fun e w' => e = .returned (.int .i64 no) ∧ Am w' g y ∧ w.grownBy w' (some g) := by
  have := ext_all g x n w h
  rw [he] at this
  exact this
theorem pass_eq {g : Nat} {x y : Al} {n no : Int} {w : World} (h : Am w g x) (he : passA x n = (y, no)) : Calls Try.prog 24 #[.pointer (some ⟨g, 0, none⟩), .int .i64 n] w fun e w' => e = .returned (.int .i64 no) ∧ Am w' g y ∧ w.grownBy w' (some g) := by
  have := pass_all g x n w h
  rw [he] at this
  exact this
theorem left_eq {g : Nat} {x : Al} {z : Int} {w : World} (h : Am w g x) (he : x.e - x.l = z) : Calls Try.prog 20 #[.pointer (some ⟨g, 0, none⟩)] w fun e w' => e = .returned (.int .i64 z) ∧ Lays w w' := by
  subst he
  exact left_any _ _ _ h.sa
/-- A dot of two zeros in memory. -/
def Zd (w : World) (z : Nat) : Prop := w.cell? ⟨z, 0, none⟩ = some (.int .i64 0) ∧ w.cell? ⟨z, 1, none⟩ = some (.int .i64 0)
theorem Zd.keep {w w' : World} {z : Nat} (h : Zd w z) (hb : Below w.heap.size w w') : Zd w' z := ⟨(hb.cell (p := ⟨_, _, none⟩) (lt_of_cell h.1)).trans h.1, (hb.cell (p := ⟨_, _, none⟩) (lt_of_cell h.2)).trans h.2⟩
theorem Zd.gb {w w' : World} {z g : Nat} (h : Zd w z) (hg : w.grownBy w' (some g)) (hne : z ≠ g) : Zd w' z := by
  have e := hg.block z (lt_of_cell h.1) (by simpa using hne)
  exact ⟨(World.cell?_of_block (w := w) e).trans h.1, (World.cell?_of_block (w := w) e).trans h.2⟩

set_option maxRecDepth 100000 in
set_option maxHeartbeats 8000000 in
theorem known_any (w : World) : Calls Try.prog 10 #[] w fun e w' => e = .returned (.bool true) ∧ Below w.heap.size w w' := by
  go_enter Try.func10, Try.ntmps10
  go_wp2_with fail
  refine (new_ok 7 3 5 w rfl).mono ?_
  rintro e w1 ⟨g, rfl, hg, ha, hb⟩
  have HA := Lib.hid ha
  have HB := Lib.hid hb
  have HG := Lib.hid hg
  have HN : Hid (w1.heap.size ≠ g) := by have := ha.1.lt; show _ ≠ _; omega
  have hlt := ha.1.lt
  clear ha hb hg
  go_upto_region 3 with fail
  have HZ : Hid (Zd (w1.alloc (.cells #[.int .i64 0, .int .i64 0] 39)) w1.heap.size) := cells_new w1 (0, 0) _
  have hb := bel_box w1 (.cells #[.int .i64 0, .int .i64 0] 39)
  replace HA := Lib.hid (HA.out.keep hb)
  replace HB := bel_tr HB hb
  clear hb
  generalize w1.alloc _ = w2 at *
  generalize w1.heap.size = z at *
  clear hlt
  go_wp2_with fail
  refine (at_any 7 4 _).mono ?_
  rintro e w3 ⟨rfl, hl⟩
  have hb := hl.bel
  clear hl
  replace HA := Lib.hid (HA.out.keep hb)
  replace HZ := Lib.hid (HZ.out.keep hb)
  replace HB := bel_tr HB hb
  clear hb
  go_wp2_with fail
  refine (next_eq (d := (7, 4)) (y := ⟨7, 4, 5⟩) (no := 0) HA.out rfl rfl).mono ?_
  rintro e w4 ⟨rfl, ha, hg⟩
  replace HZ := Lib.hid (HZ.out.gb hg HN.out)
  replace HB := Lib.hid (below_gb HB.out hg HB.out.size HG.out)
  replace HA := Lib.hid ha
  clear ha hg
  go_wp2_with fail
  refine (left_eq (z := 1) HA.out rfl).mono ?_
  rintro e w5 ⟨rfl, hl⟩
  have hb := hl.bel
  clear hl
  replace HA := Lib.hid (HA.out.keep hb)
  replace HZ := Lib.hid (HZ.out.keep hb)
  replace HB := bel_tr HB hb
  clear hb
  go_wp2_with fail
  refine (takes_eq (y := ⟨7, 4, 5⟩) (n := 2) (no := 14) (l := []) 0 HA.out rfl rfl (RowD.nil _ _) (fun _ _ h => by cases h)).mono ?_
  rintro e w6 ⟨rfl, ha, hg⟩
  replace HZ := Lib.hid (HZ.out.gb hg HN.out)
  replace HB := Lib.hid (below_gb HB.out hg HB.out.size HG.out)
  replace HA := Lib.hid ha
  clear ha hg
  go_wp2_with fail
  refine (at_any 7 5 _).mono ?_
  rintro e w7 ⟨rfl, hl⟩
  have hb := hl.bel
  clear hl
  replace HA := Lib.hid (HA.out.keep hb)
  replace HZ := Lib.hid (HZ.out.keep hb)
  replace HB := bel_tr HB hb
  clear hb
  have hlit := lit_one w7 (7, 5) 39
  have hb := bel_box w7 (.cells #[.int .i64 7, .int .i64 5] 39)
  have hne : w7.heap.size ≠ g := by have := HA.out.1.lt; omega
  replace HA := Lib.hid (HA.out.keep hb)
  replace HZ := Lib.hid (HZ.out.keep hb)
  replace HB := bel_tr HB hb
  clear hb
  replace hlit := Lib.hid hlit
  replace hne := Lib.hid hne
  go_wp2_with fail
  refine (takes_eq (y := ⟨7, 5, 5⟩) (n := 1) (no := 0) (l := [(7, 5)]) 1 HA.out rfl rfl hlit.out (fun b o h => by cases h; exact hne.out)).mono ?_
  rintro e w8 ⟨rfl, ha, hg⟩
  replace HZ := Lib.hid (HZ.out.gb hg HN.out)
  replace HB := Lib.hid (below_gb HB.out hg HB.out.size HG.out)
  replace HA := Lib.hid ha
  clear ha hg
  clear hlit hne
  have z0 := HZ.out.1
  have z1 := HZ.out.2
  go_wp2_with fail
  refine (next_eq (d := (0, 0)) (y := ⟨7, 5, 5⟩) (no := 14) HA.out rfl rfl).mono ?_
  rintro e w9 ⟨rfl, ha, hg⟩
  replace HZ := Lib.hid (HZ.out.gb hg HN.out)
  replace HB := Lib.hid (below_gb HB.out hg HB.out.size HG.out)
  replace HA := Lib.hid ha
  clear ha hg
  clear z0 z1
  have z0 := HZ.out.1
  have z1 := HZ.out.2
  go_wp2_with fail
  refine (next_eq (d := (0, 0)) (y := ⟨7, 5, 5⟩) (no := 14) HA.out rfl rfl).mono ?_
  rintro e w10 ⟨rfl, ha, hg⟩
  replace HZ := Lib.hid (HZ.out.gb hg HN.out)
  replace HB := Lib.hid (below_gb HB.out hg HB.out.size HG.out)
  replace HA := Lib.hid ha
  clear ha hg
  clear z0 z1
  go_wp2_with fail
  refine (takes_eq (y := ⟨7, 5, 5⟩) (n := 0) (no := 0) (l := []) 0 HA.out rfl rfl (RowD.nil _ _) (fun _ _ h => by cases h)).mono ?_
  rintro e w11 ⟨rfl, ha, hg⟩
  replace HZ := Lib.hid (HZ.out.gb hg HN.out)
  replace HB := Lib.hid (below_gb HB.out hg HB.out.size HG.out)
  replace HA := Lib.hid ha
  clear ha hg
  go_wp2_with fail
  refine (ext_eq (y := ⟨7, 5, 9⟩) (n := 9) (no := 0) HA.out rfl).mono ?_
  rintro e w12 ⟨rfl, ha, hg⟩
  replace HZ := Lib.hid (HZ.out.gb hg HN.out)
  replace HB := Lib.hid (below_gb HB.out hg HB.out.size HG.out)
  replace HA := Lib.hid ha
  clear ha hg
  go_wp2_with fail
  refine (pass_eq (y := ⟨7, 7, 9⟩) (n := 7) (no := 0) HA.out rfl).mono ?_
  rintro e w13 ⟨rfl, ha, hg⟩
  replace HZ := Lib.hid (HZ.out.gb hg HN.out)
  replace HB := Lib.hid (below_gb HB.out hg HB.out.size HG.out)
  replace HA := Lib.hid ha
  clear ha hg
  go_wp2_with fail
  refine (at_any 7 8 _).mono ?_
  rintro e w14 ⟨rfl, hl⟩
  have hb := hl.bel
  clear hl
  replace HA := Lib.hid (HA.out.keep hb)
  replace HZ := Lib.hid (HZ.out.keep hb)
  replace HB := bel_tr HB hb
  clear hb
  go_wp2_with fail
  refine (next_eq (d := (7, 8)) (y := ⟨7, 8, 9⟩) (no := 0) HA.out rfl rfl).mono ?_
  rintro e w15 ⟨rfl, ha, hg⟩
  replace HZ := Lib.hid (HZ.out.gb hg HN.out)
  replace HB := Lib.hid (below_gb HB.out hg HB.out.size HG.out)
  replace HA := Lib.hid ha
  clear ha hg
  go_wp2_with fail
  refine (pass_eq (y := ⟨7, 8, 9⟩) (n := 2) (no := 0) HA.out rfl).mono ?_
  rintro e w16 ⟨rfl, ha, hg⟩
  replace HZ := Lib.hid (HZ.out.gb hg HN.out)
  replace HB := Lib.hid (below_gb HB.out hg HB.out.size HG.out)
  replace HA := Lib.hid ha
  clear ha hg
  go_wp2_with fail
  refine (last_any _ _ _ HA.out.sa).mono ?_
  rintro e w17 ⟨rfl, hl⟩
  have hb := hl.bel
  clear hl
  replace HA := Lib.hid (HA.out.keep hb)
  replace HZ := Lib.hid (HZ.out.keep hb)
  replace HB := bel_tr HB hb
  clear hb
  go_wp2_with fail
  refine (pass_eq (y := ⟨7, 8, 9⟩) (n := 10) (no := 3) HA.out rfl).mono ?_
  rintro e w18 ⟨rfl, ha, hg⟩
  replace HZ := Lib.hid (HZ.out.gb hg HN.out)
  replace HB := Lib.hid (below_gb HB.out hg HB.out.size HG.out)
  replace HA := Lib.hid ha
  clear ha hg
  go_wp2_with fail
  refine (ext_eq (y := ⟨7, 8, 9⟩) (n := 8) (no := 2) HA.out rfl).mono ?_
  rintro e w19 ⟨rfl, ha, hg⟩
  replace HZ := Lib.hid (HZ.out.gb hg HN.out)
  replace HB := Lib.hid (below_gb HB.out hg HB.out.size HG.out)
  replace HA := Lib.hid ha
  clear ha hg
  go_wp2_with fail
  refine (end_any _ _ _ HA.out.sa).mono ?_
  rintro e w20 ⟨rfl, hl⟩
  have hb := hl.bel
  clear hl
  replace HA := Lib.hid (HA.out.keep hb)
  replace HZ := Lib.hid (HZ.out.keep hb)
  replace HB := bel_tr HB hb
  clear hb
  go_wp2_with fail
  refine (left_eq (z := 1) HA.out rfl).mono ?_
  rintro e w21 ⟨rfl, hl⟩
  have hb := hl.bel
  clear hl
  replace HA := Lib.hid (HA.out.keep hb)
  replace HZ := Lib.hid (HZ.out.keep hb)
  replace HB := bel_tr HB hb
  clear hb
  go_wp2_with fail
  refine (new_ok 1 4294967295 4294967295 _ rfl).mono ?_
  rintro e w22 ⟨g2, rfl, hg, ha, hb⟩
  replace HB := bel_tr HB hb
  replace HA := Lib.hid ha
  clear hg ha hb HZ HN HG
  go_wp2_with fail
  refine (none_is 0 0 1 _ rfl).mono ?_
  rintro e w23 ⟨rfl, hb⟩
  replace HA := Lib.hid (HA.out.keep hb)
  replace HB := bel_tr HB hb
  clear hb
  go_wp2_with fail
  refine (none_is 65 0 1 _ rfl).mono ?_
  rintro e w24 ⟨rfl, hb⟩
  replace HA := Lib.hid (HA.out.keep hb)
  replace HB := bel_tr HB hb
  clear hb
  go_wp2_with fail
  refine (none_is 1 2 1 _ rfl).mono ?_
  rintro e w25 ⟨rfl, hb⟩
  replace HA := Lib.hid (HA.out.keep hb)
  replace HB := bel_tr HB hb
  clear hb
  go_wp2_with fail
  refine (none_is 1 0 4294967296 _ rfl).mono ?_
  rintro e w26 ⟨rfl, hb⟩
  replace HA := Lib.hid (HA.out.keep hb)
  replace HB := bel_tr HB hb
  clear hb
  go_wp2_with fail
  refine (left_eq (z := 0) HA.out rfl).mono ?_
  rintro e w27 ⟨rfl, hl⟩
  have hb := hl.bel
  clear hl
  replace HA := Lib.hid (HA.out.keep hb)
  replace HB := bel_tr HB hb
  clear hb
  go_wp2_with fail
  go_ret
  exact ⟨rfl, HB.out⟩
end Go.Proofs.Ytkbbbjcigjlopaa.H
