/-
  AllocNew, AllocNil, AllocMany: every input gives true.
-/
import Derived.Test.YtkbbbjcigjlopaaHKnown
namespace Go.Proofs.Ytkbbbjcigjlopaa.H
set_option linter.unusedVariables false
open Go.RowKit V Go.Sort D

set_option maxRecDepth 100000 in
set_option maxHeartbeats 2000000 in
theorem new_law (r l e : Int) (w : World) : Calls Try.prog 3 #[.int .i64 r, .int .i64 l, .int .i64 e] w fun x w' => x = .returned (.bool true) ∧ Below w.heap.size w w' := by
  have HK := Lib.hid (fun w => known_any w)
  rcases h : newOk r l e with _ | _
  · have HR := Lib.hid (newR_no r l e w h)
    have HN := Lib.hid (fun w => none_is r l e w h)
    clear h
    go_enter Try.func3, Try.ntmps3
    go_wp2_with fail
    refine HR.out.mono ?_
    rintro e w1 ⟨rfl, hb⟩
    have HB := Lib.hid hb
    clear hb HR
    go_wp2_with fail
    refine (HN.out _).mono ?_
    rintro e w2 ⟨rfl, hb⟩
    replace HB : Hid (Below w.heap.size w w2) := (HB.out.alloc HB.out.size _).trans (hb.mono (by have := HB.out.size; simp; omega))
    clear hb
    go_wp2_with fail
    refine (HK.out _).mono ?_
    rintro e w3 ⟨rfl, hb⟩
    replace HB := bel_tr HB hb
    clear hb
    go_wp2_with fail
    go_ret
    exact ⟨rfl, HB.out⟩
  · have HR := Lib.hid (newR_ok r l e w h)
    have HN := Lib.hid (fun w => new_ok r l e w h)
    clear h
    go_enter Try.func3, Try.ntmps3
    go_wp2_with fail
    refine HR.out.mono ?_
    rintro x w1 ⟨rfl, hb⟩
    have HB := Lib.hid hb
    clear hb HR
    go_wp2_with fail
    refine (HN.out _).mono ?_
    rintro x w2 ⟨g, rfl, hg, ha, hb⟩
    have hn := (a3_new w1 ⟨r, l, e⟩ 23).keep hb
    have k0 := hn.c0
    have k1 := hn.c1
    have k2 := hn.c2
    simp only at k0 k1 k2
    replace HB : Hid (Below w.heap.size w w2) := (HB.out.alloc HB.out.size _).trans (hb.mono (by have := HB.out.size; simp; omega))
    have HA := Lib.hid ha
    clear hb ha hg hn
    go_wp2_with fail
    refine (looks_am _ _ _ HA.out).mono ?_
    rintro x w3 ⟨rfl, hb⟩
    replace HB := bel_tr HB hb
    clear hb
    go_wp2_with fail
    refine (HK.out _).mono ?_
    rintro x w4 ⟨rfl, hb⟩
    replace HB := bel_tr HB hb
    clear hb
    go_wp2_with fail
    go_ret
    exact ⟨rfl, HB.out⟩
set_option maxRecDepth 100000 in
set_option maxHeartbeats 4000000 in
theorem nil_law (n : Int) (w : World) : Calls Try.prog 6 #[.int .i64 n] w fun x w' => x = .returned (.bool true) ∧ Below w.heap.size w w' := by
  have HK := Lib.hid (fun w => known_any w)
  have hb : Below w.heap.size w ((w.alloc (abox ⟨0, 0, 0⟩ 53)).alloc (.cells #[.pointer none, .pointer (some ⟨w.heap.size, 0, none⟩)] 28)) := (bel_box _ _).alloc (by simp) _
  have ha : A3 ((w.alloc (abox ⟨0, 0, 0⟩ 53)).alloc (.cells #[.pointer none, .pointer (some ⟨w.heap.size, 0, none⟩)] 28)) w.heap.size ⟨0, 0, 0⟩ := (a3_new w ⟨0, 0, 0⟩ _).keep (bel_box _ _)
  have k0 : ((w.alloc (abox ⟨0, 0, 0⟩ 53)).alloc (.cells #[.pointer none, .pointer (some ⟨w.heap.size, 0, none⟩)] 28)).cell? ⟨w.heap.size + 1, 0, none⟩ = some (.pointer none) := by
    rw [World.cell?_alloc_at _ _ _ _ (by simp)]; rfl
  have k1 : ((w.alloc (abox ⟨0, 0, 0⟩ 53)).alloc (.cells #[.pointer none, .pointer (some ⟨w.heap.size, 0, none⟩)] 28)).cell? ⟨w.heap.size + 1, 1, none⟩ = some (.pointer (some ⟨w.heap.size, 0, none⟩)) := by
    rw [World.cell?_alloc_at _ _ _ _ (by simp)]; rfl
  have HB := Lib.hid hb
  have HA := Lib.hid ha
  have H0 := Lib.hid k0
  have H1 := Lib.hid k1
  clear hb ha k0 k1
  go_enter Try.func6, Try.ntmps6
  go_wp2_with fail
  generalize (w.alloc _).alloc _ = W at *
  go_loopw [11] (fun i wr => ∃ k : Nat, k ≤ 2 ∧ i = .int .i64 (k : Int) ∧ Hid (A3 wr w.heap.size ⟨0, 0, 0⟩) ∧ Hid (wr.cell? ⟨w.heap.size + 1, 0, none⟩ = some (.pointer none)) ∧ Hid (wr.cell? ⟨w.heap.size + 1, 1, none⟩ = some (.pointer (some ⟨w.heap.size, 0, none⟩))) ∧ Hid (Below w.heap.size w wr)) (fun i _ => 2 - (intOf i).toNat)
  case atStart => exact ⟨0, by omega, rfl, HA, H0, H1, HB⟩
  case round =>
    obtain ⟨k, hk, rfl, HA, H0, H1, HB⟩ := hrel
    rcases Nat.lt_or_ge k 2 with hlt | hge
    · rcases Nat.eq_zero_or_pos k with rfl | hpos
      · skip
        have HS : Hid (Sa wr none ⟨0, 0, 0⟩) := sa_nil wr
        have c0 := H0.out
        go_wp2_with fail
        refine (next_sa _ _ _ _ HS.out).mono ?_
        rintro e w1 ⟨rfl, hb⟩
        replace HA := Lib.hid (HA.out.keep hb)
        replace HS := Lib.hid (HS.out.keep hb)
        replace H0 := Lib.hid ((hb.cell (p := ⟨_, _, none⟩) (lt_of_cell H0.out)).trans H0.out)
        replace H1 := Lib.hid ((hb.cell (p := ⟨_, _, none⟩) (lt_of_cell H1.out)).trans H1.out)
        replace HB := bel_tr HB hb
        clear hb
        clear c0
        go_wp2_with fail
        refine (takes_sa _ _ _ n _ HS.out).mono ?_
        rintro e w2 ⟨rfl, hb⟩
        replace HA := Lib.hid (HA.out.keep hb)
        replace HS := Lib.hid (HS.out.keep hb)
        replace H0 := Lib.hid ((hb.cell (p := ⟨_, _, none⟩) (lt_of_cell H0.out)).trans H0.out)
        replace H1 := Lib.hid ((hb.cell (p := ⟨_, _, none⟩) (lt_of_cell H1.out)).trans H1.out)
        replace HB := bel_tr HB hb
        clear hb
        go_wp2_with fail
        refine (ext_yes _ _ _ n _ HS.out).mono ?_
        rintro e w3 ⟨rfl, hb⟩
        replace HA := Lib.hid (HA.out.keep hb)
        replace HS := Lib.hid (HS.out.keep hb)
        replace H0 := Lib.hid ((hb.cell (p := ⟨_, _, none⟩) (lt_of_cell H0.out)).trans H0.out)
        replace H1 := Lib.hid ((hb.cell (p := ⟨_, _, none⟩) (lt_of_cell H1.out)).trans H1.out)
        replace HB := bel_tr HB hb
        clear hb
        go_wp2_with fail
        refine (pass_yes _ _ _ n _ HS.out).mono ?_
        rintro e w4 ⟨rfl, hb⟩
        replace HA := Lib.hid (HA.out.keep hb)
        replace HS := Lib.hid (HS.out.keep hb)
        replace H0 := Lib.hid ((hb.cell (p := ⟨_, _, none⟩) (lt_of_cell H0.out)).trans H0.out)
        replace H1 := Lib.hid ((hb.cell (p := ⟨_, _, none⟩) (lt_of_cell H1.out)).trans H1.out)
        replace HB := bel_tr HB hb
        clear hb
        go_wp2_with fail
        refine (replica_any _ _ _ HS.out).mono ?_
        rintro e w5 ⟨rfl, hb⟩
        replace hb := hb.bel
        replace HA := Lib.hid (HA.out.keep hb)
        replace HS := Lib.hid (HS.out.keep hb)
        replace H0 := Lib.hid ((hb.cell (p := ⟨_, _, none⟩) (lt_of_cell H0.out)).trans H0.out)
        replace H1 := Lib.hid ((hb.cell (p := ⟨_, _, none⟩) (lt_of_cell H1.out)).trans H1.out)
        replace HB := bel_tr HB hb
        clear hb
        go_wp2_with fail
        refine (last_any _ _ _ HS.out).mono ?_
        rintro e w6 ⟨rfl, hb⟩
        replace hb := hb.bel
        replace HA := Lib.hid (HA.out.keep hb)
        replace HS := Lib.hid (HS.out.keep hb)
        replace H0 := Lib.hid ((hb.cell (p := ⟨_, _, none⟩) (lt_of_cell H0.out)).trans H0.out)
        replace H1 := Lib.hid ((hb.cell (p := ⟨_, _, none⟩) (lt_of_cell H1.out)).trans H1.out)
        replace HB := bel_tr HB hb
        clear hb
        go_wp2_with fail
        refine (end_any _ _ _ HS.out).mono ?_
        rintro e w7 ⟨rfl, hb⟩
        replace hb := hb.bel
        replace HA := Lib.hid (HA.out.keep hb)
        replace HS := Lib.hid (HS.out.keep hb)
        replace H0 := Lib.hid ((hb.cell (p := ⟨_, _, none⟩) (lt_of_cell H0.out)).trans H0.out)
        replace H1 := Lib.hid ((hb.cell (p := ⟨_, _, none⟩) (lt_of_cell H1.out)).trans H1.out)
        replace HB := bel_tr HB hb
        clear hb
        go_wp2_with fail
        refine (left_any _ _ _ HS.out).mono ?_
        rintro e w8 ⟨rfl, hb⟩
        replace hb := hb.bel
        replace HA := Lib.hid (HA.out.keep hb)
        replace HS := Lib.hid (HS.out.keep hb)
        replace H0 := Lib.hid ((hb.cell (p := ⟨_, _, none⟩) (lt_of_cell H0.out)).trans H0.out)
        replace H1 := Lib.hid ((hb.cell (p := ⟨_, _, none⟩) (lt_of_cell H1.out)).trans H1.out)
        replace HB := bel_tr HB hb
        clear hb
        go_wp2_with fail
        refine (copy_yes _ _ _ _ HS.out).mono ?_
        rintro e w9 ⟨rfl, hb⟩
        replace HA := Lib.hid (HA.out.keep hb)
        replace HS := Lib.hid (HS.out.keep hb)
        replace H0 := Lib.hid ((hb.cell (p := ⟨_, _, none⟩) (lt_of_cell H0.out)).trans H0.out)
        replace H1 := Lib.hid ((hb.cell (p := ⟨_, _, none⟩) (lt_of_cell H1.out)).trans H1.out)
        replace HB := bel_tr HB hb
        clear hb
        go_wp2_with fail
        go_roundw
        case rel => exact ⟨1, by omega, by go_num, HA, H0, H1, HB⟩
        case measure => simp [intOf]
      · skip
        obtain rfl : k = 1 := by omega
        have HS : Hid (Sa wr (some ⟨w.heap.size, 0, none⟩) ⟨0, 0, 0⟩) := HA.out.sa (by unfold Vs; simp)
        have c1 := H1.out
        go_wp2_with fail
        refine (next_sa _ _ _ _ HS.out).mono ?_
        rintro e w1 ⟨rfl, hb⟩
        replace HA := Lib.hid (HA.out.keep hb)
        replace HS := Lib.hid (HS.out.keep hb)
        replace H0 := Lib.hid ((hb.cell (p := ⟨_, _, none⟩) (lt_of_cell H0.out)).trans H0.out)
        replace H1 := Lib.hid ((hb.cell (p := ⟨_, _, none⟩) (lt_of_cell H1.out)).trans H1.out)
        replace HB := bel_tr HB hb
        clear hb
        clear c1
        go_wp2_with fail
        refine (takes_sa _ _ _ n _ HS.out).mono ?_
        rintro e w2 ⟨rfl, hb⟩
        replace HA := Lib.hid (HA.out.keep hb)
        replace HS := Lib.hid (HS.out.keep hb)
        replace H0 := Lib.hid ((hb.cell (p := ⟨_, _, none⟩) (lt_of_cell H0.out)).trans H0.out)
        replace H1 := Lib.hid ((hb.cell (p := ⟨_, _, none⟩) (lt_of_cell H1.out)).trans H1.out)
        replace HB := bel_tr HB hb
        clear hb
        go_wp2_with fail
        refine (ext_yes _ _ _ n _ HS.out).mono ?_
        rintro e w3 ⟨rfl, hb⟩
        replace HA := Lib.hid (HA.out.keep hb)
        replace HS := Lib.hid (HS.out.keep hb)
        replace H0 := Lib.hid ((hb.cell (p := ⟨_, _, none⟩) (lt_of_cell H0.out)).trans H0.out)
        replace H1 := Lib.hid ((hb.cell (p := ⟨_, _, none⟩) (lt_of_cell H1.out)).trans H1.out)
        replace HB := bel_tr HB hb
        clear hb
        go_wp2_with fail
        refine (pass_yes _ _ _ n _ HS.out).mono ?_
        rintro e w4 ⟨rfl, hb⟩
        replace HA := Lib.hid (HA.out.keep hb)
        replace HS := Lib.hid (HS.out.keep hb)
        replace H0 := Lib.hid ((hb.cell (p := ⟨_, _, none⟩) (lt_of_cell H0.out)).trans H0.out)
        replace H1 := Lib.hid ((hb.cell (p := ⟨_, _, none⟩) (lt_of_cell H1.out)).trans H1.out)
        replace HB := bel_tr HB hb
        clear hb
        go_wp2_with fail
        refine (replica_any _ _ _ HS.out).mono ?_
        rintro e w5 ⟨rfl, hb⟩
        replace hb := hb.bel
        replace HA := Lib.hid (HA.out.keep hb)
        replace HS := Lib.hid (HS.out.keep hb)
        replace H0 := Lib.hid ((hb.cell (p := ⟨_, _, none⟩) (lt_of_cell H0.out)).trans H0.out)
        replace H1 := Lib.hid ((hb.cell (p := ⟨_, _, none⟩) (lt_of_cell H1.out)).trans H1.out)
        replace HB := bel_tr HB hb
        clear hb
        go_wp2_with fail
        refine (last_any _ _ _ HS.out).mono ?_
        rintro e w6 ⟨rfl, hb⟩
        replace hb := hb.bel
        replace HA := Lib.hid (HA.out.keep hb)
        replace HS := Lib.hid (HS.out.keep hb)
        replace H0 := Lib.hid ((hb.cell (p := ⟨_, _, none⟩) (lt_of_cell H0.out)).trans H0.out)
        replace H1 := Lib.hid ((hb.cell (p := ⟨_, _, none⟩) (lt_of_cell H1.out)).trans H1.out)
        replace HB := bel_tr HB hb
        clear hb
        go_wp2_with fail
        refine (end_any _ _ _ HS.out).mono ?_
        rintro e w7 ⟨rfl, hb⟩
        replace hb := hb.bel
        replace HA := Lib.hid (HA.out.keep hb)
        replace HS := Lib.hid (HS.out.keep hb)
        replace H0 := Lib.hid ((hb.cell (p := ⟨_, _, none⟩) (lt_of_cell H0.out)).trans H0.out)
        replace H1 := Lib.hid ((hb.cell (p := ⟨_, _, none⟩) (lt_of_cell H1.out)).trans H1.out)
        replace HB := bel_tr HB hb
        clear hb
        go_wp2_with fail
        refine (left_any _ _ _ HS.out).mono ?_
        rintro e w8 ⟨rfl, hb⟩
        replace hb := hb.bel
        replace HA := Lib.hid (HA.out.keep hb)
        replace HS := Lib.hid (HS.out.keep hb)
        replace H0 := Lib.hid ((hb.cell (p := ⟨_, _, none⟩) (lt_of_cell H0.out)).trans H0.out)
        replace H1 := Lib.hid ((hb.cell (p := ⟨_, _, none⟩) (lt_of_cell H1.out)).trans H1.out)
        replace HB := bel_tr HB hb
        clear hb
        go_wp2_with fail
        refine (copy_yes _ _ _ _ HS.out).mono ?_
        rintro e w9 ⟨rfl, hb⟩
        replace HA := Lib.hid (HA.out.keep hb)
        replace HS := Lib.hid (HS.out.keep hb)
        replace H0 := Lib.hid ((hb.cell (p := ⟨_, _, none⟩) (lt_of_cell H0.out)).trans H0.out)
        replace H1 := Lib.hid ((hb.cell (p := ⟨_, _, none⟩) (lt_of_cell H1.out)).trans H1.out)
        replace HB := bel_tr HB hb
        clear hb
        go_wp2_with fail
        go_roundw
        case rel => exact ⟨2, by omega, by go_num, HA, H0, H1, HB⟩
        case measure => simp [intOf]
    · obtain rfl : k = 2 := by omega
      go_wp2_with fail
      refine (HK.out _).mono ?_
      rintro e w1 ⟨rfl, hb⟩
      replace HB := bel_tr HB hb
      clear hb
      go_wp2_with fail
      go_ret
      exact ⟨rfl, HB.out⟩
end Go.Proofs.Ytkbbbjcigjlopaa.H
