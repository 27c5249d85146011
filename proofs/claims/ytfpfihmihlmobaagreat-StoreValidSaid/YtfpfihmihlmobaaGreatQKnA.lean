/-
  The examples of the chapter.
-/
import Derived.Test.YtfpfihmihlmobaaGreatQKnB6
namespace Go.Proofs.YtfpfihmihlmobaaGreat.Qs
set_option linter.unusedVariables false
open Go.RowKit V Go.Sort D Nd
attribute [local irreducible] Sch.heldN Sch.stepV Sch.stepE

set_option maxRecDepth 100000 in
set_option maxHeartbeats 8000000 in
theorem known_any (w : World) : Calls Tryz.prog 9 #[] w fun e w' => e = .returned (.bool true) ∧ Below w.heap.size w w' := by
  have HK0 : Hid (K0 w.heap.size ((w.alloc (.cells #[.int .i64 0, .int .i64 0] 33)).alloc (.cells #[.int .i64 0, .int .i64 0, .int .i64 0, .int .i64 0, .int .i64 0, .int .i32 0] 35))) := by
    have h := Nb.new (w.alloc (.cells #[.int .i64 0, .int .i64 0] 33)) zeroN
    rw [show (w.alloc (.cells #[.int .i64 0, .int .i64 0] 33)).heap.size = w.heap.size + 1 by simp] at h
    refine ⟨?_, ?_, h⟩ <;> go_simp
  have HB0 := Lib.hid (bel_two2 w (.cells #[.int .i64 0, .int .i64 0] 33) (.cells #[.int .i64 0, .int .i64 0, .int .i64 0, .int .i64 0, .int .i64 0, .int .i32 0] 35))
  go_enter Tryz.func9, Tryz.ntmps9
  go_wp2_with fail
  generalize (w.alloc (.cells #[.int .i64 0, .int .i64 0] 33)).alloc (.cells #[.int .i64 0, .int .i64 0, .int .i64 0, .int .i64 0, .int .i64 0, .int .i32 0] 35) = w1 at *
  obtain ⟨B, hB⟩ : ∃ B, B = w.heap.size := ⟨_, rfl⟩
  have hd := (Below.refl w1.heap.size w1).drew
  replace HK0 := Lib.hid (HK0.out.keep hd)
  replace HB0 := Lib.hid HB0.out.drew
  clear hd
  rw [← hB] at HK0 ⊢
  have HBe := Lib.hid hB
  clear hB
  refine Sch.wp_region_states (K0 B) 1 Lk Tk 71 (.one 12 (.one 13 (.one 14 .done))) (by kernel_rfl) (by kernel_rfl) (KJ w B) HK0.out ?_ ?_ ?_
  · refine Sch.step_load _ _ _ _ _ rfl rfl rfl rfl K0.r rfl ?_
    exact ⟨_, _, _, undef, undef, undef, undef, undef, undef, undef, undef, 0, 0, 0, rfl, ⟨fun h => absurd h (by decide), fun h => absurd h (by decide), fun h => absurd h (by decide), fun h => absurd h (by decide), fun h => absurd h (by decide), fun h => absurd h (by decide), fun h => absurd h (by decide), fun h => absurd h (by decide)⟩, ⟨fun h => absurd h (by decide), fun h => absurd h (by decide), fun h => absurd h (by decide)⟩, ⟨fun h => absurd h (by decide), fun h => absurd h (by decide), fun h => absurd h (by decide)⟩, HB0⟩
  · rintro s hs x hx a w3 hS ⟨u3, u4, u5, y0, y1, y2, y3, y4, y5, y6, y7, g3, g4, g5, rfl, ⟨h0, h1, h2, h3, h4, h5, h6, h7⟩, ⟨d3, d4, d5⟩, ⟨e34, e35, e45⟩, HB⟩
    unfold Tk at hx
    simp only [List.mem_append] at hx
    rcases hx with ((hx | hx) | hx) | hx
    · split at hx
      case isFalse => simp at hx
      have hx : x = (opk (s / 8), s + 8) := by simpa using hx
      have hc8 : s / 8 = 0 ∨ s / 8 = 1 ∨ s / 8 = 2 ∨ s / 8 = 3 ∨ s / 8 = 4 ∨ s / 8 = 5 ∨ s / 8 = 6 ∨ s / 8 = 7 := by omega
      rcases hc8 with hc | hc | hc | hc | hc | hc | hc | hc
      · obtain rfl : x = (0, s + 8) := by rw [hx]; unfold opk; simp [hc]
        refine Sch.step_e rfl rfl (fun K hK => ?_)
        go_wp2_with fail
        refine (at_any 1 1 _).mono ?_
        rintro e w2 ⟨rfl, hb⟩
        refine hK _ _ (hS.keep hb) ⟨u3, u4, u5, _, y1, y2, y3, y4, y5, y6, y7, g3, g4, g5, rfl, ⟨fun _ => rfl, fun h => h1.out (by omega), fun h => h2.out (by omega), fun h => h3.out (by omega), fun h => h4.out (by omega), fun h => h5.out (by omega), fun h => h6.out (by omega), fun h => h7.out (by omega)⟩, ⟨fun h => ⟨(d3.out (by omega)).1, (d3.out (by omega)).2.1.keep hb, (d3.out (by omega)).2.2⟩, fun h => ⟨(d4.out (by omega)).1, (d4.out (by omega)).2.1.keep hb, (d4.out (by omega)).2.2⟩, fun h => ⟨(d5.out (by omega)).1, (d5.out (by omega)).2.1.keep hb, (d5.out (by omega)).2.2⟩⟩, ⟨fun h1 h2 => e34.out (by omega) (by omega), fun h1 h2 => e35.out (by omega) (by omega), fun h1 h2 => e45.out (by omega) (by omega)⟩, bel_tr HB hb⟩
      · obtain rfl : x = (2, s + 8) := by rw [hx]; unfold opk; simp [hc]
        obtain rfl := h0.out (by omega)
        refine Sch.step_e rfl rfl (fun K hK => ?_)
        go_wp2_with fail
        refine (of_any (1, 1) (0, 0) 1 97 _).mono ?_
        rintro e w2 ⟨rfl, hb⟩
        refine hK _ _ (hS.keep hb) ⟨u3, u4, u5, _, _, y2, y3, y4, y5, y6, y7, g3, g4, g5, rfl, ⟨fun _ => rfl, fun _ => rfl, fun h => h2.out (by omega), fun h => h3.out (by omega), fun h => h4.out (by omega), fun h => h5.out (by omega), fun h => h6.out (by omega), fun h => h7.out (by omega)⟩, ⟨fun h => ⟨(d3.out (by omega)).1, (d3.out (by omega)).2.1.keep hb, (d3.out (by omega)).2.2⟩, fun h => ⟨(d4.out (by omega)).1, (d4.out (by omega)).2.1.keep hb, (d4.out (by omega)).2.2⟩, fun h => ⟨(d5.out (by omega)).1, (d5.out (by omega)).2.1.keep hb, (d5.out (by omega)).2.2⟩⟩, ⟨fun h1 h2 => e34.out (by omega) (by omega), fun h1 h2 => e35.out (by omega) (by omega), fun h1 h2 => e45.out (by omega) (by omega)⟩, bel_tr HB hb⟩
      · obtain rfl : x = (3, s + 8) := by rw [hx]; unfold opk; simp [hc]
        refine Sch.step_e rfl rfl (fun K hK => ?_)
        go_wp2_with fail
        refine (at_any 2 2 _).mono ?_
        rintro e w2 ⟨rfl, hb⟩
        refine hK _ _ (hS.keep hb) ⟨u3, u4, u5, y0, y1, _, y3, y4, y5, y6, y7, g3, g4, g5, rfl, ⟨fun h => h0.out (by omega), fun h => h1.out (by omega), fun _ => rfl, fun h => h3.out (by omega), fun h => h4.out (by omega), fun h => h5.out (by omega), fun h => h6.out (by omega), fun h => h7.out (by omega)⟩, ⟨fun h => ⟨(d3.out (by omega)).1, (d3.out (by omega)).2.1.keep hb, (d3.out (by omega)).2.2⟩, fun h => ⟨(d4.out (by omega)).1, (d4.out (by omega)).2.1.keep hb, (d4.out (by omega)).2.2⟩, fun h => ⟨(d5.out (by omega)).1, (d5.out (by omega)).2.1.keep hb, (d5.out (by omega)).2.2⟩⟩, ⟨fun h1 h2 => e34.out (by omega) (by omega), fun h1 h2 => e35.out (by omega) (by omega), fun h1 h2 => e45.out (by omega) (by omega)⟩, bel_tr HB hb⟩
      · obtain rfl : x = (4, s + 8) := by rw [hx]; unfold opk; simp [hc]
        refine Sch.step_e rfl rfl (fun K hK => ?_)
        go_wp2_with fail
        refine (at_any 1 1 _).mono ?_
        rintro e w2 ⟨rfl, hb⟩
        refine hK _ _ (hS.keep hb) ⟨u3, u4, u5, y0, y1, y2, _, y4, y5, y6, y7, g3, g4, g5, rfl, ⟨fun h => h0.out (by omega), fun h => h1.out (by omega), fun h => h2.out (by omega), fun _ => rfl, fun h => h4.out (by omega), fun h => h5.out (by omega), fun h => h6.out (by omega), fun h => h7.out (by omega)⟩, ⟨fun h => ⟨(d3.out (by omega)).1, (d3.out (by omega)).2.1.keep hb, (d3.out (by omega)).2.2⟩, fun h => ⟨(d4.out (by omega)).1, (d4.out (by omega)).2.1.keep hb, (d4.out (by omega)).2.2⟩, fun h => ⟨(d5.out (by omega)).1, (d5.out (by omega)).2.1.keep hb, (d5.out (by omega)).2.2⟩⟩, ⟨fun h1 h2 => e34.out (by omega) (by omega), fun h1 h2 => e35.out (by omega) (by omega), fun h1 h2 => e45.out (by omega) (by omega)⟩, bel_tr HB hb⟩
      · obtain rfl : x = (5, s + 8) := by rw [hx]; unfold opk; simp [hc]
        obtain rfl := h2.out (by omega)
        obtain rfl := h3.out (by omega)
        refine Sch.step_e rfl rfl (fun K hK => ?_)
        go_wp2_with fail
        refine (of_any (2, 2) (1, 1) 2 98 _).mono ?_
        rintro e w2 ⟨rfl, hb⟩
        refine hK _ _ (hS.keep hb) ⟨u3, u4, u5, y0, y1, _, _, _, y5, y6, y7, g3, g4, g5, rfl, ⟨fun h => h0.out (by omega), fun h => h1.out (by omega), fun _ => rfl, fun _ => rfl, fun _ => rfl, fun h => h5.out (by omega), fun h => h6.out (by omega), fun h => h7.out (by omega)⟩, ⟨fun h => ⟨(d3.out (by omega)).1, (d3.out (by omega)).2.1.keep hb, (d3.out (by omega)).2.2⟩, fun h => ⟨(d4.out (by omega)).1, (d4.out (by omega)).2.1.keep hb, (d4.out (by omega)).2.2⟩, fun h => ⟨(d5.out (by omega)).1, (d5.out (by omega)).2.1.keep hb, (d5.out (by omega)).2.2⟩⟩, ⟨fun h1 h2 => e34.out (by omega) (by omega), fun h1 h2 => e35.out (by omega) (by omega), fun h1 h2 => e45.out (by omega) (by omega)⟩, bel_tr HB hb⟩
      · obtain rfl : x = (6, s + 8) := by rw [hx]; unfold opk; simp [hc]
        refine Sch.step_e rfl rfl (fun K hK => ?_)
        go_wp2_with fail
        refine (at_any 1 3 _).mono ?_
        rintro e w2 ⟨rfl, hb⟩
        refine hK _ _ (hS.keep hb) ⟨u3, u4, u5, y0, y1, y2, y3, y4, _, y6, y7, g3, g4, g5, rfl, ⟨fun h => h0.out (by omega), fun h => h1.out (by omega), fun h => h2.out (by omega), fun h => h3.out (by omega), fun h => h4.out (by omega), fun _ => rfl, fun h => h6.out (by omega), fun h => h7.out (by omega)⟩, ⟨fun h => ⟨(d3.out (by omega)).1, (d3.out (by omega)).2.1.keep hb, (d3.out (by omega)).2.2⟩, fun h => ⟨(d4.out (by omega)).1, (d4.out (by omega)).2.1.keep hb, (d4.out (by omega)).2.2⟩, fun h => ⟨(d5.out (by omega)).1, (d5.out (by omega)).2.1.keep hb, (d5.out (by omega)).2.2⟩⟩, ⟨fun h1 h2 => e34.out (by omega) (by omega), fun h1 h2 => e35.out (by omega) (by omega), fun h1 h2 => e45.out (by omega) (by omega)⟩, bel_tr HB hb⟩
      · obtain rfl : x = (7, s + 8) := by rw [hx]; unfold opk; simp [hc]
        refine Sch.step_e rfl rfl (fun K hK => ?_)
        go_wp2_with fail
        refine (at_any 9 9 _).mono ?_
        rintro e w2 ⟨rfl, hb⟩
        refine hK _ _ (hS.keep hb) ⟨u3, u4, u5, y0, y1, y2, y3, y4, y5, _, y7, g3, g4, g5, rfl, ⟨fun h => h0.out (by omega), fun h => h1.out (by omega), fun h => h2.out (by omega), fun h => h3.out (by omega), fun h => h4.out (by omega), fun h => h5.out (by omega), fun _ => rfl, fun h => h7.out (by omega)⟩, ⟨fun h => ⟨(d3.out (by omega)).1, (d3.out (by omega)).2.1.keep hb, (d3.out (by omega)).2.2⟩, fun h => ⟨(d4.out (by omega)).1, (d4.out (by omega)).2.1.keep hb, (d4.out (by omega)).2.2⟩, fun h => ⟨(d5.out (by omega)).1, (d5.out (by omega)).2.1.keep hb, (d5.out (by omega)).2.2⟩⟩, ⟨fun h1 h2 => e34.out (by omega) (by omega), fun h1 h2 => e35.out (by omega) (by omega), fun h1 h2 => e45.out (by omega) (by omega)⟩, bel_tr HB hb⟩
      · obtain rfl : x = (8, s + 8) := by rw [hx]; unfold opk; simp [hc]
        obtain rfl := h5.out (by omega)
        obtain rfl := h6.out (by omega)
        refine Sch.step_e rfl rfl (fun K hK => ?_)
        go_wp2_with fail
        refine (of_any (1, 3) (9, 9) 7 0 _).mono ?_
        rintro e w2 ⟨rfl, hb⟩
        refine hK _ _ (hS.keep hb) ⟨u3, u4, u5, y0, y1, y2, y3, y4, _, _, _, g3, g4, g5, rfl, ⟨fun h => h0.out (by omega), fun h => h1.out (by omega), fun h => h2.out (by omega), fun h => h3.out (by omega), fun h => h4.out (by omega), fun _ => rfl, fun _ => rfl, fun _ => rfl⟩, ⟨fun h => ⟨(d3.out (by omega)).1, (d3.out (by omega)).2.1.keep hb, (d3.out (by omega)).2.2⟩, fun h => ⟨(d4.out (by omega)).1, (d4.out (by omega)).2.1.keep hb, (d4.out (by omega)).2.2⟩, fun h => ⟨(d5.out (by omega)).1, (d5.out (by omega)).2.1.keep hb, (d5.out (by omega)).2.2⟩⟩, ⟨fun h1 h2 => e34.out (by omega) (by omega), fun h1 h2 => e35.out (by omega) (by omega), fun h1 h2 => e45.out (by omega) (by omega)⟩, bel_tr HB hb⟩
    · split at hx
      case isFalse => simp at hx
      rename_i hbit
      have hx : x = (9, s + 1) := by simpa using hx
      obtain rfl := hx
      refine Sch.step_e rfl rfl (fun K hK => ?_)
      have hz := Zb.new w3
      have hb := bel_box w3 (.cells #[.int .i64 0, .int .i64 0, .int .i64 0, .int .i64 0, .int .i64 0, .int .i32 0] 35)
      have hBw : B + 1 < w3.heap.size := hS.2.2.lt
      have HB2 := bel_tr HB hb
      go_wp2_with fail
      refine hK _ _ (hS.keep hb) ⟨_, u4, u5, y0, y1, y2, y3, y4, y5, y6, y7, w3.heap.size, g4, g5, rfl, ⟨fun h => h0.out (by omega), fun h => h1.out (by omega), fun h => h2.out (by omega), fun h => h3.out (by omega), fun h => h4.out (by omega), fun h => h5.out (by omega), fun h => h6.out (by omega), fun h => h7.out (by omega)⟩, ⟨fun _ => ⟨rfl, hz, hBw⟩, fun h => ⟨(d4.out (by omega)).1, (d4.out (by omega)).2.1.keep hb, (d4.out (by omega)).2.2⟩, fun h => ⟨(d5.out (by omega)).1, (d5.out (by omega)).2.1.keep hb, (d5.out (by omega)).2.2⟩⟩, ⟨fun h1 h2 => by have := (d4.out (by omega)).2.1.1.lt; omega, fun h1 h2 => by have := (d5.out (by omega)).2.1.1.lt; omega, fun h1 h2 => e45.out (by omega) (by omega)⟩, HB2⟩
    · split at hx
      case isFalse => simp at hx
      rename_i hbit
      have hx : x = (10, s + 2) := by simpa using hx
      obtain rfl := hx
      refine Sch.step_e rfl rfl (fun K hK => ?_)
      have hz := Zb.new w3
      have hb := bel_box w3 (.cells #[.int .i64 0, .int .i64 0, .int .i64 0, .int .i64 0, .int .i64 0, .int .i32 0] 35)
      have hBw : B + 1 < w3.heap.size := hS.2.2.lt
      have HB2 := bel_tr HB hb
      go_wp2_with fail
      refine hK _ _ (hS.keep hb) ⟨u3, _, u5, y0, y1, y2, y3, y4, y5, y6, y7, g3, w3.heap.size, g5, rfl, ⟨fun h => h0.out (by omega), fun h => h1.out (by omega), fun h => h2.out (by omega), fun h => h3.out (by omega), fun h => h4.out (by omega), fun h => h5.out (by omega), fun h => h6.out (by omega), fun h => h7.out (by omega)⟩, ⟨fun h => ⟨(d3.out (by omega)).1, (d3.out (by omega)).2.1.keep hb, (d3.out (by omega)).2.2⟩, fun _ => ⟨rfl, hz, hBw⟩, fun h => ⟨(d5.out (by omega)).1, (d5.out (by omega)).2.1.keep hb, (d5.out (by omega)).2.2⟩⟩, ⟨fun h1 h2 => by have := (d3.out (by omega)).2.1.1.lt; omega, fun h1 h2 => e35.out (by omega) (by omega), fun h1 h2 => by have := (d5.out (by omega)).2.1.1.lt; omega⟩, HB2⟩
    · split at hx
      case isFalse => simp at hx
      rename_i hbit
      have hx : x = (11, s + 4) := by simpa using hx
      obtain rfl := hx
      refine Sch.step_e rfl rfl (fun K hK => ?_)
      have hz := Zb.new w3
      have hb := bel_box w3 (.cells #[.int .i64 0, .int .i64 0, .int .i64 0, .int .i64 0, .int .i64 0, .int .i32 0] 35)
      have hBw : B + 1 < w3.heap.size := hS.2.2.lt
      have HB2 := bel_tr HB hb
      go_wp2_with fail
      refine hK _ _ (hS.keep hb) ⟨u3, u4, _, y0, y1, y2, y3, y4, y5, y6, y7, g3, g4, w3.heap.size, rfl, ⟨fun h => h0.out (by omega), fun h => h1.out (by omega), fun h => h2.out (by omega), fun h => h3.out (by omega), fun h => h4.out (by omega), fun h => h5.out (by omega), fun h => h6.out (by omega), fun h => h7.out (by omega)⟩, ⟨fun h => ⟨(d3.out (by omega)).1, (d3.out (by omega)).2.1.keep hb, (d3.out (by omega)).2.2⟩, fun h => ⟨(d4.out (by omega)).1, (d4.out (by omega)).2.1.keep hb, (d4.out (by omega)).2.2⟩, fun _ => ⟨rfl, hz, hBw⟩⟩, ⟨fun h1 h2 => e34.out (by omega) (by omega), fun h1 h2 => by have := (d3.out (by omega)).2.1.1.lt; omega, fun h1 h2 => by have := (d4.out (by omega)).2.1.1.lt; omega⟩, HB2⟩

  · rintro a w3 hS ⟨u3, u4, u5, y0, y1, y2, y3, y4, y5, y6, y7, g3, g4, g5, rfl, ⟨h0, h1, h2, h3, h4, h5, h6, h7⟩, ⟨d3, d4, d5⟩, ⟨e34, e35, e45⟩, HB⟩
    obtain rfl := h0.out (by omega)
    obtain rfl := h1.out (by omega)
    obtain rfl := h2.out (by omega)
    obtain rfl := h3.out (by omega)
    obtain rfl := h4.out (by omega)
    obtain rfl := h5.out (by omega)
    obtain rfl := h6.out (by omega)
    obtain rfl := h7.out (by omega)
    obtain ⟨rfl, z3, b3⟩ := d3.out (by omega)
    obtain ⟨rfl, z4, b4⟩ := d4.out (by omega)
    obtain ⟨rfl, z5, b5⟩ := d5.out (by omega)
    have n34 := e34.out (by omega) (by omega)
    have n35 := e35.out (by omega) (by omega)
    have n45 := e45.out (by omega) (by omega)
    have hs1 := gb_put6 w3 g3 kA
    have hs2 := gb_put6 (Nd.putN w3 g3 kA) g4 kB
    have hs3 := gb_put6 (Nd.putN (Nd.putN w3 g3 kA) g4 kB) g5 kC
    have HZ4 := Lib.hid (zb_gb z4 hs1 (by omega))
    have HZ5 := Lib.hid (zb_gb (zb_gb z5 hs1 (by omega)) hs2 (by omega))
    have HN3 := Lib.hid (nb_gb (nb_gb (put_nb z3 kA) hs2 (by omega)) hs3 (by omega))
    have HN4 := Lib.hid (nb_gb (put_nb HZ4.out kB) hs3 (by omega))
    have HN5 := Lib.hid (put_nb HZ5.out kC)
    have HK1 := Lib.hid (k0_gb hS hs1 (by omega) (by have := hS.2.2.lt; omega))
    have HK2 := Lib.hid (k0_gb HK1.out hs2 (by omega) (by have := hS.2.2.lt; omega))
    have HK3 := Lib.hid (k0_gb HK2.out hs3 (by omega) (by have := hS.2.2.lt; omega))
    have HBB : Hid (B = w.heap.size) := HBe
    have HB1 : Hid (Below w.heap.size w (Nd.putN w3 g3 kA)) := Nd.putN_below HB.out (by have := HBB.out; omega) _
    have HB2 : Hid (Below w.heap.size w (Nd.putN (Nd.putN w3 g3 kA) g4 kB)) := Nd.putN_below HB1.out (by have := HBB.out; omega) _
    have HB3 : Hid (Below w.heap.size w (Nd.putN (Nd.putN (Nd.putN w3 g3 kA) g4 kB) g5 kC)) := Nd.putN_below HB2.out (by have := HBB.out; omega) _
    have HZ3 := Lib.hid z3
    clear hs1 hs2 hs3 n34 n35 n45 z3 z4 z5 b3 b4 b5 e34 e35 e45 d3 d4 d5 h0 h1 h2 h3 h4 h5 h6 h7 HB HB1 HB2
    obtain ⟨⟨z0, z1, z2, z3, z4, z5⟩, hf⟩ := HZ3.out
    have f0 := hf 0
    have f1 := hf 1
    have f2 := hf 2
    have f3 := hf 3
    have f4 := hf 4
    have f5 := hf 5
    clear hf
    refine Sch.tn_e rfl rfl (fun K hK => ?_)
    go_wp2_with fail
    refine hK _ (Nd.putN w3 g3 kA) HK1.out ?_
    clear hK K z0 z1 z2 z3 z4 z5 f0 f1 f2 f3 f4 f5 HZ3 hS
    generalize Nd.putN w3 g3 kA = w4 at *
    obtain ⟨⟨z0, z1, z2, z3, z4, z5⟩, hf⟩ := HZ4.out
    have f0 := hf 0
    have f1 := hf 1
    have f2 := hf 2
    have f3 := hf 3
    have f4 := hf 4
    have f5 := hf 5
    clear hf
    refine Sch.tn_e rfl rfl (fun K hK => ?_)
    go_wp2_with fail
    refine hK _ (Nd.putN w4 g4 kB) HK2.out ?_
    clear hK K z0 z1 z2 z3 z4 z5 f0 f1 f2 f3 f4 f5 HZ4
    generalize Nd.putN w4 g4 kB = w5 at *
    obtain ⟨⟨z0, z1, z2, z3, z4, z5⟩, hf⟩ := HZ5.out
    have f0 := hf 0
    have f1 := hf 1
    have f2 := hf 2
    have f3 := hf 3
    have f4 := hf 4
    have f5 := hf 5
    clear hf
    refine Sch.tn_e rfl rfl (fun K hK => ?_)
    go_wp2_with fail
    refine hK _ (Nd.putN w5 g5 kC) HK3.out ?_
    clear hK K z0 z1 z2 z3 z4 z5 f0 f1 f2 f3 f4 f5 HZ5
    generalize Nd.putN w5 g5 kC = w6 at *
    refine Sch.tn_n ?_
    have HK : Hid (Kn B g3 g4 g5 w6) := ⟨HK3.out, HN3.out, HN4.out, HN5.out⟩
    replace HB3 := HB3
    clear HK0 HB0 HK1 HK2 HK3 HN3 HN4 HN5
    go_wp2_with fail
    go_cut [6, 7] from 19 to 26 (fun x y wx => ∃ r g7, x = .slice (some ⟨r, 0, none⟩) 3 3 ∧ y = .pointer (some ⟨g7, 0, none⟩) ∧ Hid (Kn B g3 g4 g5 wx) ∧ Hid (RowN wx (some ⟨r, 0, none⟩) [kA, kB, kC]) ∧ Hid (Nb wx g7 kG) ∧ Hid (Below w.heap.size w wx))
    case first =>
      have hd := (Below.refl w6.heap.size w6).drew
      replace HK := Lib.hid (HK.out.keep hd)
      have HB := Lib.hid HB3.out.drew
      clear hd HB3
      refine Sch.wp_region_tn (Kn B g3 g4 g5) (.val 0 (.val 1 (.val 2 (.val 6 (.two 3 (.two 4 (.two 5 (.two 7 (.one 8 (.val 9 (.one 10 .done))) 8 (.one 7 (.val 9 (.one 10 .done)))) 8 (.one 5 (.one 7 (.val 9 (.one 10 .done))))) 8 (.one 4 (.one 5 (.one 7 (.val 9 (.one 10 .done)))))) 8 (.one 3 (.one 4 (.one 5 (.one 7 (.val 9 (.one 10 .done))))))))))) (by kernel_rfl) (by kernel_rfl) HK.out ?_
      repeat (first
        | (refine Sch.tn_q rfl rfl rfl (fun K hK => ?_); go_big_quiet_op; (first | refine hK _ ?_ | refine ⟨_, fun _ _ => rfl, hK _ ?_⟩); clear hK K)
        | (refine Sch.tn_chk _ _ _ rfl rfl rfl rfl rfl ?_; simp only [Act.put, List.setIfInBounds_toArray, List.set_cons_zero, List.set_cons_succ])
        | (refine Sch.tn_load _ _ _ _ _ rfl rfl rfl rfl (by first | exact Kn.a | exact Kn.b | exact Kn.c | exact Kn.r) rfl ?_; simp only [Act.put, List.setIfInBounds_toArray, List.set_cons_zero, List.set_cons_succ]))
      generalize w6.drew = w7 at *
      refine Sch.tn_two ?_ ?_
      · skip
        refine Sch.tn_e rfl rfl (fun K hK => ?_)
        have hbn := bel_box w7 (.cells #[.int .i64 1, .int .i64 1, .int .i64 0, .int .i64 0, .int .i64 1, .int .i32 97, .int .i64 2, .int .i64 2, .int .i64 1, .int .i64 1, .int .i64 2, .int .i32 98, .int .i64 1, .int .i64 3, .int .i64 9, .int .i64 9, .int .i64 7, .int .i32 0] 35)
        replace HK := Lib.hid (HK.out.keep hbn)
        replace HB := bel_tr HB hbn
        have HR := Lib.hid (RowN.lit w7 [kA, kB, kC] #[.int .i64 1, .int .i64 1, .int .i64 0, .int .i64 0, .int .i64 1, .int .i32 97, .int .i64 2, .int .i64 2, .int .i64 1, .int .i64 1, .int .i64 2, .int .i32 98, .int .i64 1, .int .i64 3, .int .i64 9, .int .i64 9, .int .i64 7, .int .i32 0] 35 (0, 0) rfl)
        clear hbn
        have HRl : Hid (w7.heap.size < (w7.alloc (.cells #[.int .i64 1, .int .i64 1, .int .i64 0, .int .i64 0, .int .i64 1, .int .i32 97, .int .i64 2, .int .i64 2, .int .i64 1, .int .i64 1, .int .i64 2, .int .i32 98, .int .i64 1, .int .i64 3, .int .i64 9, .int .i64 9, .int .i64 7, .int .i32 0] 35)).heap.size) := by show _ < _; simp
        go_wp2_with fail
        refine hK _ _ HK.out ?_
        clear hK K
        generalize w7.alloc (.cells #[.int .i64 1, .int .i64 1, .int .i64 0, .int .i64 0, .int .i64 1, .int .i32 97, .int .i64 2, .int .i64 2, .int .i64 1, .int .i64 1, .int .i64 2, .int .i32 98, .int .i64 1, .int .i64 3, .int .i64 9, .int .i64 9, .int .i64 7, .int .i32 0] 35) = w26 at *
        generalize w7.heap.size = r at *
        refine Sch.tn_two ?_ ?_
        · skip
          refine Sch.tn_e rfl rfl (fun K hK => ?_)
          go_wp2_with fail
          refine (nodes_any _ _).mono ?_
          rintro e w27 ⟨rfl, rfl⟩
          refine hK _ _ HK.out ?_
          clear hK K
          refine Sch.tn_two ?_ ?_
          · skip
            refine Sch.tn_e rfl rfl (fun K hK => ?_)
            go_wp2_with fail
            refine (at_any 1 1 _).mono ?_
            rintro e w28 ⟨rfl, hb⟩
            replace HRl := Lib.hid (Nat.lt_of_lt_of_le HRl.out hb.size)
            replace HK := Lib.hid (HK.out.keep hb)
            replace HR := Lib.hid (HR.out.keep hb)
            replace HB := bel_tr HB hb
            clear hb
            refine hK _ _ HK.out ?_
            clear hK K
            refine Sch.tn_two ?_ ?_
            · skip
              refine Sch.tn_e rfl rfl (fun K hK => ?_)
              go_wp2_with fail
              refine (of_any (1, 1) (0, 0) 1 0 _).mono ?_
              rintro e w29 ⟨rfl, hb⟩
              replace HRl := Lib.hid (Nat.lt_of_lt_of_le HRl.out hb.size)
              replace HK := Lib.hid (HK.out.keep hb)
              replace HR := Lib.hid (HR.out.keep hb)
              replace HB := bel_tr HB hb
              clear hb
              refine hK _ _ HK.out ?_
              clear hK K
              refine Sch.tn_e rfl rfl (fun K hK => ?_)
              have hlt := HK.out.lt
              have HNe : Hid (B ≠ w29.heap.size ∧ B + 1 ≠ w29.heap.size ∧ g3 ≠ w29.heap.size ∧ g4 ≠ w29.heap.size ∧ g5 ≠ w29.heap.size) := by obtain ⟨a1, a2, a3, a4⟩ := hlt; exact ⟨by omega, by omega, by omega, by omega, by omega⟩
              have HG7 : Hid (w.heap.size ≤ w29.heap.size) := HB.out.size
              have HNr : Hid (r ≠ w29.heap.size) := by have := HRl.out; show _ ≠ _; omega
              have hbn := bel_box w29 (.cells #[.int .i64 0, .int .i64 0, .int .i64 0, .int .i64 0, .int .i64 0, .int .i32 0] 35)
              replace HK := Lib.hid (HK.out.keep hbn)
              replace HR := Lib.hid (HR.out.keep hbn)
              replace HB := bel_tr HB hbn
              have HZ := Lib.hid (Zb.new w29)
              clear hbn
              clear hlt
              go_wp2_with fail
              refine hK _ _ HK.out ?_
              clear hK K
              generalize w29.alloc (.cells #[.int .i64 0, .int .i64 0, .int .i64 0, .int .i64 0, .int .i64 0, .int .i32 0] 35) = w30 at *
              generalize w29.heap.size = g7 at *
              repeat (first
                | (refine Sch.tn_q rfl rfl rfl (fun K hK => ?_); go_big_quiet_op; (first | refine hK _ ?_ | refine ⟨_, fun _ _ => rfl, hK _ ?_⟩); clear hK K)
                | (refine Sch.tn_chk _ _ _ rfl rfl rfl rfl rfl ?_; simp only [Act.put, List.setIfInBounds_toArray, List.set_cons_zero, List.set_cons_succ]))
              have HN7 := Lib.hid (put_nb HZ.out kG)
              have hgb := gb_put6 w30 g7 kG
              have HK9 := Lib.hid (kn_gb HK.out hgb HNe.out)
              have HR9 := Lib.hid (HR.out.gb hgb (fun b o e => by cases e; have := HNr.out; simp; omega))
              have HB9 : Hid (Below w.heap.size w (Nd.putN w30 g7 kG)) := Nd.putN_below HB.out (by have := HG7.out; omega) _
              obtain ⟨⟨z0, z1, z2, z3, z4, z5⟩, hf⟩ := HZ.out
              have f0 := hf 0
              have f1 := hf 1
              have f2 := hf 2
              have f3 := hf 3
              have f4 := hf 4
              have f5 := hf 5
              clear hf hgb HK HR HB
              refine Sch.tn_e rfl rfl (fun K hK => ?_)
              go_wp2_with fail
              refine hK _ (Nd.putN w30 g7 kG) HK9.out ?_
              clear hK K z0 z1 z2 z3 z4 z5 f0 f1 f2 f3 f4 f5 HZ
              generalize Nd.putN w30 g7 kG = w9 at *
              refine Sch.tn_n ?_
              go_wp2_with fail
              go_meet
              case rel => exact ⟨r, g7, rfl, rfl, HK9, HR9, HN7, HB9⟩
            · skip
              refine Sch.tn_e rfl rfl (fun K hK => ?_)
              have hlt := HK.out.lt
              have HNe : Hid (B ≠ w28.heap.size ∧ B + 1 ≠ w28.heap.size ∧ g3 ≠ w28.heap.size ∧ g4 ≠ w28.heap.size ∧ g5 ≠ w28.heap.size) := by obtain ⟨a1, a2, a3, a4⟩ := hlt; exact ⟨by omega, by omega, by omega, by omega, by omega⟩
              have HG7 : Hid (w.heap.size ≤ w28.heap.size) := HB.out.size
              have HNr : Hid (r ≠ w28.heap.size) := by have := HRl.out; show _ ≠ _; omega
              have hbn := bel_box w28 (.cells #[.int .i64 0, .int .i64 0, .int .i64 0, .int .i64 0, .int .i64 0, .int .i32 0] 35)
              replace HK := Lib.hid (HK.out.keep hbn)
              replace HR := Lib.hid (HR.out.keep hbn)
              replace HB := bel_tr HB hbn
              have HZ := Lib.hid (Zb.new w28)
              clear hbn
              clear hlt
              go_wp2_with fail
              refine hK _ _ HK.out ?_
              clear hK K
              generalize w28.alloc (.cells #[.int .i64 0, .int .i64 0, .int .i64 0, .int .i64 0, .int .i64 0, .int .i32 0] 35) = w31 at *
              generalize w28.heap.size = g7 at *
              refine Sch.tn_e rfl rfl (fun K hK => ?_)
              go_wp2_with fail
              refine (of_any (1, 1) (0, 0) 1 0 _).mono ?_
              rintro e w32 ⟨rfl, hb⟩
              replace HK := Lib.hid (HK.out.keep hb)
              replace HR := Lib.hid (HR.out.keep hb)
              replace HZ := Lib.hid (HZ.out.keep hb)
              replace HB := bel_tr HB hb
              clear hb
              refine hK _ _ HK.out ?_
              clear hK K
              repeat (first
                | (refine Sch.tn_q rfl rfl rfl (fun K hK => ?_); go_big_quiet_op; (first | refine hK _ ?_ | refine ⟨_, fun _ _ => rfl, hK _ ?_⟩); clear hK K)
                | (refine Sch.tn_chk _ _ _ rfl rfl rfl rfl rfl ?_; simp only [Act.put, List.setIfInBounds_toArray, List.set_cons_zero, List.set_cons_succ]))
              have HN7 := Lib.hid (put_nb HZ.out kG)
              have hgb := gb_put6 w32 g7 kG
              have HK9 := Lib.hid (kn_gb HK.out hgb HNe.out)
              have HR9 := Lib.hid (HR.out.gb hgb (fun b o e => by cases e; have := HNr.out; simp; omega))
              have HB9 : Hid (Below w.heap.size w (Nd.putN w32 g7 kG)) := Nd.putN_below HB.out (by have := HG7.out; omega) _
              obtain ⟨⟨z0, z1, z2, z3, z4, z5⟩, hf⟩ := HZ.out
              have f0 := hf 0
              have f1 := hf 1
              have f2 := hf 2
              have f3 := hf 3
              have f4 := hf 4
              have f5 := hf 5
              clear hf hgb HK HR HB
              refine Sch.tn_e rfl rfl (fun K hK => ?_)
              go_wp2_with fail
              refine hK _ (Nd.putN w32 g7 kG) HK9.out ?_
              clear hK K z0 z1 z2 z3 z4 z5 f0 f1 f2 f3 f4 f5 HZ
              generalize Nd.putN w32 g7 kG = w9 at *
              refine Sch.tn_n ?_
              go_wp2_with fail
              go_meet
              case rel => exact ⟨r, g7, rfl, rfl, HK9, HR9, HN7, HB9⟩
          · skip
            refine Sch.tn_e rfl rfl (fun K hK => ?_)
            have hlt := HK.out.lt
            have HNe : Hid (B ≠ w27.heap.size ∧ B + 1 ≠ w27.heap.size ∧ g3 ≠ w27.heap.size ∧ g4 ≠ w27.heap.size ∧ g5 ≠ w27.heap.size) := by obtain ⟨a1, a2, a3, a4⟩ := hlt; exact ⟨by omega, by omega, by omega, by omega, by omega⟩
            have HG7 : Hid (w.heap.size ≤ w27.heap.size) := HB.out.size
            have HNr : Hid (r ≠ w27.heap.size) := by have := HRl.out; show _ ≠ _; omega
            have hbn := bel_box w27 (.cells #[.int .i64 0, .int .i64 0, .int .i64 0, .int .i64 0, .int .i64 0, .int .i32 0] 35)
            replace HK := Lib.hid (HK.out.keep hbn)
            replace HR := Lib.hid (HR.out.keep hbn)
            replace HB := bel_tr HB hbn
            have HZ := Lib.hid (Zb.new w27)
            clear hbn
            clear hlt
            go_wp2_with fail
            refine hK _ _ HK.out ?_
            clear hK K
            generalize w27.alloc (.cells #[.int .i64 0, .int .i64 0, .int .i64 0, .int .i64 0, .int .i64 0, .int .i32 0] 35) = w33 at *
            generalize w27.heap.size = g7 at *
            refine Sch.tn_e rfl rfl (fun K hK => ?_)
            go_wp2_with fail
            refine (at_any 1 1 _).mono ?_
            rintro e w34 ⟨rfl, hb⟩
            replace HK := Lib.hid (HK.out.keep hb)
            replace HR := Lib.hid (HR.out.keep hb)
            replace HZ := Lib.hid (HZ.out.keep hb)
            replace HB := bel_tr HB hb
            clear hb
            refine hK _ _ HK.out ?_
            clear hK K
            refine Sch.tn_e rfl rfl (fun K hK => ?_)
            go_wp2_with fail
            refine (of_any (1, 1) (0, 0) 1 0 _).mono ?_
            rintro e w35 ⟨rfl, hb⟩
            replace HK := Lib.hid (HK.out.keep hb)
            replace HR := Lib.hid (HR.out.keep hb)
            replace HZ := Lib.hid (HZ.out.keep hb)
            replace HB := bel_tr HB hb
            clear hb
            refine hK _ _ HK.out ?_
            clear hK K
            repeat (first
              | (refine Sch.tn_q rfl rfl rfl (fun K hK => ?_); go_big_quiet_op; (first | refine hK _ ?_ | refine ⟨_, fun _ _ => rfl, hK _ ?_⟩); clear hK K)
              | (refine Sch.tn_chk _ _ _ rfl rfl rfl rfl rfl ?_; simp only [Act.put, List.setIfInBounds_toArray, List.set_cons_zero, List.set_cons_succ]))
            have HN7 := Lib.hid (put_nb HZ.out kG)
            have hgb := gb_put6 w35 g7 kG
            have HK9 := Lib.hid (kn_gb HK.out hgb HNe.out)
            have HR9 := Lib.hid (HR.out.gb hgb (fun b o e => by cases e; have := HNr.out; simp; omega))
            have HB9 : Hid (Below w.heap.size w (Nd.putN w35 g7 kG)) := Nd.putN_below HB.out (by have := HG7.out; omega) _
            obtain ⟨⟨z0, z1, z2, z3, z4, z5⟩, hf⟩ := HZ.out
            have f0 := hf 0
            have f1 := hf 1
            have f2 := hf 2
            have f3 := hf 3
            have f4 := hf 4
            have f5 := hf 5
            clear hf hgb HK HR HB
            refine Sch.tn_e rfl rfl (fun K hK => ?_)
            go_wp2_with fail
            refine hK _ (Nd.putN w35 g7 kG) HK9.out ?_
            clear hK K z0 z1 z2 z3 z4 z5 f0 f1 f2 f3 f4 f5 HZ
            generalize Nd.putN w35 g7 kG = w9 at *
            refine Sch.tn_n ?_
            go_wp2_with fail
            go_meet
            case rel => exact ⟨r, g7, rfl, rfl, HK9, HR9, HN7, HB9⟩
        · skip
          refine Sch.tn_e rfl rfl (fun K hK => ?_)
          have hlt := HK.out.lt
          have HNe : Hid (B ≠ w26.heap.size ∧ B + 1 ≠ w26.heap.size ∧ g3 ≠ w26.heap.size ∧ g4 ≠ w26.heap.size ∧ g5 ≠ w26.heap.size) := by obtain ⟨a1, a2, a3, a4⟩ := hlt; exact ⟨by omega, by omega, by omega, by omega, by omega⟩
          have HG7 : Hid (w.heap.size ≤ w26.heap.size) := HB.out.size
          have HNr : Hid (r ≠ w26.heap.size) := by have := HRl.out; show _ ≠ _; omega
          have hbn := bel_box w26 (.cells #[.int .i64 0, .int .i64 0, .int .i64 0, .int .i64 0, .int .i64 0, .int .i32 0] 35)
          replace HK := Lib.hid (HK.out.keep hbn)
          replace HR := Lib.hid (HR.out.keep hbn)
          replace HB := bel_tr HB hbn
          have HZ := Lib.hid (Zb.new w26)
          clear hbn
          clear hlt
          go_wp2_with fail
          refine hK _ _ HK.out ?_
          clear hK K
          generalize w26.alloc (.cells #[.int .i64 0, .int .i64 0, .int .i64 0, .int .i64 0, .int .i64 0, .int .i32 0] 35) = w36 at *
          generalize w26.heap.size = g7 at *
          refine Sch.tn_e rfl rfl (fun K hK => ?_)
          go_wp2_with fail
          refine (nodes_any _ _).mono ?_
          rintro e w37 ⟨rfl, rfl⟩
          refine hK _ _ HK.out ?_
          clear hK K
          refine Sch.tn_e rfl rfl (fun K hK => ?_)
          go_wp2_with fail
          refine (at_any 1 1 _).mono ?_
          rintro e w38 ⟨rfl, hb⟩
          replace HK := Lib.hid (HK.out.keep hb)
          replace HR := Lib.hid (HR.out.keep hb)
          replace HZ := Lib.hid (HZ.out.keep hb)
          replace HB := bel_tr HB hb
          clear hb
          refine hK _ _ HK.out ?_
          clear hK K
          refine Sch.tn_e rfl rfl (fun K hK => ?_)
          go_wp2_with fail
          refine (of_any (1, 1) (0, 0) 1 0 _).mono ?_
          rintro e w39 ⟨rfl, hb⟩
          replace HK := Lib.hid (HK.out.keep hb)
          replace HR := Lib.hid (HR.out.keep hb)
          replace HZ := Lib.hid (HZ.out.keep hb)
          replace HB := bel_tr HB hb
          clear hb
          refine hK _ _ HK.out ?_
          clear hK K
          repeat (first
            | (refine Sch.tn_q rfl rfl rfl (fun K hK => ?_); go_big_quiet_op; (first | refine hK _ ?_ | refine ⟨_, fun _ _ => rfl, hK _ ?_⟩); clear hK K)
            | (refine Sch.tn_chk _ _ _ rfl rfl rfl rfl rfl ?_; simp only [Act.put, List.setIfInBounds_toArray, List.set_cons_zero, List.set_cons_succ]))
          have HN7 := Lib.hid (put_nb HZ.out kG)
          have hgb := gb_put6 w39 g7 kG
          have HK9 := Lib.hid (kn_gb HK.out hgb HNe.out)
          have HR9 := Lib.hid (HR.out.gb hgb (fun b o e => by cases e; have := HNr.out; simp; omega))
          have HB9 : Hid (Below w.heap.size w (Nd.putN w39 g7 kG)) := Nd.putN_below HB.out (by have := HG7.out; omega) _
          obtain ⟨⟨z0, z1, z2, z3, z4, z5⟩, hf⟩ := HZ.out
          have f0 := hf 0
          have f1 := hf 1
          have f2 := hf 2
          have f3 := hf 3
          have f4 := hf 4
          have f5 := hf 5
          clear hf hgb HK HR HB
          refine Sch.tn_e rfl rfl (fun K hK => ?_)
          go_wp2_with fail
          refine hK _ (Nd.putN w39 g7 kG) HK9.out ?_
          clear hK K z0 z1 z2 z3 z4 z5 f0 f1 f2 f3 f4 f5 HZ
          generalize Nd.putN w39 g7 kG = w9 at *
          refine Sch.tn_n ?_
          go_wp2_with fail
          go_meet
          case rel => exact ⟨r, g7, rfl, rfl, HK9, HR9, HN7, HB9⟩
      · skip
        refine Sch.tn_e rfl rfl (fun K hK => ?_)
        have hlt := HK.out.lt
        have HNe : Hid (B ≠ w7.heap.size ∧ B + 1 ≠ w7.heap.size ∧ g3 ≠ w7.heap.size ∧ g4 ≠ w7.heap.size ∧ g5 ≠ w7.heap.size) := by obtain ⟨a1, a2, a3, a4⟩ := hlt; exact ⟨by omega, by omega, by omega, by omega, by omega⟩
        have HG7 : Hid (w.heap.size ≤ w7.heap.size) := HB.out.size
        have hbn := bel_box w7 (.cells #[.int .i64 0, .int .i64 0, .int .i64 0, .int .i64 0, .int .i64 0, .int .i32 0] 35)
        replace HK := Lib.hid (HK.out.keep hbn)
        replace HB := bel_tr HB hbn
        have HZ := Lib.hid (Zb.new w7)
        clear hbn
        clear hlt
        go_wp2_with fail
        refine hK _ _ HK.out ?_
        clear hK K
        generalize w7.alloc (.cells #[.int .i64 0, .int .i64 0, .int .i64 0, .int .i64 0, .int .i64 0, .int .i32 0] 35) = w40 at *
        generalize w7.heap.size = g7 at *
        refine Sch.tn_e rfl rfl (fun K hK => ?_)
        have HNr : Hid (w40.heap.size ≠ g7) := by have := HZ.out.1.lt; show _ ≠ _; omega
        have hbn := bel_box w40 (.cells #[.int .i64 1, .int .i64 1, .int .i64 0, .int .i64 0, .int .i64 1, .int .i32 97, .int .i64 2, .int .i64 2, .int .i64 1, .int .i64 1, .int .i64 2, .int .i32 98, .int .i64 1, .int .i64 3, .int .i64 9, .int .i64 9, .int .i64 7, .int .i32 0] 35)
        replace HK := Lib.hid (HK.out.keep hbn)
        replace HZ := Lib.hid (HZ.out.keep hbn)
        replace HB := bel_tr HB hbn
        have HR := Lib.hid (RowN.lit w40 [kA, kB, kC] #[.int .i64 1, .int .i64 1, .int .i64 0, .int .i64 0, .int .i64 1, .int .i32 97, .int .i64 2, .int .i64 2, .int .i64 1, .int .i64 1, .int .i64 2, .int .i32 98, .int .i64 1, .int .i64 3, .int .i64 9, .int .i64 9, .int .i64 7, .int .i32 0] 35 (0, 0) rfl)
        clear hbn
        go_wp2_with fail
        refine hK _ _ HK.out ?_
        clear hK K
        generalize w40.alloc (.cells #[.int .i64 1, .int .i64 1, .int .i64 0, .int .i64 0, .int .i64 1, .int .i32 97, .int .i64 2, .int .i64 2, .int .i64 1, .int .i64 1, .int .i64 2, .int .i32 98, .int .i64 1, .int .i64 3, .int .i64 9, .int .i64 9, .int .i64 7, .int .i32 0] 35) = w41 at *
        generalize w40.heap.size = r at *
        refine Sch.tn_e rfl rfl (fun K hK => ?_)
        go_wp2_with fail
        refine (nodes_any _ _).mono ?_
        rintro e w42 ⟨rfl, rfl⟩
        refine hK _ _ HK.out ?_
        clear hK K
        refine Sch.tn_e rfl rfl (fun K hK => ?_)
        go_wp2_with fail
        refine (at_any 1 1 _).mono ?_
        rintro e w43 ⟨rfl, hb⟩
        replace HK := Lib.hid (HK.out.keep hb)
        replace HZ := Lib.hid (HZ.out.keep hb)
        replace HR := Lib.hid (HR.out.keep hb)
        replace HB := bel_tr HB hb
        clear hb
        refine hK _ _ HK.out ?_
        clear hK K
        refine Sch.tn_e rfl rfl (fun K hK => ?_)
        go_wp2_with fail
        refine (of_any (1, 1) (0, 0) 1 0 _).mono ?_
        rintro e w44 ⟨rfl, hb⟩
        replace HK := Lib.hid (HK.out.keep hb)
        replace HZ := Lib.hid (HZ.out.keep hb)
        replace HR := Lib.hid (HR.out.keep hb)
        replace HB := bel_tr HB hb
        clear hb
        refine hK _ _ HK.out ?_
        clear hK K
        repeat (first
          | (refine Sch.tn_q rfl rfl rfl (fun K hK => ?_); go_big_quiet_op; (first | refine hK _ ?_ | refine ⟨_, fun _ _ => rfl, hK _ ?_⟩); clear hK K)
          | (refine Sch.tn_chk _ _ _ rfl rfl rfl rfl rfl ?_; simp only [Act.put, List.setIfInBounds_toArray, List.set_cons_zero, List.set_cons_succ]))
        have HN7 := Lib.hid (put_nb HZ.out kG)
        have hgb := gb_put6 w44 g7 kG
        have HK9 := Lib.hid (kn_gb HK.out hgb HNe.out)
        have HR9 := Lib.hid (HR.out.gb hgb (fun b o e => by cases e; have := HNr.out; simp; omega))
        have HB9 : Hid (Below w.heap.size w (Nd.putN w44 g7 kG)) := Nd.putN_below HB.out (by have := HG7.out; omega) _
        obtain ⟨⟨z0, z1, z2, z3, z4, z5⟩, hf⟩ := HZ.out
        have f0 := hf 0
        have f1 := hf 1
        have f2 := hf 2
        have f3 := hf 3
        have f4 := hf 4
        have f5 := hf 5
        clear hf hgb HK HR HB
        refine Sch.tn_e rfl rfl (fun K hK => ?_)
        go_wp2_with fail
        refine hK _ (Nd.putN w44 g7 kG) HK9.out ?_
        clear hK K z0 z1 z2 z3 z4 z5 f0 f1 f2 f3 f4 f5 HZ
        generalize Nd.putN w44 g7 kG = w9 at *
        refine Sch.tn_n ?_
        go_wp2_with fail
        go_meet
        case rel => exact ⟨r, g7, rfl, rfl, HK9, HR9, HN7, HB9⟩
    case rest =>
      obtain ⟨r, g7, rfl, rfl, HK, HR, HG, HB⟩ := hcut
      clear HB3
      generalize wc = w7 at *
      skip
      have HK4 : Hid (K4 B g3 g4 g5 g7 w7) := ⟨HK.out, HG.out⟩
      clear HK HG
      go_wp2_with fail
      go_cut [75] from 27 to 75 (fun x wx => x = .bool false ∧ Hid (Kn B g3 g4 g5 wx) ∧ Hid (RowN wx (some ⟨r, 0, none⟩) [kA, kB, kC]) ∧ Hid (Below w.heap.size w wx))
      case first =>
        skip
        have hd := (Below.refl w7.heap.size w7).drew
        have HK := Lib.hid (HK4.out.keep hd)
        replace HR := Lib.hid (HR.out.keep hd)
        replace HB := Lib.hid HB.out.drew
        clear hd HK4
        refine Sch.wp_region_tn (K4 B g3 g4 g5 g7) (.val 0 (.one 1 (.val 2 (.val 3 (.val 4 (.val 5 (.one 6 (.one 7 (.one 8 (.val 9 (.val 10 (.val 11 (.val 12 (.one 13 (.one 14 (.one 15 (.val 16 (.val 17 (.val 18 (.val 19 (.val 20 (.val 21 (.val 24 (.one 22 (.one 23 (.one 25 (.val 26 (.val 27 (.val 28 (.val 29 (.val 30 (.val 33 (.two 31 (.two 32 (.one 34 (.one 35 (.one 36 (.val 37 (.val 38 (.val 39 (.val 40 (.val 42 (.one 41 (.one 43 (.one 44 (.one 45 (.one 46 (.val 47 (.val 48 .done))))))))))))))) 34 (.one 32 (.one 35 (.one 36 (.val 37 (.val 38 (.val 39 (.val 40 (.val 42 (.one 41 (.one 43 (.one 44 (.one 45 (.one 46 (.val 47 (.val 48 .done)))))))))))))))) 34 (.one 31 (.one 32 (.one 35 (.one 36 (.val 37 (.val 38 (.val 39 (.val 40 (.val 42 (.one 41 (.one 43 (.one 44 (.one 45 (.one 46 (.val 47 (.val 48 .done))))))))))))))))))))))))))))))))))))))))))))))))) (by kernel_rfl) (by kernel_rfl) HK.out ?_
        repeat (first
          | (refine Sch.tn_q rfl rfl rfl (fun K hK => ?_); go_big_quiet_op; (first | refine hK _ ?_ | refine ⟨_, fun _ _ => rfl, hK _ ?_⟩); clear hK K)
          | (refine Sch.tn_chk _ _ _ rfl rfl rfl rfl rfl ?_; simp only [Act.put, List.setIfInBounds_toArray, List.set_cons_zero, List.set_cons_succ])
          | (refine Sch.tn_load _ _ _ _ _ rfl rfl rfl rfl (by first | exact K4.a | exact K4.b | exact K4.c | exact K4.g | exact K4.r) rfl ?_; simp only [Act.put, List.setIfInBounds_toArray, List.set_cons_zero, List.set_cons_succ]))
        generalize w7.drew = w9 at *
        refine Sch.tn_e rfl rfl (fun K hK => ?_)
        go_wp2_with fail
        refine (validS_lit [kA, kB, kC] true ex1 rfl HR.out (by decide)).mono ?_
        rintro e w61 ⟨rfl, hb⟩
        replace HK := Lib.hid (HK.out.keep hb)
        replace HR := Lib.hid (HR.out.keep hb)
        replace HB := bel_tr HB hb
        clear hb
        refine hK _ _ HK.out ?_
        clear hK K
        repeat (first
          | (refine Sch.tn_q rfl rfl rfl (fun K hK => ?_); go_big_quiet_op; (first | refine hK _ ?_ | refine ⟨_, fun _ _ => rfl, hK _ ?_⟩); clear hK K)
          | (refine Sch.tn_chk _ _ _ rfl rfl rfl rfl rfl ?_; simp only [Act.put, List.setIfInBounds_toArray, List.set_cons_zero, List.set_cons_succ])
          | (refine Sch.tn_load _ _ _ _ _ rfl rfl rfl rfl (by first | exact K4.a | exact K4.b | exact K4.c | exact K4.g | exact K4.r) rfl ?_; simp only [Act.put, List.setIfInBounds_toArray, List.set_cons_zero, List.set_cons_succ]))
        refine Sch.tn_e rfl rfl (fun K hK => ?_)
        have hbn := bel_box w61 (.cells #[.int .i64 2, .int .i64 2, .int .i64 1, .int .i64 1, .int .i64 2, .int .i32 98, .int .i64 1, .int .i64 1, .int .i64 0, .int .i64 0, .int .i64 1, .int .i32 97] 35)
        replace HK := Lib.hid (HK.out.keep hbn)
        replace HR := Lib.hid (HR.out.keep hbn)
        replace HB := bel_tr HB hbn
        have HA := Lib.hid (RowN.lit w61 [kB, kA] #[.int .i64 2, .int .i64 2, .int .i64 1, .int .i64 1, .int .i64 2, .int .i32 98, .int .i64 1, .int .i64 1, .int .i64 0, .int .i64 0, .int .i64 1, .int .i32 97] 35 (0, 0) rfl)
        clear hbn
        go_wp2_with fail
        refine hK _ _ HK.out ?_
        clear hK K
        generalize w61.alloc (.cells #[.int .i64 2, .int .i64 2, .int .i64 1, .int .i64 1, .int .i64 2, .int .i32 98, .int .i64 1, .int .i64 1, .int .i64 0, .int .i64 0, .int .i64 1, .int .i32 97] 35) = w62 at *
        generalize w61.heap.size = a62 at *
        repeat (first
          | (refine Sch.tn_q rfl rfl rfl (fun K hK => ?_); go_big_quiet_op; (first | refine hK _ ?_ | refine ⟨_, fun _ _ => rfl, hK _ ?_⟩); clear hK K)
          | (refine Sch.tn_chk _ _ _ rfl rfl rfl rfl rfl ?_; simp only [Act.put, List.setIfInBounds_toArray, List.set_cons_zero, List.set_cons_succ])
          | (refine Sch.tn_load _ _ _ _ _ rfl rfl rfl rfl (by first | exact K4.a | exact K4.b | exact K4.c | exact K4.g | exact K4.r) rfl ?_; simp only [Act.put, List.setIfInBounds_toArray, List.set_cons_zero, List.set_cons_succ]))
        refine Sch.tn_e rfl rfl (fun K hK => ?_)
        go_wp2_with fail
        refine (nodes_any _ _).mono ?_
        rintro e w63 ⟨rfl, rfl⟩
        refine hK _ _ HK.out ?_
        clear hK K
        repeat (first
          | (refine Sch.tn_q rfl rfl rfl (fun K hK => ?_); go_big_quiet_op; (first | refine hK _ ?_ | refine ⟨_, fun _ _ => rfl, hK _ ?_⟩); clear hK K)
          | (refine Sch.tn_chk _ _ _ rfl rfl rfl rfl rfl ?_; simp only [Act.put, List.setIfInBounds_toArray, List.set_cons_zero, List.set_cons_succ])
          | (refine Sch.tn_load _ _ _ _ _ rfl rfl rfl rfl (by first | exact K4.a | exact K4.b | exact K4.c | exact K4.g | exact K4.r) rfl ?_; simp only [Act.put, List.setIfInBounds_toArray, List.set_cons_zero, List.set_cons_succ]))
        refine Sch.tn_e rfl rfl (fun K hK => ?_)
        go_wp2_with fail
        refine (validS_lit [kB, kA] false ex2 rfl HA.out (by decide)).mono ?_
        rintro e w64 ⟨rfl, hb⟩
        replace HK := Lib.hid (HK.out.keep hb)
        replace HR := Lib.hid (HR.out.keep hb)
        replace HA := Lib.hid (HA.out.keep hb)
        replace HB := bel_tr HB hb
        clear hb
        refine hK _ _ HK.out ?_
        clear hK K
        repeat (first
          | (refine Sch.tn_q rfl rfl rfl (fun K hK => ?_); go_big_quiet_op; (first | refine hK _ ?_ | refine ⟨_, fun _ _ => rfl, hK _ ?_⟩); clear hK K)
          | (refine Sch.tn_chk _ _ _ rfl rfl rfl rfl rfl ?_; simp only [Act.put, List.setIfInBounds_toArray, List.set_cons_zero, List.set_cons_succ])
          | (refine Sch.tn_load _ _ _ _ _ rfl rfl rfl rfl (by first | exact K4.a | exact K4.b | exact K4.c | exact K4.g | exact K4.r) rfl ?_; simp only [Act.put, List.setIfInBounds_toArray, List.set_cons_zero, List.set_cons_succ]))
        clear HA
        refine Sch.tn_e rfl rfl (fun K hK => ?_)
        have hbn := bel_box w64 (.cells #[.int .i64 1, .int .i64 1, .int .i64 0, .int .i64 0, .int .i64 1, .int .i32 97, .int .i64 1, .int .i64 1, .int .i64 0, .int .i64 0, .int .i64 1, .int .i32 97] 35)
        replace HK := Lib.hid (HK.out.keep hbn)
        replace HR := Lib.hid (HR.out.keep hbn)
        replace HB := bel_tr HB hbn
        have HA := Lib.hid (RowN.lit w64 [kA, kA] #[.int .i64 1, .int .i64 1, .int .i64 0, .int .i64 0, .int .i64 1, .int .i32 97, .int .i64 1, .int .i64 1, .int .i64 0, .int .i64 0, .int .i64 1, .int .i32 97] 35 (0, 0) rfl)
        clear hbn
        go_wp2_with fail
        refine hK _ _ HK.out ?_
        clear hK K
        generalize w64.alloc (.cells #[.int .i64 1, .int .i64 1, .int .i64 0, .int .i64 0, .int .i64 1, .int .i32 97, .int .i64 1, .int .i64 1, .int .i64 0, .int .i64 0, .int .i64 1, .int .i32 97] 35) = w65 at *
        generalize w64.heap.size = a65 at *
        repeat (first
          | (refine Sch.tn_q rfl rfl rfl (fun K hK => ?_); go_big_quiet_op; (first | refine hK _ ?_ | refine ⟨_, fun _ _ => rfl, hK _ ?_⟩); clear hK K)
          | (refine Sch.tn_chk _ _ _ rfl rfl rfl rfl rfl ?_; simp only [Act.put, List.setIfInBounds_toArray, List.set_cons_zero, List.set_cons_succ])
          | (refine Sch.tn_load _ _ _ _ _ rfl rfl rfl rfl (by first | exact K4.a | exact K4.b | exact K4.c | exact K4.g | exact K4.r) rfl ?_; simp only [Act.put, List.setIfInBounds_toArray, List.set_cons_zero, List.set_cons_succ]))
        refine Sch.tn_e rfl rfl (fun K hK => ?_)
        go_wp2_with fail
        refine (nodes_any _ _).mono ?_
        rintro e w66 ⟨rfl, rfl⟩
        refine hK _ _ HK.out ?_
        clear hK K
        repeat (first
          | (refine Sch.tn_q rfl rfl rfl (fun K hK => ?_); go_big_quiet_op; (first | refine hK _ ?_ | refine ⟨_, fun _ _ => rfl, hK _ ?_⟩); clear hK K)
          | (refine Sch.tn_chk _ _ _ rfl rfl rfl rfl rfl ?_; simp only [Act.put, List.setIfInBounds_toArray, List.set_cons_zero, List.set_cons_succ])
          | (refine Sch.tn_load _ _ _ _ _ rfl rfl rfl rfl (by first | exact K4.a | exact K4.b | exact K4.c | exact K4.g | exact K4.r) rfl ?_; simp only [Act.put, List.setIfInBounds_toArray, List.set_cons_zero, List.set_cons_succ]))
        refine Sch.tn_e rfl rfl (fun K hK => ?_)
        go_wp2_with fail
        refine (validS_lit [kA, kA] false ex3 rfl HA.out (by decide)).mono ?_
        rintro e w67 ⟨rfl, hb⟩
        replace HK := Lib.hid (HK.out.keep hb)
        replace HR := Lib.hid (HR.out.keep hb)
        replace HA := Lib.hid (HA.out.keep hb)
        replace HB := bel_tr HB hb
        clear hb
        refine hK _ _ HK.out ?_
        clear hK K
        repeat (first
          | (refine Sch.tn_q rfl rfl rfl (fun K hK => ?_); go_big_quiet_op; (first | refine hK _ ?_ | refine ⟨_, fun _ _ => rfl, hK _ ?_⟩); clear hK K)
          | (refine Sch.tn_chk _ _ _ rfl rfl rfl rfl rfl ?_; simp only [Act.put, List.setIfInBounds_toArray, List.set_cons_zero, List.set_cons_succ])
          | (refine Sch.tn_load _ _ _ _ _ rfl rfl rfl rfl (by first | exact K4.a | exact K4.b | exact K4.c | exact K4.g | exact K4.r) rfl ?_; simp only [Act.put, List.setIfInBounds_toArray, List.set_cons_zero, List.set_cons_succ]))
        clear HA
        refine Sch.tn_e rfl rfl (fun K hK => ?_)
        have hbn := bel_box w67 (.cells #[.int .i64 1, .int .i64 3, .int .i64 9, .int .i64 9, .int .i64 7, .int .i32 0, .int .i64 1, .int .i64 1, .int .i64 0, .int .i64 0, .int .i64 1, .int .i32 97, .int .i64 2, .int .i64 2, .int .i64 1, .int .i64 1, .int .i64 2, .int .i32 98, .int .i64 1, .int .i64 1, .int .i64 0, .int .i64 0, .int .i64 1, .int .i32 97] 35)
        replace HK := Lib.hid (HK.out.keep hbn)
        replace HR := Lib.hid (HR.out.keep hbn)
        replace HB := bel_tr HB hbn
        have HA := Lib.hid (RowN.lit w67 [kC, kA, kB, kA] #[.int .i64 1, .int .i64 3, .int .i64 9, .int .i64 9, .int .i64 7, .int .i32 0, .int .i64 1, .int .i64 1, .int .i64 0, .int .i64 0, .int .i64 1, .int .i32 97, .int .i64 2, .int .i64 2, .int .i64 1, .int .i64 1, .int .i64 2, .int .i32 98, .int .i64 1, .int .i64 1, .int .i64 0, .int .i64 0, .int .i64 1, .int .i32 97] 35 (0, 0) rfl)
        clear hbn
        go_wp2_with fail
        refine hK _ _ HK.out ?_
        clear hK K
        generalize w67.alloc (.cells #[.int .i64 1, .int .i64 3, .int .i64 9, .int .i64 9, .int .i64 7, .int .i32 0, .int .i64 1, .int .i64 1, .int .i64 0, .int .i64 0, .int .i64 1, .int .i32 97, .int .i64 2, .int .i64 2, .int .i64 1, .int .i64 1, .int .i64 2, .int .i32 98, .int .i64 1, .int .i64 1, .int .i64 0, .int .i64 0, .int .i64 1, .int .i32 97] 35) = w68 at *
        generalize w67.heap.size = a68 at *
        repeat (first
          | (refine Sch.tn_q rfl rfl rfl (fun K hK => ?_); go_big_quiet_op; (first | refine hK _ ?_ | refine ⟨_, fun _ _ => rfl, hK _ ?_⟩); clear hK K)
          | (refine Sch.tn_chk _ _ _ rfl rfl rfl rfl rfl ?_; simp only [Act.put, List.setIfInBounds_toArray, List.set_cons_zero, List.set_cons_succ])
          | (refine Sch.tn_load _ _ _ _ _ rfl rfl rfl rfl (by first | exact K4.a | exact K4.b | exact K4.c | exact K4.g | exact K4.r) rfl ?_; simp only [Act.put, List.setIfInBounds_toArray, List.set_cons_zero, List.set_cons_succ]))
        refine Sch.tn_e rfl rfl (fun K hK => ?_)
        go_wp2_with fail
        refine (nodes_any _ _).mono ?_
        rintro e w69 ⟨rfl, rfl⟩
        refine hK _ _ HK.out ?_
        clear hK K
        repeat (first
          | (refine Sch.tn_q rfl rfl rfl (fun K hK => ?_); go_big_quiet_op; (first | refine hK _ ?_ | refine ⟨_, fun _ _ => rfl, hK _ ?_⟩); clear hK K)
          | (refine Sch.tn_chk _ _ _ rfl rfl rfl rfl rfl ?_; simp only [Act.put, List.setIfInBounds_toArray, List.set_cons_zero, List.set_cons_succ])
          | (refine Sch.tn_load _ _ _ _ _ rfl rfl rfl rfl (by first | exact K4.a | exact K4.b | exact K4.c | exact K4.g | exact K4.r) rfl ?_; simp only [Act.put, List.setIfInBounds_toArray, List.set_cons_zero, List.set_cons_succ]))
        refine Sch.tn_e rfl rfl (fun K hK => ?_)
        go_wp2_with fail
        refine (made_lit [kC, kA, kB, kA] [kA, kB, kC] 0 ex4 (by decide) rfl rfl HA.out HR.out (by decide) (by decide)).mono ?_
        rintro e w70 ⟨rfl, hb⟩
        replace HK := Lib.hid (HK.out.keep hb)
        replace HR := Lib.hid (HR.out.keep hb)
        replace HA := Lib.hid (HA.out.keep hb)
        replace HB := bel_tr HB hb
        clear hb
        refine hK _ _ HK.out ?_
        clear hK K
        repeat (first
          | (refine Sch.tn_q rfl rfl rfl (fun K hK => ?_); go_big_quiet_op; (first | refine hK _ ?_ | refine ⟨_, fun _ _ => rfl, hK _ ?_⟩); clear hK K)
          | (refine Sch.tn_chk _ _ _ rfl rfl rfl rfl rfl ?_; simp only [Act.put, List.setIfInBounds_toArray, List.set_cons_zero, List.set_cons_succ])
          | (refine Sch.tn_load _ _ _ _ _ rfl rfl rfl rfl (by first | exact K4.a | exact K4.b | exact K4.c | exact K4.g | exact K4.r) rfl ?_; simp only [Act.put, List.setIfInBounds_toArray, List.set_cons_zero, List.set_cons_succ]))
        clear HA
        refine Sch.tn_two ?_ ?_
        · skip
          refine Sch.tn_e rfl rfl (fun K hK => ?_)
          have hbn := bel_box w70 (.cells #[.int .i64 1, .int .i64 1, .int .i64 0, .int .i64 0, .int .i64 1, .int .i32 97, .int .i64 1, .int .i64 1, .int .i64 0, .int .i64 0, .int .i64 1, .int .i32 0] 35)
          replace HK := Lib.hid (HK.out.keep hbn)
          replace HR := Lib.hid (HR.out.keep hbn)
          replace HB := bel_tr HB hbn
          have HA := Lib.hid (RowN.lit w70 [kA, kG] #[.int .i64 1, .int .i64 1, .int .i64 0, .int .i64 0, .int .i64 1, .int .i32 97, .int .i64 1, .int .i64 1, .int .i64 0, .int .i64 0, .int .i64 1, .int .i32 0] 35 (0, 0) rfl)
          clear hbn
          go_wp2_with fail
          refine hK _ _ HK.out ?_
          clear hK K
          generalize w70.alloc (.cells #[.int .i64 1, .int .i64 1, .int .i64 0, .int .i64 0, .int .i64 1, .int .i32 97, .int .i64 1, .int .i64 1, .int .i64 0, .int .i64 0, .int .i64 1, .int .i32 0] 35) = w71 at *
          generalize w70.heap.size = a71 at *
          repeat (first
            | (refine Sch.tn_q rfl rfl rfl (fun K hK => ?_); go_big_quiet_op; (first | refine hK _ ?_ | refine ⟨_, fun _ _ => rfl, hK _ ?_⟩); clear hK K)
            | (refine Sch.tn_chk _ _ _ rfl rfl rfl rfl rfl ?_; simp only [Act.put, List.setIfInBounds_toArray, List.set_cons_zero, List.set_cons_succ])
            | (refine Sch.tn_load _ _ _ _ _ rfl rfl rfl rfl (by first | exact K4.a | exact K4.b | exact K4.c | exact K4.g | exact K4.r) rfl ?_; simp only [Act.put, List.setIfInBounds_toArray, List.set_cons_zero, List.set_cons_succ]))
          refine Sch.tn_two ?_ ?_
          · skip
            refine Sch.tn_e rfl rfl (fun K hK => ?_)
            go_wp2_with fail
            refine (nodes_any _ _).mono ?_
            rintro e w72 ⟨rfl, rfl⟩
            refine hK _ _ HK.out ?_
            clear hK K
            repeat (first
              | (refine Sch.tn_q rfl rfl rfl (fun K hK => ?_); go_big_quiet_op; (first | refine hK _ ?_ | refine ⟨_, fun _ _ => rfl, hK _ ?_⟩); clear hK K)
              | (refine Sch.tn_chk _ _ _ rfl rfl rfl rfl rfl ?_; simp only [Act.put, List.setIfInBounds_toArray, List.set_cons_zero, List.set_cons_succ])
              | (refine Sch.tn_load _ _ _ _ _ rfl rfl rfl rfl (by first | exact K4.a | exact K4.b | exact K4.c | exact K4.g | exact K4.r) rfl ?_; simp only [Act.put, List.setIfInBounds_toArray, List.set_cons_zero, List.set_cons_succ]))
            refine Sch.tn_e rfl rfl (fun K hK => ?_)
            have hbn := bel_box w72 (.cells #[.int .i64 1, .int .i64 1, .int .i64 0, .int .i64 0, .int .i64 1, .int .i32 0] 35)
            replace HK := Lib.hid (HK.out.keep hbn)
            replace HR := Lib.hid (HR.out.keep hbn)
            replace HA := Lib.hid (HA.out.keep hbn)
            replace HB := bel_tr HB hbn
            have HG := Lib.hid (RowN.lit w72 [kG] #[.int .i64 1, .int .i64 1, .int .i64 0, .int .i64 0, .int .i64 1, .int .i32 0] 35 (0, 0) rfl)
            clear hbn
            go_wp2_with fail
            refine hK _ _ HK.out ?_
            clear hK K
            generalize w72.alloc (.cells #[.int .i64 1, .int .i64 1, .int .i64 0, .int .i64 0, .int .i64 1, .int .i32 0] 35) = w73 at *
            generalize w72.heap.size = a73 at *
            repeat (first
              | (refine Sch.tn_q rfl rfl rfl (fun K hK => ?_); go_big_quiet_op; (first | refine hK _ ?_ | refine ⟨_, fun _ _ => rfl, hK _ ?_⟩); clear hK K)
              | (refine Sch.tn_chk _ _ _ rfl rfl rfl rfl rfl ?_; simp only [Act.put, List.setIfInBounds_toArray, List.set_cons_zero, List.set_cons_succ])
              | (refine Sch.tn_load _ _ _ _ _ rfl rfl rfl rfl (by first | exact K4.a | exact K4.b | exact K4.c | exact K4.g | exact K4.r) rfl ?_; simp only [Act.put, List.setIfInBounds_toArray, List.set_cons_zero, List.set_cons_succ]))
            refine Sch.tn_e rfl rfl (fun K hK => ?_)
            go_wp2_with fail
            refine (nodes_any _ _).mono ?_
            rintro e w74 ⟨rfl, rfl⟩
            refine hK _ _ HK.out ?_
            clear hK K
            repeat (first
              | (refine Sch.tn_q rfl rfl rfl (fun K hK => ?_); go_big_quiet_op; (first | refine hK _ ?_ | refine ⟨_, fun _ _ => rfl, hK _ ?_⟩); clear hK K)
              | (refine Sch.tn_chk _ _ _ rfl rfl rfl rfl rfl ?_; simp only [Act.put, List.setIfInBounds_toArray, List.set_cons_zero, List.set_cons_succ])
              | (refine Sch.tn_load _ _ _ _ _ rfl rfl rfl rfl (by first | exact K4.a | exact K4.b | exact K4.c | exact K4.g | exact K4.r) rfl ?_; simp only [Act.put, List.setIfInBounds_toArray, List.set_cons_zero, List.set_cons_succ]))
            refine Sch.tn_e rfl rfl (fun K hK => ?_)
            go_wp2_with fail
            refine (made_lit [kA, kG] [kG] 0 ex5 (by decide) rfl rfl HA.out HG.out (by decide) (by decide)).mono ?_
            rintro e w75 ⟨rfl, hb⟩
            replace HK := Lib.hid (HK.out.keep hb)
            replace HR := Lib.hid (HR.out.keep hb)
            replace HA := Lib.hid (HA.out.keep hb)
            replace HG := Lib.hid (HG.out.keep hb)
            replace HB := bel_tr HB hb
            clear hb
            refine hK _ _ HK.out ?_
            clear hK K
            repeat (first
              | (refine Sch.tn_q rfl rfl rfl (fun K hK => ?_); go_big_quiet_op; (first | refine hK _ ?_ | refine ⟨_, fun _ _ => rfl, hK _ ?_⟩); clear hK K)
              | (refine Sch.tn_chk _ _ _ rfl rfl rfl rfl rfl ?_; simp only [Act.put, List.setIfInBounds_toArray, List.set_cons_zero, List.set_cons_succ])
              | (refine Sch.tn_load _ _ _ _ _ rfl rfl rfl rfl (by first | exact K4.a | exact K4.b | exact K4.c | exact K4.g | exact K4.r) rfl ?_; simp only [Act.put, List.setIfInBounds_toArray, List.set_cons_zero, List.set_cons_succ]))
            clear HA
            clear HG
            refine Sch.tn_e rfl rfl (fun K hK => ?_)
            go_wp2_with fail
            refine (at_any 1 1 _).mono ?_
            rintro e w76 ⟨rfl, hb⟩
            replace HK := Lib.hid (HK.out.keep hb)
            replace HR := Lib.hid (HR.out.keep hb)
            replace HB := bel_tr HB hb
            clear hb
            refine hK _ _ HK.out ?_
            clear hK K
            repeat (first
              | (refine Sch.tn_q rfl rfl rfl (fun K hK => ?_); go_big_quiet_op; (first | refine hK _ ?_ | refine ⟨_, fun _ _ => rfl, hK _ ?_⟩); clear hK K)
              | (refine Sch.tn_chk _ _ _ rfl rfl rfl rfl rfl ?_; simp only [Act.put, List.setIfInBounds_toArray, List.set_cons_zero, List.set_cons_succ])
              | (refine Sch.tn_load _ _ _ _ _ rfl rfl rfl rfl (by first | exact K4.a | exact K4.b | exact K4.c | exact K4.g | exact K4.r) rfl ?_; simp only [Act.put, List.setIfInBounds_toArray, List.set_cons_zero, List.set_cons_succ]))
            refine Sch.tn_e rfl rfl (fun K hK => ?_)
            go_wp2_with fail
            refine (of_any (1, 1) (0, 0) 2 97 _).mono ?_
            rintro e w77 ⟨rfl, hb⟩
            replace HK := Lib.hid (HK.out.keep hb)
            replace HR := Lib.hid (HR.out.keep hb)
            replace HB := bel_tr HB hb
            clear hb
            refine hK _ _ HK.out ?_
            clear hK K
            repeat (first
              | (refine Sch.tn_q rfl rfl rfl (fun K hK => ?_); go_big_quiet_op; (first | refine hK _ ?_ | refine ⟨_, fun _ _ => rfl, hK _ ?_⟩); clear hK K)
              | (refine Sch.tn_chk _ _ _ rfl rfl rfl rfl rfl ?_; simp only [Act.put, List.setIfInBounds_toArray, List.set_cons_zero, List.set_cons_succ])
              | (refine Sch.tn_load _ _ _ _ _ rfl rfl rfl rfl (by first | exact K4.a | exact K4.b | exact K4.c | exact K4.g | exact K4.r) rfl ?_; simp only [Act.put, List.setIfInBounds_toArray, List.set_cons_zero, List.set_cons_succ]))
            refine Sch.tn_e rfl rfl (fun K hK => ?_)
            have hbn := bel_box w77 (.cells #[.int .i64 1, .int .i64 1, .int .i64 0, .int .i64 0, .int .i64 1, .int .i32 97, .int .i64 1, .int .i64 1, .int .i64 0, .int .i64 0, .int .i64 2, .int .i32 97] 35)
            replace HK := Lib.hid (HK.out.keep hbn)
            replace HR := Lib.hid (HR.out.keep hbn)
            replace HB := bel_tr HB hbn
            have HA := Lib.hid (RowN.lit w77 [kA, ((1, 1), (0, 0), 2, 97)] #[.int .i64 1, .int .i64 1, .int .i64 0, .int .i64 0, .int .i64 1, .int .i32 97, .int .i64 1, .int .i64 1, .int .i64 0, .int .i64 0, .int .i64 2, .int .i32 97] 35 (0, 0) rfl)
            clear hbn
            go_wp2_with fail
            refine hK _ _ HK.out ?_
            clear hK K
            generalize w77.alloc (.cells #[.int .i64 1, .int .i64 1, .int .i64 0, .int .i64 0, .int .i64 1, .int .i32 97, .int .i64 1, .int .i64 1, .int .i64 0, .int .i64 0, .int .i64 2, .int .i32 97] 35) = w78 at *
            generalize w77.heap.size = a78 at *
            repeat (first
              | (refine Sch.tn_q rfl rfl rfl (fun K hK => ?_); go_big_quiet_op; (first | refine hK _ ?_ | refine ⟨_, fun _ _ => rfl, hK _ ?_⟩); clear hK K)
              | (refine Sch.tn_chk _ _ _ rfl rfl rfl rfl rfl ?_; simp only [Act.put, List.setIfInBounds_toArray, List.set_cons_zero, List.set_cons_succ])
              | (refine Sch.tn_load _ _ _ _ _ rfl rfl rfl rfl (by first | exact K4.a | exact K4.b | exact K4.c | exact K4.g | exact K4.r) rfl ?_; simp only [Act.put, List.setIfInBounds_toArray, List.set_cons_zero, List.set_cons_succ]))
            refine Sch.tn_e rfl rfl (fun K hK => ?_)
            go_wp2_with fail
            refine (nodes_any _ _).mono ?_
            rintro e w79 ⟨rfl, rfl⟩
            refine hK _ _ HK.out ?_
            clear hK K
            repeat (first
              | (refine Sch.tn_q rfl rfl rfl (fun K hK => ?_); go_big_quiet_op; (first | refine hK _ ?_ | refine ⟨_, fun _ _ => rfl, hK _ ?_⟩); clear hK K)
              | (refine Sch.tn_chk _ _ _ rfl rfl rfl rfl rfl ?_; simp only [Act.put, List.setIfInBounds_toArray, List.set_cons_zero, List.set_cons_succ])
              | (refine Sch.tn_load _ _ _ _ _ rfl rfl rfl rfl (by first | exact K4.a | exact K4.b | exact K4.c | exact K4.g | exact K4.r) rfl ?_; simp only [Act.put, List.setIfInBounds_toArray, List.set_cons_zero, List.set_cons_succ]))
            refine Sch.tn_e rfl rfl (fun K hK => ?_)
            go_wp2_with fail
            refine (made_lit [kA, ((1, 1), (0, 0), 2, 97)] [] 15 ex6 (by decide) rfl rfl HA.out (RowN.nil _ _) (by decide) (by decide)).mono ?_
            rintro e w80 ⟨rfl, hb⟩
            replace HK := Lib.hid (HK.out.keep hb)
            replace HR := Lib.hid (HR.out.keep hb)
            replace HA := Lib.hid (HA.out.keep hb)
            replace HB := bel_tr HB hb
            clear hb
            refine hK _ _ HK.out ?_
            clear hK K
            repeat (first
              | (refine Sch.tn_q rfl rfl rfl (fun K hK => ?_); go_big_quiet_op; (first | refine hK _ ?_ | refine ⟨_, fun _ _ => rfl, hK _ ?_⟩); clear hK K)
              | (refine Sch.tn_chk _ _ _ rfl rfl rfl rfl rfl ?_; simp only [Act.put, List.setIfInBounds_toArray, List.set_cons_zero, List.set_cons_succ])
              | (refine Sch.tn_load _ _ _ _ _ rfl rfl rfl rfl (by first | exact K4.a | exact K4.b | exact K4.c | exact K4.g | exact K4.r) rfl ?_; simp only [Act.put, List.setIfInBounds_toArray, List.set_cons_zero, List.set_cons_succ]))
            clear HA
            refine Sch.tn_n ?_
            go_wp2_with fail
            go_meet
            case rel => exact ⟨rfl, Lib.hid HK.out.1, HR, HB⟩
          · skip
            refine Sch.tn_e rfl rfl (fun K hK => ?_)
            have hbn := bel_box w71 (.cells #[.int .i64 1, .int .i64 1, .int .i64 0, .int .i64 0, .int .i64 1, .int .i32 0] 35)
            replace HK := Lib.hid (HK.out.keep hbn)
            replace HR := Lib.hid (HR.out.keep hbn)
            replace HA := Lib.hid (HA.out.keep hbn)
            replace HB := bel_tr HB hbn
            have HG := Lib.hid (RowN.lit w71 [kG] #[.int .i64 1, .int .i64 1, .int .i64 0, .int .i64 0, .int .i64 1, .int .i32 0] 35 (0, 0) rfl)
            clear hbn
            go_wp2_with fail
            refine hK _ _ HK.out ?_
            clear hK K
            generalize w71.alloc (.cells #[.int .i64 1, .int .i64 1, .int .i64 0, .int .i64 0, .int .i64 1, .int .i32 0] 35) = w72 at *
            generalize w71.heap.size = a72 at *
            repeat (first
              | (refine Sch.tn_q rfl rfl rfl (fun K hK => ?_); go_big_quiet_op; (first | refine hK _ ?_ | refine ⟨_, fun _ _ => rfl, hK _ ?_⟩); clear hK K)
              | (refine Sch.tn_chk _ _ _ rfl rfl rfl rfl rfl ?_; simp only [Act.put, List.setIfInBounds_toArray, List.set_cons_zero, List.set_cons_succ])
              | (refine Sch.tn_load _ _ _ _ _ rfl rfl rfl rfl (by first | exact K4.a | exact K4.b | exact K4.c | exact K4.g | exact K4.r) rfl ?_; simp only [Act.put, List.setIfInBounds_toArray, List.set_cons_zero, List.set_cons_succ]))
            refine Sch.tn_e rfl rfl (fun K hK => ?_)
            go_wp2_with fail
            refine (nodes_any _ _).mono ?_
            rintro e w73 ⟨rfl, rfl⟩
            refine hK _ _ HK.out ?_
            clear hK K
            repeat (first
              | (refine Sch.tn_q rfl rfl rfl (fun K hK => ?_); go_big_quiet_op; (first | refine hK _ ?_ | refine ⟨_, fun _ _ => rfl, hK _ ?_⟩); clear hK K)
              | (refine Sch.tn_chk _ _ _ rfl rfl rfl rfl rfl ?_; simp only [Act.put, List.setIfInBounds_toArray, List.set_cons_zero, List.set_cons_succ])
              | (refine Sch.tn_load _ _ _ _ _ rfl rfl rfl rfl (by first | exact K4.a | exact K4.b | exact K4.c | exact K4.g | exact K4.r) rfl ?_; simp only [Act.put, List.setIfInBounds_toArray, List.set_cons_zero, List.set_cons_succ]))
            refine Sch.tn_e rfl rfl (fun K hK => ?_)
            go_wp2_with fail
            refine (nodes_any _ _).mono ?_
            rintro e w74 ⟨rfl, rfl⟩
            refine hK _ _ HK.out ?_
            clear hK K
            repeat (first
              | (refine Sch.tn_q rfl rfl rfl (fun K hK => ?_); go_big_quiet_op; (first | refine hK _ ?_ | refine ⟨_, fun _ _ => rfl, hK _ ?_⟩); clear hK K)
              | (refine Sch.tn_chk _ _ _ rfl rfl rfl rfl rfl ?_; simp only [Act.put, List.setIfInBounds_toArray, List.set_cons_zero, List.set_cons_succ])
              | (refine Sch.tn_load _ _ _ _ _ rfl rfl rfl rfl (by first | exact K4.a | exact K4.b | exact K4.c | exact K4.g | exact K4.r) rfl ?_; simp only [Act.put, List.setIfInBounds_toArray, List.set_cons_zero, List.set_cons_succ]))
            refine Sch.tn_e rfl rfl (fun K hK => ?_)
            go_wp2_with fail
            refine (made_lit [kA, kG] [kG] 0 ex5 (by decide) rfl rfl HA.out HG.out (by decide) (by decide)).mono ?_
            rintro e w75 ⟨rfl, hb⟩
            replace HK := Lib.hid (HK.out.keep hb)
            replace HR := Lib.hid (HR.out.keep hb)
            replace HA := Lib.hid (HA.out.keep hb)
            replace HG := Lib.hid (HG.out.keep hb)
            replace HB := bel_tr HB hb
            clear hb
            refine hK _ _ HK.out ?_
            clear hK K
            repeat (first
              | (refine Sch.tn_q rfl rfl rfl (fun K hK => ?_); go_big_quiet_op; (first | refine hK _ ?_ | refine ⟨_, fun _ _ => rfl, hK _ ?_⟩); clear hK K)
              | (refine Sch.tn_chk _ _ _ rfl rfl rfl rfl rfl ?_; simp only [Act.put, List.setIfInBounds_toArray, List.set_cons_zero, List.set_cons_succ])
              | (refine Sch.tn_load _ _ _ _ _ rfl rfl rfl rfl (by first | exact K4.a | exact K4.b | exact K4.c | exact K4.g | exact K4.r) rfl ?_; simp only [Act.put, List.setIfInBounds_toArray, List.set_cons_zero, List.set_cons_succ]))
            clear HA
            clear HG
            refine Sch.tn_e rfl rfl (fun K hK => ?_)
            go_wp2_with fail
            refine (at_any 1 1 _).mono ?_
            rintro e w76 ⟨rfl, hb⟩
            replace HK := Lib.hid (HK.out.keep hb)
            replace HR := Lib.hid (HR.out.keep hb)
            replace HB := bel_tr HB hb
            clear hb
            refine hK _ _ HK.out ?_
            clear hK K
            repeat (first
              | (refine Sch.tn_q rfl rfl rfl (fun K hK => ?_); go_big_quiet_op; (first | refine hK _ ?_ | refine ⟨_, fun _ _ => rfl, hK _ ?_⟩); clear hK K)
              | (refine Sch.tn_chk _ _ _ rfl rfl rfl rfl rfl ?_; simp only [Act.put, List.setIfInBounds_toArray, List.set_cons_zero, List.set_cons_succ])
              | (refine Sch.tn_load _ _ _ _ _ rfl rfl rfl rfl (by first | exact K4.a | exact K4.b | exact K4.c | exact K4.g | exact K4.r) rfl ?_; simp only [Act.put, List.setIfInBounds_toArray, List.set_cons_zero, List.set_cons_succ]))
            refine Sch.tn_e rfl rfl (fun K hK => ?_)
            go_wp2_with fail
            refine (of_any (1, 1) (0, 0) 2 97 _).mono ?_
            rintro e w77 ⟨rfl, hb⟩
            replace HK := Lib.hid (HK.out.keep hb)
            replace HR := Lib.hid (HR.out.keep hb)
            replace HB := bel_tr HB hb
            clear hb
            refine hK _ _ HK.out ?_
            clear hK K
            repeat (first
              | (refine Sch.tn_q rfl rfl rfl (fun K hK => ?_); go_big_quiet_op; (first | refine hK _ ?_ | refine ⟨_, fun _ _ => rfl, hK _ ?_⟩); clear hK K)
              | (refine Sch.tn_chk _ _ _ rfl rfl rfl rfl rfl ?_; simp only [Act.put, List.setIfInBounds_toArray, List.set_cons_zero, List.set_cons_succ])
              | (refine Sch.tn_load _ _ _ _ _ rfl rfl rfl rfl (by first | exact K4.a | exact K4.b | exact K4.c | exact K4.g | exact K4.r) rfl ?_; simp only [Act.put, List.setIfInBounds_toArray, List.set_cons_zero, List.set_cons_succ]))
            refine Sch.tn_e rfl rfl (fun K hK => ?_)
            have hbn := bel_box w77 (.cells #[.int .i64 1, .int .i64 1, .int .i64 0, .int .i64 0, .int .i64 1, .int .i32 97, .int .i64 1, .int .i64 1, .int .i64 0, .int .i64 0, .int .i64 2, .int .i32 97] 35)
            replace HK := Lib.hid (HK.out.keep hbn)
            replace HR := Lib.hid (HR.out.keep hbn)
            replace HB := bel_tr HB hbn
            have HA := Lib.hid (RowN.lit w77 [kA, ((1, 1), (0, 0), 2, 97)] #[.int .i64 1, .int .i64 1, .int .i64 0, .int .i64 0, .int .i64 1, .int .i32 97, .int .i64 1, .int .i64 1, .int .i64 0, .int .i64 0, .int .i64 2, .int .i32 97] 35 (0, 0) rfl)
            clear hbn
            go_wp2_with fail
            refine hK _ _ HK.out ?_
            clear hK K
            generalize w77.alloc (.cells #[.int .i64 1, .int .i64 1, .int .i64 0, .int .i64 0, .int .i64 1, .int .i32 97, .int .i64 1, .int .i64 1, .int .i64 0, .int .i64 0, .int .i64 2, .int .i32 97] 35) = w78 at *
            generalize w77.heap.size = a78 at *
            repeat (first
              | (refine Sch.tn_q rfl rfl rfl (fun K hK => ?_); go_big_quiet_op; (first | refine hK _ ?_ | refine ⟨_, fun _ _ => rfl, hK _ ?_⟩); clear hK K)
              | (refine Sch.tn_chk _ _ _ rfl rfl rfl rfl rfl ?_; simp only [Act.put, List.setIfInBounds_toArray, List.set_cons_zero, List.set_cons_succ])
              | (refine Sch.tn_load _ _ _ _ _ rfl rfl rfl rfl (by first | exact K4.a | exact K4.b | exact K4.c | exact K4.g | exact K4.r) rfl ?_; simp only [Act.put, List.setIfInBounds_toArray, List.set_cons_zero, List.set_cons_succ]))
            refine Sch.tn_e rfl rfl (fun K hK => ?_)
            go_wp2_with fail
            refine (nodes_any _ _).mono ?_
            rintro e w79 ⟨rfl, rfl⟩
            refine hK _ _ HK.out ?_
            clear hK K
            repeat (first
              | (refine Sch.tn_q rfl rfl rfl (fun K hK => ?_); go_big_quiet_op; (first | refine hK _ ?_ | refine ⟨_, fun _ _ => rfl, hK _ ?_⟩); clear hK K)
              | (refine Sch.tn_chk _ _ _ rfl rfl rfl rfl rfl ?_; simp only [Act.put, List.setIfInBounds_toArray, List.set_cons_zero, List.set_cons_succ])
              | (refine Sch.tn_load _ _ _ _ _ rfl rfl rfl rfl (by first | exact K4.a | exact K4.b | exact K4.c | exact K4.g | exact K4.r) rfl ?_; simp only [Act.put, List.setIfInBounds_toArray, List.set_cons_zero, List.set_cons_succ]))
            refine Sch.tn_e rfl rfl (fun K hK => ?_)
            go_wp2_with fail
            refine (made_lit [kA, ((1, 1), (0, 0), 2, 97)] [] 15 ex6 (by decide) rfl rfl HA.out (RowN.nil _ _) (by decide) (by decide)).mono ?_
            rintro e w80 ⟨rfl, hb⟩
            replace HK := Lib.hid (HK.out.keep hb)
            replace HR := Lib.hid (HR.out.keep hb)
            replace HA := Lib.hid (HA.out.keep hb)
            replace HB := bel_tr HB hb
            clear hb
            refine hK _ _ HK.out ?_
            clear hK K
            repeat (first
              | (refine Sch.tn_q rfl rfl rfl (fun K hK => ?_); go_big_quiet_op; (first | refine hK _ ?_ | refine ⟨_, fun _ _ => rfl, hK _ ?_⟩); clear hK K)
              | (refine Sch.tn_chk _ _ _ rfl rfl rfl rfl rfl ?_; simp only [Act.put, List.setIfInBounds_toArray, List.set_cons_zero, List.set_cons_succ])
              | (refine Sch.tn_load _ _ _ _ _ rfl rfl rfl rfl (by first | exact K4.a | exact K4.b | exact K4.c | exact K4.g | exact K4.r) rfl ?_; simp only [Act.put, List.setIfInBounds_toArray, List.set_cons_zero, List.set_cons_succ]))
            clear HA
            refine Sch.tn_n ?_
            go_wp2_with fail
            go_meet
            case rel => exact ⟨rfl, Lib.hid HK.out.1, HR, HB⟩
        · skip
          refine Sch.tn_e rfl rfl (fun K hK => ?_)
          have hbn := bel_box w70 (.cells #[.int .i64 1, .int .i64 1, .int .i64 0, .int .i64 0, .int .i64 1, .int .i32 0] 35)
          replace HK := Lib.hid (HK.out.keep hbn)
          replace HR := Lib.hid (HR.out.keep hbn)
          replace HB := bel_tr HB hbn
          have HG := Lib.hid (RowN.lit w70 [kG] #[.int .i64 1, .int .i64 1, .int .i64 0, .int .i64 0, .int .i64 1, .int .i32 0] 35 (0, 0) rfl)
          clear hbn
          go_wp2_with fail
          refine hK _ _ HK.out ?_
          clear hK K
          generalize w70.alloc (.cells #[.int .i64 1, .int .i64 1, .int .i64 0, .int .i64 0, .int .i64 1, .int .i32 0] 35) = w71 at *
          generalize w70.heap.size = a71 at *
          repeat (first
            | (refine Sch.tn_q rfl rfl rfl (fun K hK => ?_); go_big_quiet_op; (first | refine hK _ ?_ | refine ⟨_, fun _ _ => rfl, hK _ ?_⟩); clear hK K)
            | (refine Sch.tn_chk _ _ _ rfl rfl rfl rfl rfl ?_; simp only [Act.put, List.setIfInBounds_toArray, List.set_cons_zero, List.set_cons_succ])
            | (refine Sch.tn_load _ _ _ _ _ rfl rfl rfl rfl (by first | exact K4.a | exact K4.b | exact K4.c | exact K4.g | exact K4.r) rfl ?_; simp only [Act.put, List.setIfInBounds_toArray, List.set_cons_zero, List.set_cons_succ]))
          refine Sch.tn_e rfl rfl (fun K hK => ?_)
          have hbn := bel_box w71 (.cells #[.int .i64 1, .int .i64 1, .int .i64 0, .int .i64 0, .int .i64 1, .int .i32 97, .int .i64 1, .int .i64 1, .int .i64 0, .int .i64 0, .int .i64 1, .int .i32 0] 35)
          replace HK := Lib.hid (HK.out.keep hbn)
          replace HR := Lib.hid (HR.out.keep hbn)
          replace HG := Lib.hid (HG.out.keep hbn)
          replace HB := bel_tr HB hbn
          have HA := Lib.hid (RowN.lit w71 [kA, kG] #[.int .i64 1, .int .i64 1, .int .i64 0, .int .i64 0, .int .i64 1, .int .i32 97, .int .i64 1, .int .i64 1, .int .i64 0, .int .i64 0, .int .i64 1, .int .i32 0] 35 (0, 0) rfl)
          clear hbn
          go_wp2_with fail
          refine hK _ _ HK.out ?_
          clear hK K
          generalize w71.alloc (.cells #[.int .i64 1, .int .i64 1, .int .i64 0, .int .i64 0, .int .i64 1, .int .i32 97, .int .i64 1, .int .i64 1, .int .i64 0, .int .i64 0, .int .i64 1, .int .i32 0] 35) = w72 at *
          generalize w71.heap.size = a72 at *
          repeat (first
            | (refine Sch.tn_q rfl rfl rfl (fun K hK => ?_); go_big_quiet_op; (first | refine hK _ ?_ | refine ⟨_, fun _ _ => rfl, hK _ ?_⟩); clear hK K)
            | (refine Sch.tn_chk _ _ _ rfl rfl rfl rfl rfl ?_; simp only [Act.put, List.setIfInBounds_toArray, List.set_cons_zero, List.set_cons_succ])
            | (refine Sch.tn_load _ _ _ _ _ rfl rfl rfl rfl (by first | exact K4.a | exact K4.b | exact K4.c | exact K4.g | exact K4.r) rfl ?_; simp only [Act.put, List.setIfInBounds_toArray, List.set_cons_zero, List.set_cons_succ]))
          refine Sch.tn_e rfl rfl (fun K hK => ?_)
          go_wp2_with fail
          refine (nodes_any _ _).mono ?_
          rintro e w73 ⟨rfl, rfl⟩
          refine hK _ _ HK.out ?_
          clear hK K
          repeat (first
            | (refine Sch.tn_q rfl rfl rfl (fun K hK => ?_); go_big_quiet_op; (first | refine hK _ ?_ | refine ⟨_, fun _ _ => rfl, hK _ ?_⟩); clear hK K)
            | (refine Sch.tn_chk _ _ _ rfl rfl rfl rfl rfl ?_; simp only [Act.put, List.setIfInBounds_toArray, List.set_cons_zero, List.set_cons_succ])
            | (refine Sch.tn_load _ _ _ _ _ rfl rfl rfl rfl (by first | exact K4.a | exact K4.b | exact K4.c | exact K4.g | exact K4.r) rfl ?_; simp only [Act.put, List.setIfInBounds_toArray, List.set_cons_zero, List.set_cons_succ]))
          refine Sch.tn_e rfl rfl (fun K hK => ?_)
          go_wp2_with fail
          refine (nodes_any _ _).mono ?_
          rintro e w74 ⟨rfl, rfl⟩
          refine hK _ _ HK.out ?_
          clear hK K
          repeat (first
            | (refine Sch.tn_q rfl rfl rfl (fun K hK => ?_); go_big_quiet_op; (first | refine hK _ ?_ | refine ⟨_, fun _ _ => rfl, hK _ ?_⟩); clear hK K)
            | (refine Sch.tn_chk _ _ _ rfl rfl rfl rfl rfl ?_; simp only [Act.put, List.setIfInBounds_toArray, List.set_cons_zero, List.set_cons_succ])
            | (refine Sch.tn_load _ _ _ _ _ rfl rfl rfl rfl (by first | exact K4.a | exact K4.b | exact K4.c | exact K4.g | exact K4.r) rfl ?_; simp only [Act.put, List.setIfInBounds_toArray, List.set_cons_zero, List.set_cons_succ]))
          refine Sch.tn_e rfl rfl (fun K hK => ?_)
          go_wp2_with fail
          refine (made_lit [kA, kG] [kG] 0 ex5 (by decide) rfl rfl HA.out HG.out (by decide) (by decide)).mono ?_
          rintro e w75 ⟨rfl, hb⟩
          replace HK := Lib.hid (HK.out.keep hb)
          replace HR := Lib.hid (HR.out.keep hb)
          replace HG := Lib.hid (HG.out.keep hb)
          replace HA := Lib.hid (HA.out.keep hb)
          replace HB := bel_tr HB hb
          clear hb
          refine hK _ _ HK.out ?_
          clear hK K
          repeat (first
            | (refine Sch.tn_q rfl rfl rfl (fun K hK => ?_); go_big_quiet_op; (first | refine hK _ ?_ | refine ⟨_, fun _ _ => rfl, hK _ ?_⟩); clear hK K)
            | (refine Sch.tn_chk _ _ _ rfl rfl rfl rfl rfl ?_; simp only [Act.put, List.setIfInBounds_toArray, List.set_cons_zero, List.set_cons_succ])
            | (refine Sch.tn_load _ _ _ _ _ rfl rfl rfl rfl (by first | exact K4.a | exact K4.b | exact K4.c | exact K4.g | exact K4.r) rfl ?_; simp only [Act.put, List.setIfInBounds_toArray, List.set_cons_zero, List.set_cons_succ]))
          clear HA
          clear HG
          refine Sch.tn_e rfl rfl (fun K hK => ?_)
          go_wp2_with fail
          refine (at_any 1 1 _).mono ?_
          rintro e w76 ⟨rfl, hb⟩
          replace HK := Lib.hid (HK.out.keep hb)
          replace HR := Lib.hid (HR.out.keep hb)
          replace HB := bel_tr HB hb
          clear hb
          refine hK _ _ HK.out ?_
          clear hK K
          repeat (first
            | (refine Sch.tn_q rfl rfl rfl (fun K hK => ?_); go_big_quiet_op; (first | refine hK _ ?_ | refine ⟨_, fun _ _ => rfl, hK _ ?_⟩); clear hK K)
            | (refine Sch.tn_chk _ _ _ rfl rfl rfl rfl rfl ?_; simp only [Act.put, List.setIfInBounds_toArray, List.set_cons_zero, List.set_cons_succ])
            | (refine Sch.tn_load _ _ _ _ _ rfl rfl rfl rfl (by first | exact K4.a | exact K4.b | exact K4.c | exact K4.g | exact K4.r) rfl ?_; simp only [Act.put, List.setIfInBounds_toArray, List.set_cons_zero, List.set_cons_succ]))
          refine Sch.tn_e rfl rfl (fun K hK => ?_)
          go_wp2_with fail
          refine (of_any (1, 1) (0, 0) 2 97 _).mono ?_
          rintro e w77 ⟨rfl, hb⟩
          replace HK := Lib.hid (HK.out.keep hb)
          replace HR := Lib.hid (HR.out.keep hb)
          replace HB := bel_tr HB hb
          clear hb
          refine hK _ _ HK.out ?_
          clear hK K
          repeat (first
            | (refine Sch.tn_q rfl rfl rfl (fun K hK => ?_); go_big_quiet_op; (first | refine hK _ ?_ | refine ⟨_, fun _ _ => rfl, hK _ ?_⟩); clear hK K)
            | (refine Sch.tn_chk _ _ _ rfl rfl rfl rfl rfl ?_; simp only [Act.put, List.setIfInBounds_toArray, List.set_cons_zero, List.set_cons_succ])
            | (refine Sch.tn_load _ _ _ _ _ rfl rfl rfl rfl (by first | exact K4.a | exact K4.b | exact K4.c | exact K4.g | exact K4.r) rfl ?_; simp only [Act.put, List.setIfInBounds_toArray, List.set_cons_zero, List.set_cons_succ]))
          refine Sch.tn_e rfl rfl (fun K hK => ?_)
          have hbn := bel_box w77 (.cells #[.int .i64 1, .int .i64 1, .int .i64 0, .int .i64 0, .int .i64 1, .int .i32 97, .int .i64 1, .int .i64 1, .int .i64 0, .int .i64 0, .int .i64 2, .int .i32 97] 35)
          replace HK := Lib.hid (HK.out.keep hbn)
          replace HR := Lib.hid (HR.out.keep hbn)
          replace HB := bel_tr HB hbn
          have HA := Lib.hid (RowN.lit w77 [kA, ((1, 1), (0, 0), 2, 97)] #[.int .i64 1, .int .i64 1, .int .i64 0, .int .i64 0, .int .i64 1, .int .i32 97, .int .i64 1, .int .i64 1, .int .i64 0, .int .i64 0, .int .i64 2, .int .i32 97] 35 (0, 0) rfl)
          clear hbn
          go_wp2_with fail
          refine hK _ _ HK.out ?_
          clear hK K
          generalize w77.alloc (.cells #[.int .i64 1, .int .i64 1, .int .i64 0, .int .i64 0, .int .i64 1, .int .i32 97, .int .i64 1, .int .i64 1, .int .i64 0, .int .i64 0, .int .i64 2, .int .i32 97] 35) = w78 at *
          generalize w77.heap.size = a78 at *
          repeat (first
            | (refine Sch.tn_q rfl rfl rfl (fun K hK => ?_); go_big_quiet_op; (first | refine hK _ ?_ | refine ⟨_, fun _ _ => rfl, hK _ ?_⟩); clear hK K)
            | (refine Sch.tn_chk _ _ _ rfl rfl rfl rfl rfl ?_; simp only [Act.put, List.setIfInBounds_toArray, List.set_cons_zero, List.set_cons_succ])
            | (refine Sch.tn_load _ _ _ _ _ rfl rfl rfl rfl (by first | exact K4.a | exact K4.b | exact K4.c | exact K4.g | exact K4.r) rfl ?_; simp only [Act.put, List.setIfInBounds_toArray, List.set_cons_zero, List.set_cons_succ]))
          refine Sch.tn_e rfl rfl (fun K hK => ?_)
          go_wp2_with fail
          refine (nodes_any _ _).mono ?_
          rintro e w79 ⟨rfl, rfl⟩
          refine hK _ _ HK.out ?_
          clear hK K
          repeat (first
            | (refine Sch.tn_q rfl rfl rfl (fun K hK => ?_); go_big_quiet_op; (first | refine hK _ ?_ | refine ⟨_, fun _ _ => rfl, hK _ ?_⟩); clear hK K)
            | (refine Sch.tn_chk _ _ _ rfl rfl rfl rfl rfl ?_; simp only [Act.put, List.setIfInBounds_toArray, List.set_cons_zero, List.set_cons_succ])
            | (refine Sch.tn_load _ _ _ _ _ rfl rfl rfl rfl (by first | exact K4.a | exact K4.b | exact K4.c | exact K4.g | exact K4.r) rfl ?_; simp only [Act.put, List.setIfInBounds_toArray, List.set_cons_zero, List.set_cons_succ]))
          refine Sch.tn_e rfl rfl (fun K hK => ?_)
          go_wp2_with fail
          refine (made_lit [kA, ((1, 1), (0, 0), 2, 97)] [] 15 ex6 (by decide) rfl rfl HA.out (RowN.nil _ _) (by decide) (by decide)).mono ?_
          rintro e w80 ⟨rfl, hb⟩
          replace HK := Lib.hid (HK.out.keep hb)
          replace HR := Lib.hid (HR.out.keep hb)
          replace HA := Lib.hid (HA.out.keep hb)
          replace HB := bel_tr HB hb
          clear hb
          refine hK _ _ HK.out ?_
          clear hK K
          repeat (first
            | (refine Sch.tn_q rfl rfl rfl (fun K hK => ?_); go_big_quiet_op; (first | refine hK _ ?_ | refine ⟨_, fun _ _ => rfl, hK _ ?_⟩); clear hK K)
            | (refine Sch.tn_chk _ _ _ rfl rfl rfl rfl rfl ?_; simp only [Act.put, List.setIfInBounds_toArray, List.set_cons_zero, List.set_cons_succ])
            | (refine Sch.tn_load _ _ _ _ _ rfl rfl rfl rfl (by first | exact K4.a | exact K4.b | exact K4.c | exact K4.g | exact K4.r) rfl ?_; simp only [Act.put, List.setIfInBounds_toArray, List.set_cons_zero, List.set_cons_succ]))
          clear HA
          refine Sch.tn_n ?_
          go_wp2_with fail
          go_meet
          case rel => exact ⟨rfl, Lib.hid HK.out.1, HR, HB⟩
      case rest =>
        obtain ⟨rfl, HK, HR, HB⟩ := hcut
        clear HK4
        generalize wc = w10 at *
        go_wp2_with fail
        go_cut [142] from 76 to 142 (fun x wx => x = .bool false ∧ Hid (Kn B g3 g4 g5 wx) ∧ Hid (RowN wx (some ⟨r, 0, none⟩) [kA, kB, kC]) ∧ Hid (Below w.heap.size w wx))
        case first =>
          refine known_r6 w _ B g3 g4 g5 g7 r _ _ _ _ _ _ _ _ _ _ _ _ _ _ _ _ _ _ _ _ _ _ _ _ _ _ _ _ _ _ _ _ _ _ _ _ _ _ _ _ _ _ _ _ _ _ _ _ _ _ _ _ _ _ _ _ _ _ _ _ _ _ _ _ _ _ _ _ HK HR HB ?_
          clear HK HR HB
          intro v76 v77 v78 v79 v80 v81 v82 v83 v84 v85 v86 v87 v88 v89 v90 v91 v92 v93 v94 v95 v96 v97 v98 v99 v100 v101 v102 v103 v104 v105 v106 v107 v108 v109 v110 v111 v112 v113 v114 v115 v116 v117 v118 v119 v120 v121 v122 v123 v124 v125 v126 v127 v128 v129 v130 v131 v132 v133 v134 v135 v136 v137 v138 v139 v140 v141 wx HK HR HB
          go_wp2_with fail
          go_meet
          case rel => exact ⟨rfl, HK, HR, HB⟩
        case rest =>
          clear HK HR HB
          obtain ⟨rfl, HK, HR, HB⟩ := hcut
          generalize wc = w11 at *
          skip
          go_wp2_with fail
          refine (at_any 1 1 _).mono ?_
          rintro e w201 ⟨rfl, hb⟩
          replace HK := Lib.hid (HK.out.keep hb)
          replace HR := Lib.hid (HR.out.keep hb)
          replace HB := bel_tr HB hb
          clear hb
          go_wp2_with fail
          have hbn := bel_box w201 (.cells #[.int .i64 1, .int .i64 1] 33)
          replace HK := Lib.hid (HK.out.keep hbn)
          replace HR := Lib.hid (HR.out.keep hbn)
          replace HB := bel_tr HB hbn
          have HD := Lib.hid (RowD.lit w201 [(1, 1)] #[.int .i64 1, .int .i64 1] 33 (0, 0) rfl)
          clear hbn
          generalize w201.alloc (.cells #[.int .i64 1, .int .i64 1] 33) = w202 at *
          generalize w201.heap.size = a202 at *
          refine (at_any 2 2 _).mono ?_
          rintro e w203 ⟨rfl, hb⟩
          replace HK := Lib.hid (HK.out.keep hb)
          replace HR := Lib.hid (HR.out.keep hb)
          replace HD := Lib.hid (HD.out.keep hb)
          replace HB := bel_tr HB hb
          clear hb
          go_wp2_with fail
          refine (at_any 1 3 _).mono ?_
          rintro e w204 ⟨rfl, hb⟩
          replace HK := Lib.hid (HK.out.keep hb)
          replace HR := Lib.hid (HR.out.keep hb)
          replace HD := Lib.hid (HD.out.keep hb)
          replace HB := bel_tr HB hb
          clear hb
          go_wp2_with fail
          have hbn := bel_box w204 (.cells #[.int .i64 2, .int .i64 2, .int .i64 1, .int .i64 3] 33)
          replace HK := Lib.hid (HK.out.keep hbn)
          replace HR := Lib.hid (HR.out.keep hbn)
          replace HD := Lib.hid (HD.out.keep hbn)
          replace HB := bel_tr HB hbn
          have HE := Lib.hid (RowD.lit w204 [(2, 2), (1, 3)] #[.int .i64 2, .int .i64 2, .int .i64 1, .int .i64 3] 33 (0, 0) rfl)
          clear hbn
          generalize w204.alloc (.cells #[.int .i64 2, .int .i64 2, .int .i64 1, .int .i64 3] 33) = w205 at *
          generalize w204.heap.size = a205 at *
          refine (seen_lit [kA, kB, kC] [(1, 1)] [(2, 2), (1, 3)] 0 ex14 rfl rfl rfl HR.out HD.out HE.out (by decide) (by decide) (by decide)).mono ?_
          rintro e w206 ⟨rfl, hb⟩
          replace HK := Lib.hid (HK.out.keep hb)
          replace HR := Lib.hid (HR.out.keep hb)
          replace HD := Lib.hid (HD.out.keep hb)
          replace HE := Lib.hid (HE.out.keep hb)
          replace HB := bel_tr HB hb
          clear hb
          go_wp2_with fail
          clear HD
          clear HE
          refine (at_any 1 3 _).mono ?_
          rintro e w207 ⟨rfl, hb⟩
          replace HK := Lib.hid (HK.out.keep hb)
          replace HR := Lib.hid (HR.out.keep hb)
          replace HB := bel_tr HB hb
          clear hb
          go_wp2_with fail
          have hbn := bel_box w207 (.cells #[.int .i64 1, .int .i64 3] 33)
          replace HK := Lib.hid (HK.out.keep hbn)
          replace HR := Lib.hid (HR.out.keep hbn)
          replace HB := bel_tr HB hbn
          have HD := Lib.hid (RowD.lit w207 [(1, 3)] #[.int .i64 1, .int .i64 3] 33 (0, 0) rfl)
          clear hbn
          generalize w207.alloc (.cells #[.int .i64 1, .int .i64 3] 33) = w208 at *
          generalize w207.heap.size = a208 at *
          refine (dead_lit [kA, kB, kC] [] [(1, 3)] 0 ex15 rfl rfl rfl HR.out (RowD.nil _ _) HD.out (by decide) (by decide) (by decide)).mono ?_
          rintro e w209 ⟨rfl, hb⟩
          replace HK := Lib.hid (HK.out.keep hb)
          replace HR := Lib.hid (HR.out.keep hb)
          replace HD := Lib.hid (HD.out.keep hb)
          replace HB := bel_tr HB hb
          clear hb
          go_wp2_with fail
          clear HD
          refine (timed_lit [kA, kB, kC] 7 0 ex16 rfl HR.out (by decide)).mono ?_
          rintro e w210 ⟨rfl, hb⟩
          replace HK := Lib.hid (HK.out.keep hb)
          replace HR := Lib.hid (HR.out.keep hb)
          replace HB := bel_tr HB hb
          clear hb
          go_wp2_with fail
          refine (timed_lit [] 0 0 ex17 rfl (RowN.nil _ _) (by decide)).mono ?_
          rintro e w211 ⟨rfl, hb⟩
          replace HK := Lib.hid (HK.out.keep hb)
          replace HR := Lib.hid (HR.out.keep hb)
          replace HB := bel_tr HB hb
          clear hb
          go_wp2_with fail
          refine (at_any 9 9 _).mono ?_
          rintro e w212 ⟨rfl, hb⟩
          replace HK := Lib.hid (HK.out.keep hb)
          replace HR := Lib.hid (HR.out.keep hb)
          replace HB := bel_tr HB hb
          clear hb
          go_wp2_with fail
          have hbn := bel_box w212 (.cells #[.int .i64 9, .int .i64 9] 33)
          replace HK := Lib.hid (HK.out.keep hbn)
          replace HR := Lib.hid (HR.out.keep hbn)
          replace HB := bel_tr HB hbn
          have HD := Lib.hid (RowD.lit w212 [(9, 9)] #[.int .i64 9, .int .i64 9] 33 (0, 0) rfl)
          clear hbn
          generalize w212.alloc (.cells #[.int .i64 9, .int .i64 9] 33) = w213 at *
          generalize w212.heap.size = a213 at *
          refine (lacks_lit [kA, kB, kC] [(9, 9)] 0 ex18 (by decide) rfl rfl HR.out HD.out (by decide) (by decide)).mono ?_
          rintro e w214 ⟨rfl, hb⟩
          replace HK := Lib.hid (HK.out.keep hb)
          replace HR := Lib.hid (HR.out.keep hb)
          replace HD := Lib.hid (HD.out.keep hb)
          replace HB := bel_tr HB hb
          clear hb
          obtain ⟨a0, a1, a2, a3, a4, a5⟩ := Kn.ca HK.out
          obtain ⟨b0, b1, b2, b3, b4, b5⟩ := Kn.cb HK.out
          go_wp2_with fail
          clear a0 a1 a2 a3 a4 a5
          clear b0 b1 b2 b3 b4 b5
          clear HD
          have hbn := bel_box w214 (.cells #[.int .i64 2, .int .i64 2, .int .i64 1, .int .i64 1, .int .i64 2, .int .i32 98, .int .i64 1, .int .i64 1, .int .i64 0, .int .i64 0, .int .i64 1, .int .i32 97] 35)
          replace HK := Lib.hid (HK.out.keep hbn)
          replace HR := Lib.hid (HR.out.keep hbn)
          replace HB := bel_tr HB hbn
          have HA := Lib.hid (RowN.lit w214 [kB, kA] #[.int .i64 2, .int .i64 2, .int .i64 1, .int .i64 1, .int .i64 2, .int .i32 98, .int .i64 1, .int .i64 1, .int .i64 0, .int .i64 0, .int .i64 1, .int .i32 97] 35 (0, 0) rfl)
          clear hbn
          generalize w214.alloc (.cells #[.int .i64 2, .int .i64 2, .int .i64 1, .int .i64 1, .int .i64 2, .int .i32 98, .int .i64 1, .int .i64 1, .int .i64 0, .int .i64 0, .int .i64 1, .int .i32 97] 35) = w215 at *
          generalize w214.heap.size = a215 at *
          refine (nodes_any _ _).mono ?_
          rintro e w216 ⟨rfl, rfl⟩
          go_wp2_with fail
          refine (lacks_lit [kB, kA] [] 2 ex19 (by decide) rfl rfl HA.out (RowD.nil _ _) (by decide) (by decide)).mono ?_
          rintro e w217 ⟨rfl, hb⟩
          replace HK := Lib.hid (HK.out.keep hb)
          replace HR := Lib.hid (HR.out.keep hb)
          replace HA := Lib.hid (HA.out.keep hb)
          replace HB := bel_tr HB hb
          clear hb
          go_wp2_with fail
          go_ret
          exact ⟨rfl, HB.out⟩
end Go.Proofs.YtfpfihmihlmobaaGreat.Qs
