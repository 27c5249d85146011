/-
  What the laws of layer 14 call.
-/
import Derived.Test.YtmdebedkljpagaaJnK
namespace Go.Proofs.Ytmdebedkljpagaa.Jn
set_option linter.unusedVariables false
open Go.RowKit V Go.Sort D Nd Qs
attribute [local irreducible] Sch.heldN Sch.stepV Sch.stepE

theorem gb_bel {w w1 : World} {B g : Nat} (h : w.grownBy w1 (some g)) (hB : B ≤ g) (hw : B ≤ w.heap.size) : Below B w w1 := ⟨h.os, h.tape, h.output, h.size, fun b hb => h.block b (by omega) (by simp; omega)⟩
set_option maxRecDepth 100000 in
set_option maxHeartbeats 2000000 in
theorem dot_law (x y : Int) (w : World) : Calls Try.prog 26 #[.int .i64 x, .int .i64 y] w fun e w' => e = .returned (dv (x, y)) ∧ Below w.heap.size w w' := by
  have hb := bel_box w (.cells #[.int .i64 0, .int .i64 0] 42)
  have c0 : (w.alloc (.cells #[.int .i64 0, .int .i64 0] 42)).cell? ⟨w.heap.size, 0, none⟩ = some (.int .i64 0) := by go_simp
  have c1 : (w.alloc (.cells #[.int .i64 0, .int .i64 0] 42)).cell? ⟨w.heap.size, 1, none⟩ = some (.int .i64 0) := by go_simp
  have f0 : (w.alloc (.cells #[.int .i64 0, .int .i64 0] 42)).frozen? ⟨w.heap.size, 0, none⟩ = false := by go_simp
  have f1 : (w.alloc (.cells #[.int .i64 0, .int .i64 0] 42)).frozen? ⟨w.heap.size, 1, none⟩ = false := by go_simp
  have HB := Lib.hid hb
  clear hb
  go_enter Try.func26, Try.ntmps26
  go_upto_region 1 with fail
  generalize w.alloc (.cells #[.int .i64 0, .int .i64 0] 42) = w1 at *
  go_wp2_with fail
  (try simp only [Exit.inBlock, Exit.then])
  refine bodyPost_ret (v := .agg #[.int .i64 x, .int .i64 y]) (by rw [results_cell1 (fn := Try.f26) (p := 4) (ty := 42) rfl]; go_simp) rfl ?_
  exact ⟨rfl, (HB.out.setCell (p := ⟨w.heap.size, 0, none⟩) (Nat.le_refl _) _).setCell (p := ⟨w.heap.size, 1, none⟩) (Nat.le_refl _) _⟩
set_option maxRecDepth 100000 in
set_option maxHeartbeats 4000000 in
theorem joins_true (xs ys Z : List Nt) (q : Int) (h : joinP xs ys = (Z, q)) (a b : Option Addr) (c d : Nat) (w : World) (z : Option Addr) (cz : Nat) (hX : Sl w a xs.length c xs) (hY : Sl w b ys.length d ys) (hlx : xs.length ≤ 100000) (hly : ys.length ≤ 100000) (hz : RowN w z Z) :
    Calls Try.prog 17 #[.slice a xs.length c, .slice b ys.length d, .slice z Z.length cz, .int .i64 q] w fun e w' => e = .returned (.bool true) ∧ Below w.heap.size w w' := by
  have HJ := Lib.hid (join_any xs ys a b c d w hX.r hX.z hX.c hY.r hY.z hY.c (by omega) (by omega))
  have HL : Hid (Z.length ≤ 1000000) := by
    have h1 := joinP_len xs ys
    rw [h] at h1
    show _ ≤ _
    simp only at h1
    omega
  rw [h] at HJ
  have HS := Lib.hid (fun aX cX w h1 h2 => same_ref Z Z aX z cX cz w h1 h2 (by have := HL.out; omega) (by have := HL.out; omega))
  rw [decide_eq_true rfl] at HS
  have HZ := Lib.hid hz
  clear hX hY hlx hly h hz
  go_enter Try.func17, Try.ntmps17
  go_wp2_with fail
  refine HJ.out.mono ?_
  rintro e w2 ⟨v, rfl, ho, hb⟩
  obtain ⟨a2, c2, rfl, hr, -⟩ := ON.row ho
  have HR := Lib.hid hr
  have HZ2 := Lib.hid (HZ.out.keep hb)
  have HB := Lib.hid hb
  clear hb HJ ho hr HZ
  go_wp2_with fail
  refine (HS.out _ _ _ HR.out HZ2.out).mono ?_
  rintro e w3 ⟨rfl, hb⟩
  replace HB := bel_tr HB hb
  clear hb HS
  go_wp2_with fail
  go_ret
  exact ⟨rfl, HB.out⟩
set_option maxRecDepth 100000 in
set_option maxHeartbeats 4000000 in
theorem alls_true (S : List S3) (Z : List Nt) (q : Int) (h : allS (S.map (·.1)) = (Z, q)) (a : Option Addr) (c : Nat) (w : World) (z : Option Addr) (cz : Nat) (hS : RowL w a S) (hA : AllL w S) (hn : S.length ≤ 1000) (hlen : (catS S).length ≤ 100000) (hf : ∀ x ∈ catS S, fitN x) (hz : RowN w z Z) (hl : Z.length ≤ 1000000) :
    Calls Try.prog 21 #[.slice a S.length c, .slice z Z.length cz, .int .i64 q] w fun e w' => e = .returned (.bool true) ∧ Below w.heap.size w w' := by
  have HJ := Lib.hid (all_any S a c w hS hA hn hlen hf)
  rw [h] at HJ
  have HS := Lib.hid (fun aX cX w h1 h2 => same_ref Z Z aX z cX cz w h1 h2 hl hl)
  rw [decide_eq_true rfl] at HS
  have HZ := Lib.hid hz
  clear hS hA hn hlen hf h hz hl
  go_enter Try.func21, Try.ntmps21
  go_wp2_with fail
  refine HJ.out.mono ?_
  rintro e w2 ⟨v, rfl, ho, hb⟩
  obtain ⟨a2, c2, rfl, hr, -⟩ := ON.row ho
  have HR := Lib.hid hr
  have HZ2 := Lib.hid (HZ.out.keep hb)
  have HB := Lib.hid hb
  clear hb HJ ho hr HZ
  go_wp2_with fail
  refine (HS.out _ _ _ HR.out HZ2.out).mono ?_
  rintro e w3 ⟨rfl, hb⟩
  replace HB := bel_tr HB hb
  clear hb HS
  go_wp2_with fail
  go_ret
  exact ⟨rfl, HB.out⟩
set_option maxRecDepth 100000 in
set_option maxHeartbeats 4000000 in
theorem within_true (xs ys : List Nt) (t : Bool) (q : Int) (h : inP xs ys = (t, q)) (a b : Option Addr) (c d : Nat) (w : World) (hX : Sl w a xs.length c xs) (hY : Sl w b ys.length d ys) (hlx : xs.length ≤ 100000) (hly : ys.length ≤ 100000) :
    Calls Try.prog 22 #[.slice a xs.length c, .slice b ys.length d, .bool t, .int .i64 q] w fun e w' => e = .returned (.bool true) ∧ Below w.heap.size w w' := by
  have HJ := Lib.hid (within_any xs ys a b c d w hX.r hX.z hX.c hY.r hY.z hY.c (by omega) (by omega))
  rw [h] at HJ
  clear hX hY hlx hly h
  go_enter Try.func22, Try.ntmps22
  go_wp2_with fail
  refine HJ.out.mono ?_
  rintro e w2 ⟨rfl, hb⟩
  have HB := Lib.hid hb
  clear hb HJ
  cases t
  · go_wp2_with fail
    go_ret
    exact ⟨rfl, HB.out⟩
  · go_wp2_with fail
    go_ret
    exact ⟨rfl, HB.out⟩
set_option maxRecDepth 100000 in
set_option maxHeartbeats 4000000 in
theorem agree_true (xs ys : List Nt) (t : Bool) (q : Int) (h : agP xs ys = (t, q)) (a b : Option Addr) (c d : Nat) (w : World) (hX : Sl w a xs.length c xs) (hY : Sl w b ys.length d ys) (hlx : xs.length ≤ 100000) (hly : ys.length ≤ 100000) :
    Calls Try.prog 16 #[.slice a xs.length c, .slice b ys.length d, .bool t, .int .i64 q] w fun e w' => e = .returned (.bool true) ∧ Below w.heap.size w w' := by
  have HJ := Lib.hid (agree_any xs ys a b c d w hX.r hX.z hX.c hY.r hY.z hY.c (by omega) (by omega))
  rw [h] at HJ
  clear hX hY hlx hly h
  go_enter Try.func16, Try.ntmps16
  go_wp2_with fail
  refine HJ.out.mono ?_
  rintro e w2 ⟨rfl, hb⟩
  have HB := Lib.hid hb
  clear hb HJ
  cases t
  · go_wp2_with fail
    go_ret
    exact ⟨rfl, HB.out⟩
  · go_wp2_with fail
    go_ret
    exact ⟨rfl, HB.out⟩
end Go.Proofs.Ytmdebedkljpagaa.Jn
