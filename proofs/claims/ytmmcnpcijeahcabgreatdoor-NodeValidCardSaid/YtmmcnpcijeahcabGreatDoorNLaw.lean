/-
  The law's helpers.
-/
import Derived.Test.YtmmcnpcijeahcabGreatDoorNPrs
namespace Go.Proofs.YtmmcnpcijeahcabGreatDoor.Nd
set_option linter.unusedVariables false
open Go.RowKit V Go.Sort D

set_option maxRecDepth 100000 in
set_option maxHeartbeats 1000000 in
theorem of0_any (r c t q : Int) (w : World) : Calls Tryz.prog 30 #[.int .i64 r, .int .i64 c, .int .i64 0, .int .i64 t, .int .i32 q] w fun e w' => e = .returned (.agg #[.int .i64 r, .int .i64 c, .int .i64 0, .int .i64 0, .int .i64 t, .int .i32 q]) ∧ Below w.heap.size w w' := by
  go_enter Tryz.func30, Tryz.ntmps30
  go_wp2_with fail
  (try simp only [Exit.inBlock, Exit.then])
  refine bodyPost_ret (v := .agg #[.int .i64 r, .int .i64 c, .int .i64 0, .int .i64 0, .int .i64 t, .int .i32 q]) (by rw [results_cell1 (fn := Tryz.f30) (p := 10) (ty := 25) rfl]; go_simp) rfl ?_
  exact ⟨rfl, (bel_box _ _).alloc (by simp) _⟩
set_option maxRecDepth 100000 in
set_option maxHeartbeats 1000000 in
theorem ofP_any (r c p t q : Int) (hp : 0 < p) (w : World) : Calls Tryz.prog 30 #[.int .i64 r, .int .i64 c, .int .i64 p, .int .i64 t, .int .i32 q] w fun e w' => e = .returned (.agg #[.int .i64 r, .int .i64 c, .int .i64 1, .int .i64 p, .int .i64 t, .int .i32 q]) ∧ Below w.heap.size w w' := by
  go_enter Tryz.func30, Tryz.ntmps30
  go_wp2_with fail
  (try simp only [Exit.inBlock, Exit.then])
  refine bodyPost_ret (v := .agg #[.int .i64 r, .int .i64 c, .int .i64 1, .int .i64 p, .int .i64 t, .int .i32 q]) (by rw [results_cell1 (fn := Tryz.f30) (p := 10) (ty := 25) rfl]; go_simp) rfl ?_
  exact ⟨rfl, (bel_box _ _).alloc (by simp) _⟩

theorem eql_self (x : Nt) (w : World) : Sem.run Tryz.prog (binOp .eql 25 (nv x) (nv x)) w = .ok (.bool true) w := by
  rw [eql_node, decide_eq_true rfl]

set_option maxRecDepth 100000 in
set_option maxHeartbeats 1000000 in
theorem merges_any (a b x : Nt) (q : Int) (h : mergeN a b = (x, q)) (w : World) : Calls Tryz.prog 16 #[nv a, nv b, nv x, .int .i64 q] w fun e w' => e = .returned (.bool true) ∧ Below w.heap.size w w' := by
  have HM := Lib.hid (fun w => merge_any a b w)
  rw [h] at HM
  have hx := bel_box ((w.alloc (.cells (nc a) 25)).alloc (.cells (nc b) 25)) (.cells (nc x) 25)
  have hX := Nb.new ((w.alloc (.cells (nc a) 25)).alloc (.cells (nc b) 25)) x
  rw [show ((w.alloc (.cells (nc a) 25)).alloc (.cells (nc b) 25)).heap.size = w.heap.size + 1 + 1 by simp] at hX
  have HX := Lib.hid hX
  have HK := Lib.hid ((N2.new a b w).keep hx)
  have HB : Hid (Below w.heap.size w (((w.alloc (.cells (nc a) 25)).alloc (.cells (nc b) 25)).alloc (.cells (nc x) 25))) := bel_tr (bel_two w a b) hx
  have hself := eql_self x
  clear h hx hX
  go_enter Tryz.func16, Tryz.ntmps16
  go_wp2_with fail
  generalize ((w.alloc (.cells (nc a) 25)).alloc (.cells (nc b) 25)).alloc (.cells (nc x) 25) = w1 at *
  refine (HM.out _).mono ?_
  rintro e w2 ⟨rfl, hb⟩
  replace HX := Lib.hid (HX.out.keep hb)
  replace HB := bel_tr HB hb
  clear hb HM HK
  have hb := bel_box w2 (.cells (nc x) 25)
  replace HX := Lib.hid (HX.out.keep hb)
  replace HB := bel_tr HB hb
  have hn := Nb.new w2 x
  obtain ⟨x0, x1, x2, x3, x4, x5⟩ := HX.out
  obtain ⟨n0, n1, n2, n3, n4, n5⟩ := hn
  clear hb
  go_wp2_with fail
  go_ret
  exact ⟨rfl, HB.out⟩

set_option maxRecDepth 100000 in
set_option maxHeartbeats 1000000 in
theorem parsesE (s : List UInt8) (x : Nt) (q : Int) (w : World) (hL : Ln w) (hlen : s.length ≤ 1000000) (h : ∀ e, PrsP s (.int .i64 0) (.int .i64 6) e → e = .returned (.tuple #[nv x, .int .i64 q])) :
    Calls Tryz.prog 21 #[.string ⟨s.toArray⟩, nv x, .int .i64 q] w fun e w' => e = .returned (.bool true) ∧ Below w.heap.size w w' := by
  have HP := Lib.hid (fun w hL => (parseN_any s w hL hlen).mono fun e w' hp => And.intro (h e hp.1) hp.2)
  have HL := Lib.hid hL
  have HX := Lib.hid (Nb.new w x)
  have HB := Lib.hid (bel_box w (.cells (nc x) 25))
  have hself := eql_self x
  clear hL hlen h
  generalize (⟨s.toArray⟩ : ByteArray) = S at *
  go_enter Tryz.func21, Tryz.ntmps21
  go_wp2_with fail
  generalize w.alloc (.cells (nc x) 25) = w1 at *
  refine (HP.out _ (HL.out.below HB.out)).mono ?_
  rintro e w2 ⟨rfl, hb⟩
  replace HX := Lib.hid (HX.out.keep hb)
  replace HB := bel_tr HB hb
  clear hb HP
  have hb := bel_box w2 (.cells (nc x) 25)
  replace HX := Lib.hid (HX.out.keep hb)
  replace HB := bel_tr HB hb
  have hn := Nb.new w2 x
  obtain ⟨x0, x1, x2, x3, x4, x5⟩ := HX.out
  obtain ⟨n0, n1, n2, n3, n4, n5⟩ := hn
  clear hb
  go_wp2_with fail
  go_ret
  exact ⟨rfl, HB.out⟩
theorem parses_yes (s : List UInt8) (n : Nt) (hn : VN n) (hs : s = txtN n) (w : World) (hL : Ln w) (hlen : s.length ≤ 1000000) :
    Calls Tryz.prog 21 #[.string ⟨s.toArray⟩, nv n, .int .i64 0] w fun e w' => e = .returned (.bool true) ∧ Below w.heap.size w w' :=
  parsesE s n 0 w hL hlen fun e h => by
    rcases h with ⟨m, hm, hl, rfl⟩ | ⟨hno, -⟩
    · rw [txtN_inj hm hn (hl.symm.trans hs)]
    · exact absurd hs (hno n hn)
theorem parses_no (s : List UInt8) (hs : ∀ n, VN n → s ≠ txtN n) (w : World) (hL : Ln w) (hlen : s.length ≤ 1000000) :
    Calls Tryz.prog 21 #[.string ⟨s.toArray⟩, nv zeroN, .int .i64 6] w fun e w' => e = .returned (.bool true) ∧ Below w.heap.size w w' :=
  parsesE s zeroN 6 w hL hlen fun e h => by
    rcases h with ⟨m, hm, hl, rfl⟩ | ⟨-, h⟩
    · exact absurd hl (hs m hm)
    · exact h

/-! ### The examples, plainly -/
theorem ex_txt1 : [51, 46, 55, 32, 49, 46, 50, 32, 53, 32, 85, 43, 48, 48, 52, 49] = txtN ((3, 7), (1, 2), 5, 65) := by
  have h : R.nm 65 = [85, 43, 48, 48, 52, 49] := by rw [R.nm_lastk 65 4 (by omega) (by decide) (.inl rfl)]; rfl
  show _ = txtD (3, 7) ++ 32 :: (txtD (1, 2) ++ 32 :: (Lib.decDigits 5 ++ 32 :: R.nm 65))
  rw [h, txt_valid (d := (3, 7)) (by decide), txt_valid (d := (1, 2)) (by decide)]
  show _ = (Lib.decDigits 3 ++ [46] ++ Lib.decDigits 7) ++ 32 :: ((Lib.decDigits 1 ++ [46] ++ Lib.decDigits 2) ++ 32 :: (Lib.decDigits 5 ++ 32 :: [85, 43, 48, 48, 52, 49]))
  rw [dig_small (u := 3) (by omega), dig_small (u := 7) (by omega), dig_small (u := 1) (by omega), dig_small (u := 2) (by omega), dig_small (u := 5) (by omega)]
  rfl
theorem ex_txt2 : [51, 46, 55, 32, 114, 111, 111, 116, 32, 53, 32, 45] = txtN ((3, 7), (0, 0), 5, 0) := by
  show _ = txtD (3, 7) ++ 32 :: (txtD (0, 0) ++ 32 :: (Lib.decDigits 5 ++ 32 :: [45]))
  rw [txt_valid (d := (3, 7)) (by decide)]
  show _ = (Lib.decDigits 3 ++ [46] ++ Lib.decDigits 7) ++ 32 :: (rootT ++ 32 :: (Lib.decDigits 5 ++ 32 :: [45]))
  rw [dig_small (u := 3) (by omega), dig_small (u := 7) (by omega), dig_small (u := 5) (by omega)]
  rfl
theorem ex_no1 : ∀ n, VN n → [114, 111, 111, 116, 32, 114, 111, 111, 116, 32, 53, 32, 45] ≠ txtN n := by
  intro n hn h
  have e := words_txt n
  rw [← h] at e
  have e0 : rootT = txtD n.1 := (List.cons.inj e).1
  exact txt_ne_root hn.1 e0.symm
theorem ex_no2 : ∀ n, VN n → [51, 46, 55, 32, 114, 111, 111, 116, 32, 48, 53, 32, 45] ≠ txtN n := by
  intro n hn h
  have e := words_txt n
  rw [← h] at e
  have e1 : [[51, 46, 55], rootT, [48, 53], [45]] = [txtD n.1, txtD n.2.1, Lib.decDigits n.2.2.1.toNat, runeT n.2.2.2] := e
  simp only [List.cons.injEq, and_true] at e1
  have e2 := e1.2.2.1
  obtain ⟨-, -, -, h4, h5, -⟩ := hn
  have k := tR_txt (a := n.2.2.1.toNat) (by omega)
  rw [← e2] at k
  have k5 : n.2.2.1.toNat = 5 := k.symm
  rw [k5, dig_small (by omega)] at e2
  cases e2
theorem ex_no3 : ∀ n, VN n → [51, 46, 55, 32, 114, 111, 111, 116, 32, 53] ≠ txtN n := not_four (by decide)
end Go.Proofs.YtmmcnpcijeahcabGreatDoor.Nd
