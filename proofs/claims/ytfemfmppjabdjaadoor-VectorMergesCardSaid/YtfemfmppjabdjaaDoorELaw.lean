/-
  The law's helpers.
-/
import Derived.Test.YtfemfmppjabdjaaDoorEParP
import Derived.Deep.CutRange
namespace Go.Proofs.YtfemfmppjabdjaaDoor.E
set_option linter.unusedVariables false
open Go.RowKit V Go.Sort D

set_option maxRecDepth 100000 in
theorem of5_any (a b : Int) (w : World) : Calls Tryd.prog 33 #[.int .i64 a, .int .i64 b] w fun e w' => e = .returned (dv (a, b)) ∧ Below w.heap.size w w' := by
  go_enter Tryd.func33, Tryd.ntmps33
  go_wp2_with fail
  (try simp only [Exit.inBlock, Exit.then])
  refine bodyPost_ret (v := dv (a, b)) (by rw [results_cell1 (fn := Tryd.f33) (p := 4) (ty := 25) rfl]; go_simp) rfl ?_
  exact ⟨rfl, bel_box _ _⟩
set_option maxRecDepth 100000 in
theorem gives_true (l : List Dt) (x y : Value) (q : Int) (w : World) (hx : SV w x l) (hy : SV w y l) (hl : l.length ≤ 1000000) :
    Calls Tryd.prog 24 #[x, .int .i64 q, y, .int .i64 q] w fun e w' => e = .returned (.bool true) ∧ Below w.heap.size w w' := by
  obtain ⟨a, c, rfl, hr, -⟩ := hx
  obtain ⟨b, d, rfl, hs, -⟩ := hy
  have HS := Lib.hid (same_ref l l a b c d w hr hs (by omega) (by omega))
  rw [show decide (l = l) = true by simp] at HS
  clear hr hs hl
  go_enter Tryd.func24, Tryd.ntmps24
  go_wp2_with fail
  refine HS.out.mono ?_
  rintro e w2 ⟨rfl, hb⟩
  have HB := Lib.hid hb
  clear hb HS
  go_wp2_with fail
  go_ret
  exact ⟨rfl, HB.out⟩
theorem SV.len {w : World} {v : Value} {l : List Dt} (h : SV w v l) : ∃ a c, v = .slice a l.length c := by
  obtain ⟨a, c, e, -⟩ := h
  exact ⟨a, c, e⟩

set_option maxRecDepth 100000 in
theorem made_true (l : List Dt) (a : Option Addr) (c : Nat) (u : Value) (m : List Dt) (q : Int) (w : World) (hx : RowD w a l) (hl : l.length ≤ 1000000) (hu : SV w u m) (hm : m.length ≤ 1000000) (h : ofB l = (m, q)) :
    Calls Tryd.prog 16 #[.slice a l.length c, u, .int .i64 q] w fun e w' => e = .returned (.bool true) ∧ Below w.heap.size w w' := by
  have HC := Lib.hid (of_any l a c w hx (by omega))
  rw [h] at HC
  have HU := Lib.hid hu
  have HM := Lib.hid hm
  clear h hu hm hx hl
  have HU2 := HU
  have HB : Hid (Below w.heap.size w w) := Below.refl _ _
  go_enter Tryd.func16, Tryd.ntmps16
  go_wp2_with fail
  refine HC.out.mono ?_
  rintro e w2 ⟨v, rfl, ho, hb⟩
  have HG := Lib.hid (gives_true m v u q w2 (SV.of_od ho) (HU2.out.keep hb) HM.out)
  have HB2 := Lib.hid (HB.out.trans (hb.mono HB.out.size))
  clear ho hb HC
  obtain ⟨a9, c9, rfl⟩ := HU.out.len
  go_wp2_with fail
  refine HG.out.mono ?_
  rintro e w3 ⟨rfl, hb⟩
  have HB3 := bel_tr HB2 hb
  clear hb HG
  go_wp2_with fail
  go_ret
  exact ⟨rfl, HB3.out⟩

set_option maxRecDepth 100000 in
theorem merged_true (xs ys : List Dt) (a b : Option Addr) (c d : Nat) (u : Value) (m : List Dt) (q : Int) (w : World) (hx : RowD w a xs) (hy : RowD w b ys) (hna : a = none → c = 0) (hnb : b = none → d = 0) (hlx : xs.length ≤ 1000000) (hly : ys.length ≤ 1000000) (hu : SV w u m) (hm : m.length ≤ 1000000) (h : mergeB xs ys = (m, q)) :
    Calls Tryd.prog 21 #[.slice a xs.length c, .slice b ys.length d, u, .int .i64 q] w fun e w' => e = .returned (.bool true) ∧ Below w.heap.size w w' := by
  have HC := Lib.hid (merge_any xs ys a b c d w hx hy hna hnb hlx hly)
  rw [h] at HC
  have HU := Lib.hid hu
  have HM := Lib.hid hm
  clear h hu hm hx hy hna hnb hlx hly
  have HU2 := HU
  have HB : Hid (Below w.heap.size w w) := Below.refl _ _
  go_enter Tryd.func21, Tryd.ntmps21
  go_wp2_with fail
  refine HC.out.mono ?_
  rintro e w2 ⟨v, rfl, ho, hb⟩
  have HG := Lib.hid (gives_true m v u q w2 (SV.of_od ho) (HU2.out.keep hb) HM.out)
  have HB2 := Lib.hid (HB.out.trans (hb.mono HB.out.size))
  clear ho hb HC
  obtain ⟨a9, c9, rfl⟩ := HU.out.len
  go_wp2_with fail
  refine HG.out.mono ?_
  rintro e w3 ⟨rfl, hb⟩
  have HB3 := bel_tr HB2 hb
  clear hb HG
  go_wp2_with fail
  go_ret
  exact ⟨rfl, HB3.out⟩

set_option maxRecDepth 100000 in
theorem raised_true (xs : List Dt) (x : Dt) (a : Option Addr) (c : Nat) (u : Value) (m : List Dt) (q : Int) (w : World) (hx : RowD w a xs) (hna : a = none → c = 0) (hlx : xs.length ≤ 1000000) (hu : SV w u m) (hm : m.length ≤ 1000000) (h : raiseB xs x = (m, q)) :
    Calls Tryd.prog 19 #[.slice a xs.length c, dv x, u, .int .i64 q] w fun e w' => e = .returned (.bool true) ∧ Below w.heap.size w w' := by
  have HC := Lib.hid (raise_any xs x a c (w.alloc (Obj.cells #[.int .i64 x.1, .int .i64 x.2] 25)) (hx.keep (bel_box w _)) hna hlx)
  rw [h] at HC
  have HU := Lib.hid hu
  have HM := Lib.hid hm
  clear h hu hm hx hna hlx
  have HU2 : Hid (SV (w.alloc (Obj.cells #[.int .i64 x.1, .int .i64 x.2] 25)) u m) := HU.out.keep (bel_box w _)
  have HB : Hid (Below w.heap.size w (w.alloc (Obj.cells #[.int .i64 x.1, .int .i64 x.2] 25))) := bel_box w _
  obtain ⟨x1, x2⟩ := x
  go_enter Tryd.func19, Tryd.ntmps19
  go_wp2_with fail
  refine HC.out.mono ?_
  rintro e w2 ⟨v, rfl, ho, hb⟩
  have HG := Lib.hid (gives_true m v u q w2 (SV.of_od ho) (HU2.out.keep hb) HM.out)
  have HB2 : Hid (Below w.heap.size w w2) := HB.out.trans (hb.mono HB.out.size)
  clear ho hb HC
  obtain ⟨a9, c9, rfl⟩ := HU.out.len
  go_wp2_with fail
  refine HG.out.mono ?_
  rintro e w3 ⟨rfl, hb⟩
  have HB3 := bel_tr HB2 hb
  clear hb HG
  go_wp2_with fail
  go_ret
  exact ⟨rfl, HB3.out⟩

set_option maxRecDepth 100000 in
theorem parses_true (s : List UInt8) (u : Value) (m : List Dt) (q : Int) (w : World) (hL : Ld w) (hl : s.length ≤ 1000) (hu : SV w u m) (hm : m.length ≤ 1000000) (h : prsE s = (m, q)) :
    Calls Tryd.prog 30 #[.string ⟨s.toArray⟩, u, .int .i64 q] w fun e w' => e = .returned (.bool true) ∧ Below w.heap.size w w' := by
  have HC := Lib.hid (parse_any5 s w hL hl)
  rw [h] at HC
  have HU := Lib.hid hu
  have HM := Lib.hid hm
  clear h hu hm hL hl
  have HU2 := HU
  have HB : Hid (Below w.heap.size w w) := Below.refl _ _
  generalize (⟨s.toArray⟩ : ByteArray) = S at *
  go_enter Tryd.func30, Tryd.ntmps30
  go_wp2_with fail
  refine HC.out.mono ?_
  rintro e w2 ⟨v, rfl, ho, hb⟩
  have HG := Lib.hid (gives_true m v u q w2 (SV.of_od ho) (HU2.out.keep hb) HM.out)
  have HB2 := Lib.hid (HB.out.trans (hb.mono HB.out.size))
  clear ho hb HC
  obtain ⟨a9, c9, rfl⟩ := HU.out.len
  go_wp2_with fail
  refine HG.out.mono ?_
  rintro e w3 ⟨rfl, hb⟩
  have HB3 := bel_tr HB2 hb
  clear hb HG
  go_wp2_with fail
  go_ret
  exact ⟨rfl, HB3.out⟩

set_option maxRecDepth 100000 in
theorem orders_true (xs ys : List Dt) (a b : Option Addr) (c d : Nat) (z q : Int) (w : World) (hx : RowD w a xs) (hy : RowD w b ys) (hlx : xs.length ≤ 1000000) (hly : ys.length ≤ 1000000) (h : ordR xs ys = (z, q)) :
    Calls Tryd.prog 22 #[.slice a xs.length c, .slice b ys.length d, .int .i64 z, .int .i64 q] w fun e w' => e = .returned (.bool true) ∧ Below w.heap.size w w' := by
  have HC := Lib.hid (order_any xs ys a b c d w hx hy (by omega) (by omega))
  rw [h] at HC
  clear h hx hy hlx hly
  go_enter Tryd.func22, Tryd.ntmps22
  go_wp2_with fail
  refine HC.out.mono ?_
  rintro e w2 ⟨rfl, hl⟩
  have HB := Lib.hid hl.bel
  clear hl HC
  go_wp2_with fail
  go_ret
  exact ⟨rfl, HB.out⟩
set_option maxRecDepth 100000 in
theorem texts_true (v : List Dt) (a : Option Addr) (c : Nat) (s : List UInt8) (q : Int) (w : World) (hL : Ld w) (hx : RowD w a v) (hlx : v.length ≤ 1000000) (h : txtB v = (s, q)) :
    Calls Tryd.prog 27 #[.slice a v.length c, .string ⟨s.toArray⟩, .int .i64 q] w fun e w' => e = .returned (.bool true) ∧ Below w.heap.size w w' := by
  have HC := Lib.hid (text_any5 v a c w hL hx hlx)
  rw [h] at HC
  clear h hL hx hlx
  have hb2 : ((⟨s.toArray⟩ : ByteArray).toList == (⟨s.toArray⟩ : ByteArray).toList) = true := by simp
  generalize (⟨s.toArray⟩ : ByteArray) = S at *
  go_enter Tryd.func27, Tryd.ntmps27
  go_wp2_with fail
  refine HC.out.mono ?_
  rintro e w2 ⟨rfl, hb⟩
  have HB := Lib.hid hb
  clear hb HC
  go_wp2_with fail
  go_ret
  exact ⟨rfl, HB.out⟩

/-! ### The examples, plainly -/
theorem dig1 (n : Nat) (h : n < 10) : Lib.decDigits n = [UInt8.ofNat (48 + n)] := dig_small h
theorem txt_small (a b : Nat) (ha : a < 10) (hb : b < 10) (h : rootR ((a : Int), (b : Int)) = false) : txtD ((a : Int), (b : Int)) = [UInt8.ofNat (48 + a), 46, UInt8.ofNat (48 + b)] := by
  unfold txtD
  rw [h, if_neg (by simp), Int.toNat_natCast, Int.toNat_natCast, dig_small ha, dig_small hb]
  rfl
theorem t12 : txtD (1, 2) = [49, 46, 50] := txt_small 1 2 (by omega) (by omega) (by decide)
theorem t37 : txtD (3, 7) = [51, 46, 55] := txt_small 3 7 (by omega) (by omega) (by decide)
theorem p12 : prsD [49, 46, 50] = some (1, 2) := by rw [← t12]; exact prs_txt (.inl (by decide))
theorem p37 : prsD [51, 46, 55] = some (3, 7) := by rw [← t37]; exact prs_txt (.inl (by decide))
theorem ex1 : ofB [(3, 7), (1, 2), (3, 4)] = ([(1, 2), (3, 7)], 0) := by decide
theorem ex2 : ofB [] = ([], 0) := by decide
theorem ex3 : ofB [(0, 1)] = ([], 2) := by decide
theorem ex4 : raiseB [(1, 2), (3, 7)] (2, 5) = ([(1, 2), (2, 5), (3, 7)], 0) := by decide
theorem ex5 : raiseB [(1, 2), (3, 7)] (3, 5) = ([(1, 2), (3, 7)], 0) := by decide
theorem ex6 : mergeB [(1, 2), (3, 7)] [(1, 4), (2, 1)] = ([(1, 4), (2, 1), (3, 7)], 0) := by decide
theorem ex7 : mergeB [(3, 7), (1, 2)] [] = ([], 2) := by decide
theorem ex8 : ordR [(1, 2)] [(1, 2), (3, 7)] = (-1, 0) := by decide
theorem ex9 : ordR [(1, 2), (3, 7)] [(1, 2)] = (1, 0) := by decide
theorem ex10 : ordR [(1, 2)] [(3, 7)] = (2, 0) := by decide
theorem ex11 : ordR [] [] = (0, 0) := by decide
theorem ex12 : txtB [] = ([45], 0) := by decide
theorem ex13 : prsE [49, 46, 50, 32, 51, 46, 55] = ([(1, 2), (3, 7)], 0) := by
  unfold prsE
  rw [prsV_parts, if_neg (by decide), show parts [] [49, 46, 50, 32, 51, 46, 55] = [[49, 46, 50], [51, 46, 55]] by decide]
  simp only [readAll, p12, p37]
  rw [if_pos (by decide)]
theorem ex14 : prsE [51, 46, 55, 32, 49, 46, 50] = ([], 6) := by
  unfold prsE
  rw [prsV_parts, if_neg (by decide), show parts [] [51, 46, 55, 32, 49, 46, 50] = [[51, 46, 55], [49, 46, 50]] by decide]
  simp only [readAll, p12, p37]
  rw [if_neg (by decide)]
theorem ex15 : prsE [] = ([], 6) := by
  have h : prsD [] = none := by simp [prsD, fP, validR, rootT]
  unfold prsE
  rw [prsV_parts, if_neg (by decide), show parts [] [] = [[]] by decide]
  simp only [readAll, h]
theorem ex16 : getV [(1, 2), (3, 7)] 3 = 7 := by decide
theorem ex17 : getV [(1, 2), (3, 7)] 2 = 0 := by decide
theorem ex18 : hasV [(1, 2), (3, 7)] (3, 7) = true := by decide
theorem ex19 : hasV [(1, 2), (3, 7)] (3, 8) = false := by decide
theorem ex20 : hasV [(1, 2), (3, 7)] (1, 0) = false := by decide
end Go.Proofs.YtfemfmppjabdjaaDoor.E
