/-
  Maps: the iterators; the methods where there is no map.
-/
import Derived.Test.YtmmcnpcijeahcaaJPairs
namespace Go.Proofs.Ytmmcnpcijeahcaa.J
set_option linter.unusedVariables false
open Go.RowKit V Go.Shelf

/-- An iterator over these pairs of a tree. -/
def It (w : World) (e : Ending) (w' : World) (S : List Pr) : Prop :=
  ∃ (b1 b2 : Nat) (T : Tr) (z : Int), e = .returned (.func (.func 69) #[] #[.pointer (some ⟨b1, 0, none⟩), .pointer (some ⟨b2, 0, none⟩)]) ∧ w'.cell? ⟨b1, 0, none⟩ = some (.pointer T.ad) ∧ w'.cell? ⟨b2, 0, none⟩ = some (.int .i64 z) ∧
    T.In w' ∧ T.list.drop z.toNat = S ∧ T.len ≤ 1000000 ∧ 0 ≤ z ∧ z ≤ 1000000 ∧ Below w.heap.size w w'
theorem enters_from : ∀ args w, (callFunc 69 args).run Try.prog w = .ok (.enter 69 args) w := enters_of Try.func69 (by kernel_rfl) rfl
/-- pairs of such an iterator. -/
theorem pairs_it {w : World} {b1 b2 : Nat} {T : Tr} {z : Int} {S : List Pr} (m : Int) (c1 : w.cell? ⟨b1, 0, none⟩ = some (.pointer T.ad)) (c2 : w.cell? ⟨b2, 0, none⟩ = some (.int .i64 z)) (hT : T.In w) (hS : T.list.drop z.toNat = S) (hl : T.len ≤ 1000000) (hz0 : 0 ≤ z) (hz : z ≤ 1000000) (hm : 1 ≤ m) :
    Calls Try.prog 22 #[.func (.func 69) #[] #[.pointer (some ⟨b1, 0, none⟩), .pointer (some ⟨b2, 0, none⟩)], .int .i64 m] w fun e w' => ∃ v, e = .returned v ∧ OP w' w.heap.size E v (S.take m.toNat) ∧ Below w.heap.size w w' := by
  refine pairs_any _ _ T S m w enters_from hT (fun W hb => ?_) hm (by rw [← hS, List.length_drop]; have : T.len = T.list.length := rfl; omega)
  rw [← hS]
  exact from_seq _ T z W b1 b2 rfl hl (by omega) (by omega) (keep_cell c1 hb) (keep_cell c2 hb)

set_option maxRecDepth 100000 in
theorem All_yes (g : Nat) (d : Bool) (L : List Pr) (w : World) (h : Mp w g d L) : Calls Try.prog 19 #[.pointer (some ⟨g, 0, none⟩)] w fun e w' => It w e w' L := by
  obtain ⟨T, h1, h2, rfl, h4, h5, h6, h7⟩ := h
  have HA := Lib.hid (all_yes g (fnOf d) T.ad w h1)
  have HT := Lib.hid h2
  have HF := Lib.hid (from_any T.ad 0 w)
  have H7 : Hid (T.len ≤ 1000000) := Nat.le_of_lt h7
  clear h1 h2 h4 h5 h6 h7
  go_enter Try.func19, Try.ntmps19
  go_wp2_with fail
  refine HA.out.mono ?_
  rintro e w2 ⟨rfl, rfl⟩
  go_wp2_with fail
  refine HF.out.mono ?_
  rintro e w3 ⟨b1, b2, rfl, c1, c2, hb⟩
  have C1 := Lib.hid c1
  have C2 := Lib.hid c2
  have HB := Lib.hid hb
  clear c1 c2 hb HF HA
  go_wp2_with fail
  go_ret
  exact ⟨b1, b2, T, 0, rfl, C1.out, C2.out, HT.out.keep HB.out, rfl, H7.out, by decide, by decide, HB.out⟩
set_option maxRecDepth 100000 in
set_option maxHeartbeats 1000000 in
theorem From_yes (g : Nat) (d : Bool) (L : List Pr) (k : Int) (w : World) (h : Mp w g d L) : Calls Try.prog 20 #[.pointer (some ⟨g, 0, none⟩), .int .i64 k] w fun e w' => It w e w' (L.drop (rank d L k)) := by
  obtain ⟨T, h1, h2, rfl, h4, h5, h6, h7⟩ := h
  have HT := Lib.hid h2
  have HF := Lib.hid (find_yes g (fnOf d) d T k w (cmp_fn d) h1 h2 h6 (Nat.le_of_lt h7))
  have hr := rank_le d T.list k
  have H7 : Hid (T.len ≤ 1000000 ∧ rank d T.list k ≤ 1000000) := ⟨Nat.le_of_lt h7, by omega⟩
  generalize rank d T.list k = Z at *
  clear h1 h2 h4 h5 h6 h7 hr
  go_enter Try.func20, Try.ntmps20
  go_wp2_with fail
  refine HF.out.mono ?_
  rintro e w2 ⟨U, rfl, hu, ht, hb⟩
  have HT2 := Lib.hid ((HT.out.keep hb).keep (bel_box w2 (pbox T.ad Z U.ad)))
  have HB := Lib.hid (hb.alloc hb.size (pbox T.ad Z U.ad))
  have HFr := Lib.hid (from_any T.ad Z (w2.alloc (pbox T.ad Z U.ad)))
  clear hu ht hb HF HT
  go_wp2_with fail
  refine HFr.out.mono ?_
  rintro e w3 ⟨b1, b2, rfl, c1, c2, hb⟩
  have C1 := Lib.hid c1
  have C2 := Lib.hid c2
  have HT3 := Lib.hid (HT2.out.keep hb)
  replace HB := Lib.hid (bel_tr HB.out hb)
  clear c1 c2 hb HFr HT2
  go_wp2_with fail
  go_ret
  exact ⟨b1, b2, T, Z, rfl, C1.out, C2.out, HT3.out, by simp, H7.out.1, by omega, by have := H7.out.2; omega, HB.out⟩
set_option maxRecDepth 100000 in
theorem All_no (a : Option Addr) (w : World) (h : No w a) : Calls Try.prog 19 #[.pointer a] w fun e w' => It w e w' [] := by
  have HA := Lib.hid (all_no a w h)
  have HF := Lib.hid (from_any none 0 w)
  clear h
  go_enter Try.func19, Try.ntmps19
  go_wp2_with fail
  refine HA.out.mono ?_
  rintro e w2 ⟨rfl, rfl⟩
  go_wp2_with fail
  refine HF.out.mono ?_
  rintro e w3 ⟨b1, b2, rfl, c1, c2, hb⟩
  have C1 := Lib.hid c1
  have C2 := Lib.hid c2
  have HB := Lib.hid hb
  clear c1 c2 hb HF HA
  go_wp2_with fail
  go_ret
  exact ⟨b1, b2, .nil, 0, rfl, C1.out, C2.out, trivial, rfl, by decide, by decide, by decide, HB.out⟩
theorem at_nil (i : Int) (w : World) (h1 : -9223372036854775808 ≤ i) (h2 : i ≤ 9223372036854775807) : Calls Try.prog 68 #[.pointer none, .int .i64 i] w fun e w' => e = .returned (.pointer none) ∧ w' = w := by
  refine (at_any .nil i w trivial (by decide) h1 h2).mono ?_
  rintro e w' ⟨u, rfl, -, hu, rfl⟩
  have hat : atL Tr.nil.list i = none := by unfold atL; split <;> simp [Tr.list]
  rw [hat] at hu
  obtain rfl : u = .nil := hu
  exact ⟨rfl, rfl⟩

set_option maxRecDepth 100000 in
set_option maxHeartbeats 1000000 in
theorem From_no (a : Option Addr) (k : Int) (w : World) (h : No w a) : Calls Try.prog 20 #[.pointer a, .int .i64 k] w fun e w' => It w e w' [] := by
  have HF := Lib.hid (find_no a k w h)
  clear h
  go_enter Try.func20, Try.ntmps20
  go_wp2_with fail
  refine HF.out.mono ?_
  rintro e w2 ⟨rfl, hb⟩
  have HB := Lib.hid (hb.alloc hb.size (pbox none 0 none))
  have HFr := Lib.hid (from_any none 0 (w2.alloc (pbox none 0 none)))
  clear hb HF
  go_wp2_with fail
  refine HFr.out.mono ?_
  rintro e w3 ⟨b1, b2, rfl, c1, c2, hb⟩
  have C1 := Lib.hid c1
  have C2 := Lib.hid c2
  replace HB := Lib.hid (bel_tr HB.out hb)
  clear c1 c2 hb HFr
  go_wp2_with fail
  go_ret
  exact ⟨b1, b2, .nil, 0, rfl, C1.out, C2.out, trivial, rfl, by decide, by decide, by decide, HB.out⟩

set_option maxRecDepth 100000 in
set_option maxHeartbeats 1000000 in
theorem Rank_no (a : Option Addr) (k : Int) (w : World) (h : No w a) : Calls Try.prog 33 #[.pointer a, .int .i64 k] w fun e w' => e = .returned (.int .i64 0) ∧ Below w.heap.size w w' := by
  have HF := Lib.hid (find_no a k w h)
  clear h
  go_enter Try.func33, Try.ntmps33
  go_wp2_with fail
  refine HF.out.mono ?_
  rintro e w2 ⟨rfl, hb⟩
  have HB := Lib.hid (hb.alloc hb.size (pbox none 0 none))
  clear hb HF
  go_wp2_with fail
  go_ret
  exact ⟨rfl, HB.out⟩

set_option maxRecDepth 100000 in
set_option maxHeartbeats 1000000 in
theorem Delete_no (a : Option Addr) (k : Int) (w : World) (h : No w a) : Calls Try.prog 14 #[.pointer a, .int .i64 k] w fun e w' => e = .returned (.bool false) ∧ Below w.heap.size w w' := by
  have HF := Lib.hid (find_no a k w h)
  clear h
  go_enter Try.func14, Try.ntmps14
  go_wp2_with fail
  refine HF.out.mono ?_
  rintro e w2 ⟨rfl, hb⟩
  have HB := Lib.hid (hb.alloc hb.size (pbox none 0 none))
  clear hb HF
  go_wp2_with fail
  go_ret
  exact ⟨rfl, HB.out⟩

set_option maxRecDepth 100000 in
set_option maxHeartbeats 1000000 in
theorem Set_no (a : Option Addr) (k : Int) (v : ByteArray) (w : World) (h : No w a) : Calls Try.prog 17 #[.pointer a, .int .i64 k, .string v] w fun e w' => e = .returned (.tuple #[.string ⟨#[]⟩, .bool false]) ∧ Below w.heap.size w w' := by
  have HF := Lib.hid (find_no a k w h)
  clear h
  go_enter Try.func17, Try.ntmps17
  go_wp2_with fail
  refine HF.out.mono ?_
  rintro e w2 ⟨rfl, hb⟩
  have HB := Lib.hid (hb.alloc hb.size (pbox none 0 none))
  clear hb HF
  go_wp2_with fail
  go_ret2
  exact ⟨rfl, HB.out⟩

set_option maxRecDepth 100000 in
set_option maxHeartbeats 1000000 in
theorem Get_no (a : Option Addr) (k : Int) (w : World) (h : No w a) : Calls Try.prog 57 #[.pointer a, .int .i64 k] w fun e w' => e = .returned (.tuple #[.string ⟨#[]⟩, .bool false]) ∧ Below w.heap.size w w' := by
  have HE := Lib.hid (fun w => entry_any .nil none w trivial rfl)
  simp only [tops, Tr.ad] at HE
  have HF := Lib.hid (find_no a k w h)
  clear h
  go_enter Try.func57, Try.ntmps57
  go_wp2_with fail
  refine HF.out.mono ?_
  rintro e w2 ⟨rfl, hb⟩
  have HB := Lib.hid (hb.alloc hb.size (pbox none 0 none))
  clear hb HF
  go_wp2_with fail
  refine (HE.out _).mono ?_
  rintro e w3 ⟨rfl, hb⟩
  replace HB := Lib.hid (bel_tr HB.out hb)
  clear hb HE
  go_wp2_with fail
  go_ret2
  exact ⟨rfl, HB.out⟩

set_option maxRecDepth 100000 in
set_option maxHeartbeats 1000000 in
theorem Floor_no (a : Option Addr) (k : Int) (w : World) (h : No w a) : Calls Try.prog 61 #[.pointer a, .int .i64 k] w fun e w' => e = .returned (tops none) ∧ Below w.heap.size w w' := by
  simp only [tops]
  have HE := Lib.hid (fun w => entry_any .nil none w trivial rfl)
  simp only [tops, Tr.ad] at HE
  have HAt := Lib.hid (fun i w h1 h2 => at_nil i w h1 h2)
  have HF := Lib.hid (find_no a k w h)
  clear h
  go_enter Try.func61, Try.ntmps61
  go_wp2_with fail
  refine HF.out.mono ?_
  rintro e w2 ⟨rfl, hb⟩
  have HB := Lib.hid (hb.alloc hb.size (pbox none 0 none))
  clear hb HF
  go_wp2_with fail
  refine (HAt.out (-1) _ (by decide) (by decide)).mono ?_
  rintro e w3 ⟨rfl, rfl⟩
  go_wp2_with fail
  refine (HE.out _).mono ?_
  rintro e w4 ⟨rfl, hb⟩
  replace HB := Lib.hid (bel_tr HB.out hb)
  clear hb HE HAt
  go_wp2_with fail
  go_ret3
  exact ⟨rfl, HB.out⟩

set_option maxRecDepth 100000 in
set_option maxHeartbeats 1000000 in
theorem Ceil_no (a : Option Addr) (k : Int) (w : World) (h : No w a) : Calls Try.prog 62 #[.pointer a, .int .i64 k] w fun e w' => e = .returned (tops none) ∧ Below w.heap.size w w' := by
  simp only [tops]
  have HE := Lib.hid (fun w => entry_any .nil none w trivial rfl)
  simp only [tops, Tr.ad] at HE
  have HAt := Lib.hid (fun i w h1 h2 => at_nil i w h1 h2)
  have HF := Lib.hid (find_no a k w h)
  clear h
  go_enter Try.func62, Try.ntmps62
  go_wp2_with fail
  refine HF.out.mono ?_
  rintro e w2 ⟨rfl, hb⟩
  have HB := Lib.hid (hb.alloc hb.size (pbox none 0 none))
  clear hb HF
  go_wp2_with fail
  refine (HAt.out 0 _ (by decide) (by decide)).mono ?_
  rintro e w3 ⟨rfl, rfl⟩
  go_wp2_with fail
  refine (HE.out _).mono ?_
  rintro e w4 ⟨rfl, hb⟩
  replace HB := Lib.hid (bel_tr HB.out hb)
  clear hb HE HAt
  go_wp2_with fail
  go_ret3
  exact ⟨rfl, HB.out⟩

set_option maxRecDepth 100000 in
set_option maxHeartbeats 1000000 in
theorem Len_no (a : Option Addr)  (w : World) (h : No w a) : Calls Try.prog 31 #[.pointer a] w fun e w' => e = .returned (.int .i64 0) ∧ Below w.heap.size w w' := by
  have HL := Lib.hid (fun w => len_any .nil w trivial)
  simp only [Tr.ad, Tr.len_nil] at HL
  have HA := Lib.hid (all_no a w h)
  clear h
  go_enter Try.func31, Try.ntmps31
  go_wp2_with fail
  refine HA.out.mono ?_
  rintro e w2 ⟨rfl, rfl⟩
  go_wp2_with fail
  refine (HL.out _).mono ?_
  rintro e w3 ⟨rfl, rfl⟩
  go_wp2_with fail
  go_ret
  exact ⟨rfl, Below.refl _ _⟩

set_option maxRecDepth 100000 in
set_option maxHeartbeats 1000000 in
theorem At_no (a : Option Addr) (i : Int) (h1 : -9223372036854775808 ≤ i) (h2 : i ≤ 9223372036854775807) (w : World) (h : No w a) : Calls Try.prog 59 #[.pointer a, .int .i64 i] w fun e w' => e = .returned (tops none) ∧ Below w.heap.size w w' := by
  simp only [tops]
  have HE := Lib.hid (fun w => entry_any .nil none w trivial rfl)
  simp only [tops, Tr.ad] at HE
  have HAt := Lib.hid (fun i w h1 h2 => at_nil i w h1 h2)
  have HA := Lib.hid (all_no a w h)
  clear h
  go_enter Try.func59, Try.ntmps59
  go_wp2_with fail
  refine HA.out.mono ?_
  rintro e w2 ⟨rfl, rfl⟩
  have HB : Hid (Below w2.heap.size w2 w2) := Below.refl _ _
  go_wp2_with fail
  refine (HAt.out i _ h1 h2).mono ?_
  rintro e w3 ⟨rfl, rfl⟩
  go_wp2_with fail
  refine (HE.out _).mono ?_
  rintro e w4 ⟨rfl, hb⟩
  replace HB := Lib.hid (bel_tr HB.out hb)
  clear hb HE HAt
  go_wp2_with fail
  go_ret3
  exact ⟨rfl, HB.out⟩

set_option maxRecDepth 100000 in
set_option maxHeartbeats 1000000 in
theorem Copy_no (a : Option Addr)  (w : World) (h : No w a) : Calls Try.prog 16 #[.pointer a] w fun e w' => e = .returned (.pointer none) ∧ w' = w := by
  have HN := Lib.hid (none_no a w h)
  clear h
  go_enter Try.func16, Try.ntmps16
  go_wp2_with fail
  refine HN.out.mono ?_
  rintro e w2 ⟨rfl, rfl⟩
  go_wp2_with fail
  go_ret
  exact ⟨rfl, rfl⟩
end Go.Proofs.Ytmmcnpcijeahcaa.J
