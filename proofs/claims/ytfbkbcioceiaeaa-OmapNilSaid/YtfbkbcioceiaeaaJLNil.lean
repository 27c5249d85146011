/-
  OmapNil.
-/
import Derived.Test.YtfbkbcioceiaeaaJKnown
namespace Go.Proofs.Ytfbkbcioceiaeaa.J
set_option linter.unusedVariables false
open Go.RowKit V Go.Shelf

/-- The slice of two maps that are none. -/
def Ne (w : World) (b g : Nat) : Prop := w.cell? ⟨b, 0, none⟩ = some (.pointer none) ∧ w.cell? ⟨b, 1, none⟩ = some (.pointer (some ⟨g, 0, none⟩)) ∧ No w (some ⟨g, 0, none⟩)
theorem Ne.keep {w w' : World} {b g : Nat} (h : Ne w b g) (hb : Below w.heap.size w w') : Ne w' b g := ⟨keep_cell h.1 hb, keep_cell h.2.1 hb, h.2.2.keep hb⟩
theorem Ne.get {w : World} {b g k : Nat} (h : Ne w b g) (hk : k < 2) : ∃ a, w.cell? ⟨b, k, none⟩ = some (.pointer a) ∧ No w a := by
  rcases k with _ | _ | k
  · exact ⟨_, h.1, .inl rfl⟩
  · exact ⟨_, h.2.1, h.2.2⟩
  · omega

set_option maxRecDepth 100000 in
set_option maxHeartbeats 8000000 in
theorem nil_law (k i : Int) (w : World) (hi1 : -9223372036854775808 ≤ i) (hi2 : i ≤ 9223372036854775807) : Calls Try.prog 6 #[.int .i64 k, .int .i64 i] w fun e w' => e = .returned (.bool true) ∧ Below w.heap.size w w' := by
  go_enter Try.func6, Try.ntmps6
  go_wp2_with fail
  have HZ : Hid (Bp (((w.alloc (.cells #[.int .i64 0, .string ⟨#[]⟩] E)).alloc (.cells #[.nilFunc, .pointer none] 70)).alloc (.cells #[.pointer none, .pointer (some ⟨w.heap.size + 1, 0, none⟩)] 25)) w.heap.size (0, ⟨#[]⟩)) := ⟨by go_simp, by go_simp⟩
  have HE : Hid (Ne (((w.alloc (.cells #[.int .i64 0, .string ⟨#[]⟩] E)).alloc (.cells #[.nilFunc, .pointer none] 70)).alloc (.cells #[.pointer none, .pointer (some ⟨w.heap.size + 1, 0, none⟩)] 25)) (w.heap.size + 1 + 1) (w.heap.size + 1)) := ⟨by go_simp, by go_simp, .inr ⟨_, rfl, by go_simp, by go_simp⟩⟩
  have HB : Hid (Below w.heap.size w (((w.alloc (.cells #[.int .i64 0, .string ⟨#[]⟩] E)).alloc (.cells #[.nilFunc, .pointer none] 70)).alloc (.cells #[.pointer none, .pointer (some ⟨w.heap.size + 1, 0, none⟩)] 25))) := ((bel_box _ _).alloc (by simp) _).alloc (by simp; omega) _
  generalize (((w.alloc (.cells #[.int .i64 0, .string ⟨#[]⟩] E)).alloc (.cells #[.nilFunc, .pointer none] 70)).alloc (.cells #[.pointer none, .pointer (some ⟨w.heap.size + 1, 0, none⟩)] 25)) = w1 at *
  generalize w.heap.size + 1 + 1 = bs at *
  generalize w.heap.size + 1 = bg at *
  generalize hbz : w.heap.size = bz at HZ
  clear hbz
  go_loopw [14] (fun j wr => ∃ q : Nat, q ≤ 2 ∧ j = .int .i64 q ∧ Hid (Bp wr bz (0, ⟨#[]⟩)) ∧ Hid (Ne wr bs bg) ∧ Hid (Below w.heap.size w wr)) (fun j _ => 2 - (intOf j).toNat)
  case atStart => exact ⟨0, by omega, rfl, HZ, HE, HB⟩
  case round =>
    clear HZ HE HB
    obtain ⟨q, hq, rfl, HZ, HE, HB⟩ := hrel
    by_cases hlt : q < 2
    · obtain ⟨a, ce, hno⟩ := HE.out.get hlt
      have HN := Lib.hid hno
      have hqi : (q : Int) < 2 := by omega
      clear hno
      go_wp2_with fail
      clear ce
      have HC := Lib.hid (sets_law (Below wr.heap.size wr) a k ⟨#[120]⟩ ⟨#[]⟩ false wr (Set_no a k ⟨#[120]⟩ wr HN.out))
      refine HC.out.mono ?_
      rintro e w4 ⟨rfl, hb⟩
      replace HN := Lib.hid (HN.out.keep hb)
      replace HZ := Lib.hid (HZ.out.keep hb)
      replace HE := Lib.hid (HE.out.keep hb)
      replace HB := Lib.hid (bel_tr HB.out hb)
      clear hb HC 
      have z0 := HZ.out.1
      have z1 := HZ.out.2
      go_wp2_with fail
      clear z0 z1
      have HC := Lib.hid (gets_law (Below w4.heap.size w4) a k ⟨#[]⟩ false w4 (Get_no a k w4 HN.out))
      refine HC.out.mono ?_
      rintro e w5 ⟨rfl, hb⟩
      replace HN := Lib.hid (HN.out.keep hb)
      replace HZ := Lib.hid (HZ.out.keep hb)
      replace HE := Lib.hid (HE.out.keep hb)
      replace HB := Lib.hid (bel_tr HB.out hb)
      clear hb HC 
      have z0 := HZ.out.1
      have z1 := HZ.out.2
      go_wp2_with fail
      clear z0 z1
      have HC := Lib.hid (Delete_no a k w5 HN.out)
      refine HC.out.mono ?_
      rintro e w6 ⟨rfl, hb⟩
      replace HN := Lib.hid (HN.out.keep hb)
      replace HZ := Lib.hid (HZ.out.keep hb)
      replace HE := Lib.hid (HE.out.keep hb)
      replace HB := Lib.hid (bel_tr HB.out hb)
      clear hb HC 
      have z0 := HZ.out.1
      have z1 := HZ.out.2
      go_wp2_with fail
      clear z0 z1
      have HC := Lib.hid (Len_no a w6 HN.out)
      refine HC.out.mono ?_
      rintro e w7 ⟨rfl, hb⟩
      replace HN := Lib.hid (HN.out.keep hb)
      replace HZ := Lib.hid (HZ.out.keep hb)
      replace HE := Lib.hid (HE.out.keep hb)
      replace HB := Lib.hid (bel_tr HB.out hb)
      clear hb HC 
      have z0 := HZ.out.1
      have z1 := HZ.out.2
      go_wp2_with fail
      clear z0 z1
      have HC := Lib.hid (at_law a i none w7 (fun w' hb => At_no a i hi1 hi2 w' (HN.out.keep hb)))
      refine HC.out.mono ?_
      rintro e w8 ⟨rfl, hb⟩
      replace HN := Lib.hid (HN.out.keep hb)
      replace HZ := Lib.hid (HZ.out.keep hb)
      replace HE := Lib.hid (HE.out.keep hb)
      replace HB := Lib.hid (bel_tr HB.out hb)
      clear hb HC 
      have z0 := HZ.out.1
      have z1 := HZ.out.2
      go_wp2_with fail
      clear z0 z1
      have HC := Lib.hid (at_law a 0 none w8 (fun w' hb => At_no a 0 (by decide) (by decide) w' (HN.out.keep hb)))
      refine HC.out.mono ?_
      rintro e w9 ⟨rfl, hb⟩
      replace HN := Lib.hid (HN.out.keep hb)
      replace HZ := Lib.hid (HZ.out.keep hb)
      replace HE := Lib.hid (HE.out.keep hb)
      replace HB := Lib.hid (bel_tr HB.out hb)
      clear hb HC 
      have z0 := HZ.out.1
      have z1 := HZ.out.2
      go_wp2_with fail
      clear z0 z1
      have HC := Lib.hid (Rank_no a k w9 HN.out)
      refine HC.out.mono ?_
      rintro e w10 ⟨rfl, hb⟩
      replace HN := Lib.hid (HN.out.keep hb)
      replace HZ := Lib.hid (HZ.out.keep hb)
      replace HE := Lib.hid (HE.out.keep hb)
      replace HB := Lib.hid (bel_tr HB.out hb)
      clear hb HC 
      have z0 := HZ.out.1
      have z1 := HZ.out.2
      go_wp2_with fail
      clear z0 z1
      have HC := Lib.hid (floor_law a k none w10 (fun w' hb => Floor_no a k w' (HN.out.keep hb)))
      refine HC.out.mono ?_
      rintro e w11 ⟨rfl, hb⟩
      replace HN := Lib.hid (HN.out.keep hb)
      replace HZ := Lib.hid (HZ.out.keep hb)
      replace HE := Lib.hid (HE.out.keep hb)
      replace HB := Lib.hid (bel_tr HB.out hb)
      clear hb HC 
      have z0 := HZ.out.1
      have z1 := HZ.out.2
      go_wp2_with fail
      clear z0 z1
      have HC := Lib.hid (ceil_law a k none w11 (fun w' hb => Ceil_no a k w' (HN.out.keep hb)))
      refine HC.out.mono ?_
      rintro e w12 ⟨rfl, hb⟩
      replace HN := Lib.hid (HN.out.keep hb)
      replace HZ := Lib.hid (HZ.out.keep hb)
      replace HE := Lib.hid (HE.out.keep hb)
      replace HB := Lib.hid (bel_tr HB.out hb)
      clear hb HC 
      have z0 := HZ.out.1
      have z1 := HZ.out.2
      go_wp2_with fail
      clear z0 z1
      have HC := Lib.hid (All_no a w12 HN.out)
      refine HC.out.mono ?_
      rintro e w13 ⟨b1, b2, T, z, rfl, c1, c2, hT, hL, hl, hz0, hz1, hb⟩
      have hq2 := seq_nil 69 #[.pointer (some ⟨b1, 0, none⟩), .pointer (some ⟨b2, 0, none⟩)]
      replace HN := Lib.hid (HN.out.keep hb)
      replace HZ := Lib.hid (HZ.out.keep hb)
      replace HE := Lib.hid (HE.out.keep hb)
      replace HB := Lib.hid (bel_tr HB.out hb)
      clear hb HC c1 c2 hT hL hl hz0 hz1
      have z0 := HZ.out.1
      have z1 := HZ.out.2
      go_wp2_with fail
      clear z0 z1
      clear hq2
      have HC := Lib.hid (From_no a k w13 HN.out)
      refine HC.out.mono ?_
      rintro e w14 ⟨b1, b2, T, z, rfl, c1, c2, hT, hL, hl, hz0, hz1, hb⟩
      have hq2 := seq_nil 69 #[.pointer (some ⟨b1, 0, none⟩), .pointer (some ⟨b2, 0, none⟩)]
      replace HN := Lib.hid (HN.out.keep hb)
      replace HZ := Lib.hid (HZ.out.keep hb)
      replace HE := Lib.hid (HE.out.keep hb)
      replace HB := Lib.hid (bel_tr HB.out hb)
      clear hb HC c1 c2 hT hL hl hz0 hz1
      have z0 := HZ.out.1
      have z1 := HZ.out.2
      go_wp2_with fail
      clear z0 z1
      clear hq2
      have HC := Lib.hid (All_no a w14 HN.out)
      refine HC.out.mono ?_
      rintro e w15 ⟨b1, b2, T, z, rfl, c1, c2, hT, hL, hl, hz0, hz1, hb⟩
      have HP := Lib.hid (pairs_it 9 c1 c2 hT hL hl hz0 hz1 (by decide))
      replace HN := Lib.hid (HN.out.keep hb)
      replace HZ := Lib.hid (HZ.out.keep hb)
      replace HE := Lib.hid (HE.out.keep hb)
      replace HB := Lib.hid (bel_tr HB.out hb)
      clear hb HC c1 c2 hT hL hl hz0 hz1
      have z0 := HZ.out.1
      have z1 := HZ.out.2
      go_wp2_with fail
      clear z0 z1
      have HC := Lib.hid (HP.out)
      refine HC.out.mono ?_
      rintro e w16 ⟨v, rfl, ho, hb⟩
      obtain ⟨av, cv, rfl, -⟩ := ho.row
      replace HN := Lib.hid (HN.out.keep hb)
      replace HZ := Lib.hid (HZ.out.keep hb)
      replace HE := Lib.hid (HE.out.keep hb)
      replace HB := Lib.hid (bel_tr HB.out hb)
      clear hb HC HP ho
      have z0 := HZ.out.1
      have z1 := HZ.out.2
      go_wp2_with fail
      clear z0 z1
      have HC := Lib.hid (From_no a k w16 HN.out)
      refine HC.out.mono ?_
      rintro e w17 ⟨b1, b2, T, z, rfl, c1, c2, hT, hL, hl, hz0, hz1, hb⟩
      have HP := Lib.hid (pairs_it 9 c1 c2 hT hL hl hz0 hz1 (by decide))
      replace HN := Lib.hid (HN.out.keep hb)
      replace HZ := Lib.hid (HZ.out.keep hb)
      replace HE := Lib.hid (HE.out.keep hb)
      replace HB := Lib.hid (bel_tr HB.out hb)
      clear hb HC c1 c2 hT hL hl hz0 hz1
      have z0 := HZ.out.1
      have z1 := HZ.out.2
      go_wp2_with fail
      clear z0 z1
      have HC := Lib.hid (HP.out)
      refine HC.out.mono ?_
      rintro e w18 ⟨v, rfl, ho, hb⟩
      obtain ⟨av, cv, rfl, -⟩ := ho.row
      replace HN := Lib.hid (HN.out.keep hb)
      replace HZ := Lib.hid (HZ.out.keep hb)
      replace HE := Lib.hid (HE.out.keep hb)
      replace HB := Lib.hid (bel_tr HB.out hb)
      clear hb HC HP ho
      have z0 := HZ.out.1
      have z1 := HZ.out.2
      go_wp2_with fail
      clear z0 z1
      have HC := Lib.hid ((Copy_no a w18 HN.out).mono (R' := fun e w' => e = .returned (.pointer none) ∧ Below w18.heap.size w18 w') (by rintro e w' ⟨rfl, rfl⟩; exact ⟨rfl, Below.refl _ _⟩))
      refine HC.out.mono ?_
      rintro e w19 ⟨rfl, hb⟩
      replace HN := Lib.hid (HN.out.keep hb)
      replace HZ := Lib.hid (HZ.out.keep hb)
      replace HE := Lib.hid (HE.out.keep hb)
      replace HB := Lib.hid (bel_tr HB.out hb)
      clear hb HC 
      have z0 := HZ.out.1
      have z1 := HZ.out.2
      go_wp2_with fail
      clear z0 z1
      go_roundw
      case rel => exact ⟨q + 1, by omega, by go_num, HZ, HE, HB⟩
      case measure => simp [intOf]; omega
    · obtain rfl : q = 2 := by omega
      have HK := Lib.hid (known_any wr)
      go_wp2_with fail
      refine HK.out.mono ?_
      rintro e w9 ⟨rfl, hb⟩
      replace HB := Lib.hid (bel_tr HB.out hb)
      clear hb HK
      go_wp2_with fail
      go_ret
      exact ⟨rfl, HB.out⟩
end Go.Proofs.Ytfbkbcioceiaeaa.J
