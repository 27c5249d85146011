/-
  The examples.
-/
import Derived.Test.YtjkiollopajmoabDoorRLaw
namespace Go.Proofs.YtjkiollopajmoabDoor.R
set_option linter.unusedVariables false
open Go.RowKit V

theorem bel_al {w w1 w2 : World} {o : Obj} (h : Hid (Below w.heap.size w w1)) (hb : Below (w1.alloc o).heap.size (w1.alloc o) w2) : Hid (Below w.heap.size w w2) :=
  (h.out.alloc h.out.size o).trans (hb.mono (h.out.alloc h.out.size o).size)
theorem bel_tr {w w1 w2 : World} (h : Hid (Below w.heap.size w w1)) (hb : Below w1.heap.size w1 w2) : Hid (Below w.heap.size w w2) := h.out.trans (hb.mono h.out.size)
theorem row_lit (w : World) (l : List Int) (C : Array Value) (t : TypeId) (hC : C.toList = l.map (.int .i32)) : G.RowI .i32 (w.alloc (.cells C t)) (some ⟨w.heap.size, 0, none⟩) l := G.RowI.lit .i32 w _ rfl l C t hC

theorem k_enc3 : encR [97, 8364, 128512] = ([97, 226, 130, 172, 240, 159, 152, 128], 0) := by kernel_rfl
theorem k_dec2 : decR [97, 195, 169] = ([97, 233], 0) := by kernel_rfl
theorem k_bad1 : decR [192, 128] = ([], 12) := by kernel_rfl
theorem k_bad2 : decR [237, 160, 128] = ([], 12) := by kernel_rfl
theorem k_bad3 : decR [244, 144, 128, 128] = ([], 12) := by kernel_rfl
theorem k_bad4 : decR [226, 130] = ([], 12) := by kernel_rfl
theorem k_zero : decR [97, 0] = ([], 13) := by kernel_rfl
theorem k_enc0 : encR [0] = ([], 13) := by kernel_rfl
theorem k_encs : encR [57343] = ([], 13) := by kernel_rfl
theorem k_dec3 : decR [97, 195, 169, 226, 130, 172] = ([97, 233, 8364], 0) := by kernel_rfl
theorem k_cut1 : cutR [97, 195, 169, 226, 130, 172] 1 3 = ([195, 169, 226, 130, 172], 0) := by kernel_rfl
theorem k_cut2 : cutR [97, 195, 169, 226, 130, 172] 2 2 = ([], 0) := by kernel_rfl
theorem k_cut3 : cutR [97, 195, 169, 226, 130, 172] 2 1 = ([], 3) := by kernel_rfl
theorem k_cut4 : cutR [97, 195, 169, 226, 130, 172] 0 4 = ([], 3) := by kernel_rfl
theorem k_size1 : szr 128512 = 4 := by kernel_rfl
theorem k_size2 : szr 55296 = 0 := by kernel_rfl
theorem k_nm1 : nm 97 = [85, 43, 48, 48, 54, 49] := by rw [nm_lastk 97 4 (by omega) (by decide) (.inl rfl)]; rfl
theorem k_nm2 : nm 128512 = [85, 43, 49, 70, 54, 48, 48] := by rw [nm_lastk 128512 5 (by omega) (by decide) (.inr (by decide))]; rfl
theorem k_nm3 : nm 8364 = [85, 43, 50, 48, 65, 67] := by rw [nm_lastk 8364 4 (by omega) (by decide) (.inl rfl)]; rfl
theorem k_not (s : List UInt8) (h : s.length < 6) : ∀ n : Nat, vld (n : Int) = true → s ≠ nm n := by
  rintro n hn rfl
  have := (nm_len n (vld_le hn)).1
  omega
theorem k_not0 : ∀ n : Nat, vld (n : Int) = true → [85, 43, 48, 48, 48, 48] ≠ nm n := by
  intro n hn e
  have h1 := pv_nm (vld_le hn) (t := [48, 48, 48, 48]) e
  have h2 : pv 0 [48, 48, 48, 48] = some 0 := by kernel_rfl
  rw [h2] at h1
  cases h1
  revert hn; decide
theorem k_not1 : ∀ n : Nat, vld (n : Int) = true → [85, 43, 48, 48, 48, 54, 49] ≠ nm n := by
  intro n hn e
  have h1 := pv_nm (vld_le hn) (t := [48, 48, 48, 54, 49]) e
  have h2 : pv 0 [48, 48, 48, 54, 49] = some 97 := by kernel_rfl
  rw [h2] at h1
  cases h1
  rw [k_nm1] at e
  revert e; decide
theorem k_not2 : ∀ n : Nat, vld (n : Int) = true → [117, 43, 48, 48, 54, 49] ≠ nm n := by
  intro n hn e
  have h1 := (nm_pU n (vld_le hn)).1
  rw [← e] at h1
  revert h1; decide

/-- The four strings that are no text, in memory. -/
def Bads (w : World) (g : Nat) : Prop := ∀ k, k < 4 → ∃ l : List UInt8, w.cell? ⟨g, k, none⟩ = some (.string ⟨l.toArray⟩) ∧ decR l = ([], 12) ∧ l.length ≤ 4
theorem Bads.keep {w w' : World} {g : Nat} (h : Bads w g) (hb : Below w.heap.size w w') : Bads w' g := by
  intro k hk
  obtain ⟨l, h1, h2, h3⟩ := h k hk
  exact ⟨l, by rw [hb.cell (p := ⟨g, k, none⟩) (lt_of_cell h1)]; exact h1, h2, h3⟩
theorem Bads.new (w : World) (t : TypeId) : Bads (w.alloc (.cells #[.string ⟨#[192, 128]⟩, .string ⟨#[237, 160, 128]⟩, .string ⟨#[244, 144, 128, 128]⟩, .string ⟨#[226, 130]⟩] t)) w.heap.size := by
  intro k hk
  have h : k = 0 ∨ k = 1 ∨ k = 2 ∨ k = 3 := by omega
  rcases h with rfl | rfl | rfl | rfl
  · exact ⟨[192, 128], by rw [World.cell?_alloc_new]; rfl, k_bad1, by simp⟩
  · exact ⟨[237, 160, 128], by rw [World.cell?_alloc_new]; rfl, k_bad2, by simp⟩
  · exact ⟨[244, 144, 128, 128], by rw [World.cell?_alloc_new]; rfl, k_bad3, by simp⟩
  · exact ⟨[226, 130], by rw [World.cell?_alloc_new]; rfl, k_bad4, by simp⟩

theorem bel_eq {w w' : World} (h : w = w') : Below w.heap.size w w' := by subst h; exact Below.refl _ _

set_option maxRecDepth 100000 in
set_option maxHeartbeats 2000000 in
theorem known_any (w : World) (hL : Ld w) : Calls Tryd.prog 15 #[] w fun e w' => e = .returned (.bool true) ∧ Below w.heap.size w w' := by
  have HL := Lib.hid hL
  have HE1 := Lib.hid (fun a c wx h => (encode_any [97, 8364, 128512] a c wx (by simp) h).mono fun e w' h => And.intro h.1 (bel_eq h.2))
  rw [k_enc3] at HE1
  have HD1 := Lib.hid (fun a c wx h => decodes_any [97, 195, 169] a 2 c 0 [97, 233] wx (by simp) rfl (by rw [k_dec2]; rfl) (by rw [k_dec2]; rfl) h)
  have HS1 := Lib.hid (fun wx => size_any 128512 wx)
  rw [k_size1] at HS1
  have HS2 := Lib.hid (fun wx => size_any 55296 wx)
  rw [k_size2] at HS2
  have HV1 := Lib.hid (fun wx => valid_not 0 wx (by decide))
  have HV2 := Lib.hid (fun wx => valid_not 55296 wx (by decide))
  have HV3 := Lib.hid (fun wx => valid_yes 1114111 wx (by decide))
  have HD2 := Lib.hid (fun wx => decodes_any [97, 0] none 0 0 13 [] wx (by simp) rfl (by rw [k_zero]; rfl) (by rw [k_zero]; rfl) (.inl rfl))
  have HE2 := Lib.hid (fun a c wx h => (encodes_any [0] a 1 c ⟨#[]⟩ 13 wx (by simp) rfl (by rw [k_enc0]) (by rw [k_enc0]; rfl) h).mono fun e w' h => And.intro h.1 (bel_eq h.2))
  have HE3 := Lib.hid (fun a c wx h => (encodes_any [57343] a 1 c ⟨#[]⟩ 13 wx (by simp) rfl (by rw [k_encs]) (by rw [k_encs]; rfl) h).mono fun e w' h => And.intro h.1 (bel_eq h.2))
  have HH := Lib.hid (fun wx => has_any [97, 195, 169, 226, 130, 172] 3 0 wx (by simp) (by rw [k_dec3]; rfl) (by rw [k_dec3]; rfl))
  have HC1 := Lib.hid (fun wx => cuts_any [97, 195, 169, 226, 130, 172] 1 3 ⟨#[195, 169, 226, 130, 172]⟩ 0 wx (by simp) (by omega) (by omega) (by rw [k_cut1]) (by rw [k_cut1]; rfl))
  have HC2 := Lib.hid (fun wx => cuts_any [97, 195, 169, 226, 130, 172] 2 2 ⟨#[]⟩ 0 wx (by simp) (by omega) (by omega) (by rw [k_cut2]) (by rw [k_cut2]; rfl))
  have HC3 := Lib.hid (fun wx => cuts_any [97, 195, 169, 226, 130, 172] 2 1 ⟨#[]⟩ 3 wx (by simp) (by omega) (by omega) (by rw [k_cut3]) (by rw [k_cut3]; rfl))
  have HC4 := Lib.hid (fun wx => cuts_any [97, 195, 169, 226, 130, 172] 0 4 ⟨#[]⟩ 3 wx (by simp) (by omega) (by omega) (by rw [k_cut4]) (by rw [k_cut4]; rfl))
  have HN1 := Lib.hid (fun wx h => named_yes 97 (by decide) ⟨#[85, 43, 48, 48, 54, 49]⟩ (by rw [k_nm1]) wx h)
  have HN2 := Lib.hid (fun wx h => named_yes 128512 (by decide) ⟨#[85, 43, 49, 70, 54, 48, 48]⟩ (by rw [k_nm2]) wx h)
  have HF1 := Lib.hid (fun wx h => found_yes 8364 (by decide) ⟨#[85, 43, 50, 48, 65, 67]⟩ (by rw [k_nm3]) wx h)
  have HF2 := Lib.hid (fun wx h => found_not [85, 43, 48, 48, 48, 48] k_not0 (by simp) wx h)
  have HF3 := Lib.hid (fun wx h => found_not [85, 43, 54, 49] (k_not _ (by simp)) (by simp) wx h)
  have HF4 := Lib.hid (fun wx h => found_not [85, 43, 48, 48, 48, 54, 49] k_not1 (by simp) wx h)
  have HF5 := Lib.hid (fun wx h => found_not [117, 43, 48, 48, 54, 49] k_not2 (by simp) wx h)
  go_enter Tryd.func15, Tryd.ntmps15
  have HB : Hid (Below w.heap.size w w) := Below.refl _ _
  go_wp2_with fail
  refine (HE1.out _ _ _ (row_lit _ _ _ _ rfl)).mono ?_
  rintro e w1 ⟨rfl, hb⟩
  replace HB := bel_al HB hb
  clear hb HE1
  go_wp2_with fail
  refine (HD1.out _ _ _ (row_lit _ _ _ _ rfl)).mono ?_
  rintro e w2 ⟨rfl, hb⟩
  replace HB := bel_al HB hb
  clear hb HD1
  go_wp2_with (first | (go_at_call 11; refine (HS1.out _).mono ?_; rintro e w' ⟨rfl, rfl⟩) | (go_at_call 9; refine (HV1.out _).mono ?_; rintro e w' ⟨rfl, rfl⟩) | (go_at_call 9; refine (HV2.out _).mono ?_; rintro e w' ⟨rfl, rfl⟩) | (go_at_call 9; refine (HV3.out _).mono ?_; rintro e w' ⟨rfl, rfl⟩) | (go_at_call 11; refine (HS2.out _).mono ?_; rintro e w' ⟨rfl, rfl⟩))
  clear HS1 HS2 HV1 HV2 HV3
  obtain ⟨g, hg⟩ : ∃ g, g = w2.heap.size := ⟨_, rfl⟩
  have hbad := Bads.new w2 9
  have HBad : Hid (Bads (w2.alloc (.cells #[.string ⟨#[192, 128]⟩, .string ⟨#[237, 160, 128]⟩, .string ⟨#[244, 144, 128, 128]⟩, .string ⟨#[226, 130]⟩] 9)) g) := by rw [hg]; exact hbad
  replace HB : Hid (Below w.heap.size w (w2.alloc (.cells #[.string ⟨#[192, 128]⟩, .string ⟨#[237, 160, 128]⟩, .string ⟨#[244, 144, 128, 128]⟩, .string ⟨#[226, 130]⟩] 9))) := HB.out.alloc HB.out.size _
  simp only [← hg]
  clear hbad hg
  generalize (w2.alloc (.cells #[.string ⟨#[192, 128]⟩, .string ⟨#[237, 160, 128]⟩, .string ⟨#[244, 144, 128, 128]⟩, .string ⟨#[226, 130]⟩] 9)) = w3 at *
  go_loopw [4, 43] (fun _ i wr => ∃ k : Nat, k ≤ 4 ∧ i = .int .i64 k ∧ Hid (Below w3.heap.size w3 wr)) (fun _ i _ => 4 - (intOf i).toNat)
  case atStart => exact ⟨0, by omega, rfl, Below.refl _ _⟩
  case round =>
    obtain ⟨k, hk, rfl, HW⟩ := hrel
    by_cases hlt : k < 4
    · obtain ⟨l, hc0, hd, hl⟩ := HBad.out.keep HW.out k hlt
      have hc : wr.cell? ⟨g, 0 + k, none⟩ = some (.string ⟨l.toArray⟩) := by rw [Nat.zero_add]; exact hc0
      have HD := Lib.hid (decodes_any l none 0 0 12 [] wr (by omega) rfl (by rw [hd]; rfl) (by rw [hd]; rfl) (.inl rfl))
      have q0 : decide ((k : Int) < 4) = true := by simp; omega
      clear hd hl
      go_wp2_with (go_at_call 19; refine HD.out.mono ?_; rintro e w4 ⟨rfl, hb⟩; replace HW := bel_tr HW hb; clear hb)
      go_roundw
      case rel => exact ⟨k + 1, by omega, by go_num, HW⟩
      case measure => simp [intOf]; omega
    · obtain rfl : k = 4 := by omega
      replace HB := bel_tr HB HW.out
      clear HW
      go_wp2_with fail
      refine (HD2.out _).mono ?_
      rintro e w4 ⟨rfl, hb⟩
      replace HB := bel_tr HB hb
      clear hb HD2
      go_wp2_with fail
      refine (HE2.out _ _ _ (row_lit _ _ _ _ rfl)).mono ?_
      rintro e w5 ⟨rfl, hb⟩
      replace HB := bel_al HB hb
      clear hb HE2
      go_wp2_with fail
      refine (HE3.out _ _ _ (row_lit _ _ _ _ rfl)).mono ?_
      rintro e w6 ⟨rfl, hb⟩
      replace HB := bel_al HB hb
      clear hb HE3
      go_wp2_with fail
      refine (HH.out _).mono ?_
      rintro e w7 ⟨rfl, hb⟩
      replace HB := bel_tr HB hb
      clear hb HH
      go_wp2_with fail
      refine (HC1.out _).mono ?_
      rintro e w8 ⟨rfl, hb⟩
      replace HB := bel_tr HB hb
      clear hb HC1
      go_wp2_with fail
      refine (HC2.out _).mono ?_
      rintro e w9 ⟨rfl, hb⟩
      replace HB := bel_tr HB hb
      clear hb HC2
      go_wp2_with fail
      refine (HC3.out _).mono ?_
      rintro e w10 ⟨rfl, hb⟩
      replace HB := bel_tr HB hb
      clear hb HC3
      go_wp2_with fail
      refine (HC4.out _).mono ?_
      rintro e w11 ⟨rfl, hb⟩
      replace HB := bel_tr HB hb
      clear hb HC4
      go_wp2_with fail
      refine (HN1.out _ (HL.out.below HB.out)).mono ?_
      rintro e w12 ⟨rfl, hb⟩
      replace HB := bel_tr HB hb
      clear hb HN1
      go_wp2_with fail
      refine (HN2.out _ (HL.out.below HB.out)).mono ?_
      rintro e w13 ⟨rfl, hb⟩
      replace HB := bel_tr HB hb
      clear hb HN2
      go_wp2_with fail
      refine (HF1.out _ (HL.out.below HB.out)).mono ?_
      rintro e w14 ⟨rfl, hb⟩
      replace HB := bel_tr HB hb
      clear hb HF1
      go_wp2_with fail
      refine (HF2.out _ (HL.out.below HB.out)).mono ?_
      rintro e w15 ⟨rfl, hb⟩
      replace HB := bel_tr HB hb
      clear hb HF2
      go_wp2_with fail
      refine (HF3.out _ (HL.out.below HB.out)).mono ?_
      rintro e w16 ⟨rfl, hb⟩
      replace HB := bel_tr HB hb
      clear hb HF3
      go_wp2_with fail
      refine (HF4.out _ (HL.out.below HB.out)).mono ?_
      rintro e w17 ⟨rfl, hb⟩
      replace HB := bel_tr HB hb
      clear hb HF4
      go_wp2_with fail
      refine (HF5.out _ (HL.out.below HB.out)).mono ?_
      rintro e w18 ⟨rfl, hb⟩
      replace HB := bel_tr HB hb
      clear hb HF5
      go_wp2_with fail
      go_ret
      exact ⟨rfl, HB.out⟩
end Go.Proofs.YtjkiollopajmoabDoor.R
