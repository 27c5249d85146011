/-
  Layer 17's reference: the bytes of a number and of a rune.
-/
import Derived.Test.YtfmlenhakejefaaVOwn
import Derived.Test.YtfmlenhakejefaaVWalkA
import Derived.Test.YtfmlenhakejefaaMRUtf
namespace Go.Proofs.Ytfmlenhakejefaa.Ca
set_option linter.unusedVariables false
open Go.RowKit V R

set_option maxRecDepth 100000 in
set_option maxHeartbeats 400000 in
theorem number_ref (n : Nat) (hn : n < 18446744073709551616) (w : World) :
    Calls Try.prog 29 #[.int .u64 (n : Int)] w fun e w' => ∃ v, e = .returned v ∧ O8 w' w.heap.size v (num n) ∧ Below w.heap.size w w' := by
  go_enter Try.func29, Try.ntmps29
  go_wp2
  go_loopw [0, 3] (fun i x wr => ∃ (q : Nat) (pre : List UInt8), i = .int .u64 q ∧ q ≤ n ∧ Hid (num n = pre ++ num q) ∧ Hid (O8 wr w.heap.size x pre) ∧ Hid (Below w.heap.size w wr)) (fun i _ _ => (intOf i).toNat)
  case atStart => exact ⟨n, [], rfl, Nat.le_refl _, rfl, O8.nil _ _, Below.refl _ _⟩
  case round =>
    obtain ⟨q, pre, rfl, hqn, hq, HO, HG⟩ := hrel
    have hsz := HG.out.size
    have hlen : pre.length ≤ 10 := by
      have h10 := num_ten hn
      rw [hq.out, List.length_append] at h10
      omega
    have HLn := Lib.hid hlen
    clear hlen
    by_cases hb : q < 128
    · obtain ⟨c, rfl⟩ : ∃ c : UInt8, q = c.toNat := ⟨UInt8.ofNat q, by simp; omega⟩
      have hc : num c.toNat = [c] := by rw [num_small hb]; simp
      have HC := Lib.hid hc
      have hge : ¬ (128 : Int) ≤ (c.toNat : Int) := by omega
      clear hc
      go_wp2_with (at_builtin; refine wpList_app8 rfl (.tmp 15) (.tmp 18) rfl w.heap.size _ _ rfl (HO.out.below ((Below.refl _ _).alloc (Nat.le_refl _) _)) (some ⟨wr.heap.size, 0, none⟩) [c] 1 rfl (row_one wr c _) (by simp) (by have := HLn.out; simp only [List.length_cons, List.length_nil]; omega) (by simp; omega) ?_; intro v' w' ho' hg' hgr')
      go_ret
      refine ⟨_, rfl, ?_, ?_⟩
      · rw [hq.out, HC.out]; exact ho'
      · exact (HG.out.alloc hsz _).grown hg' (by simp; omega) (by intro k hk; exact (HO.out.lt k hk).1)
    · obtain ⟨c, hc⟩ : ∃ c : UInt8, c = UInt8.ofNat (q % 128 + 128) := ⟨_, rfl⟩
      have hcn : c.toNat = q % 128 + 128 := by rw [hc]; simp; omega
      have e : (q : Int) % 128 + 128 = (c.toNat : Int) := by omega
      have HC : Hid (num q = c :: num (q / 128)) := by rw [hc]; exact num_big hb
      have hq7 : ((q : Int) / 128) = ((q / 128 : Nat) : Int) := by omega
      have HQ7 := Lib.hid hq7
      have hge : (128 : Int) ≤ (q : Int) := by omega
      clear hc hcn hq7
      go_wp2_with (at_builtin; refine wpList_app8 rfl (.tmp 6) (.tmp 11) rfl w.heap.size _ _ rfl (HO.out.below ((Below.refl _ _).alloc (Nat.le_refl _) _)) (some ⟨wr.heap.size, 0, none⟩) [c] 1 rfl (row_one wr c _) (by simp) (by have := HLn.out; simp only [List.length_cons, List.length_nil]; omega) (by simp; omega) ?_; intro v' w' ho' hg' hgr')
      go_roundw
      case rel =>
        refine ⟨q / 128, pre ++ [c], by rw [HQ7.out], by omega, ?_, ho', ?_⟩
        · show _ = _
          rw [hq.out, HC.out]; simp
        · exact (HG.out.alloc hsz _).grown hg' (by simp; omega) (by intro k hk; exact (HO.out.lt k hk).1)
      case measure => simp [intOf]; omega

/-- The row that a slice literal makes, as a row of the call's own. -/
theorem own_cells (w : World) (l : List UInt8) (n : Nat) (hn : n = l.length) (C : Array Value) (base : Nat) (hb : base ≤ w.heap.size) (h1 : 1 ≤ l.length) (h2 : l.length ≤ 8) (hC : C.toList = cells8 l) : O8 (w.alloc (.cells C 5)) base (.slice (some ⟨w.heap.size, 0, none⟩) n n) l := by
  subst hn
  have hs : C.size = l.length := by rw [← Array.length_toList, hC, cells8_length]
  refine ⟨?_, .inr ⟨w.heap.size, l.length, C, rfl, hb, ?_, Nat.le_refl _, by unfold maxLen; omega, by rw [hs]; omega, ?_⟩⟩
  · rw [cells8_length]; omega
  · show (w.heap.push _)[w.heap.size]? = _
    simp
  · rw [hC, List.take_of_length_le (by rw [cells8_length]; omega)]
set_option maxRecDepth 100000 in
set_option maxHeartbeats 400000 in
theorem rune_ref (n : Nat) (hn : n ≤ 1114111) (w : World) :
    Calls Try.prog 30 #[.int .i32 (n : Int)] w fun e w' => ∃ v, e = .returned v ∧ O8 w' w.heap.size v (enc n) ∧ Below w.heap.size w w' := by
  by_cases h1 : n < 128
  · have HE : Hid (enc n = [u n]) := by show _ = _; unfold enc; rw [if_pos h1]
    go_enter Try.func30, Try.ntmps30
    go_wp2_with fail
    go_ret
    rw [HE.out]
    refine ⟨_, rfl, own_cells w _ 1 rfl _ _ (Nat.le_refl _) (by simp) (by simp) ?_, (Below.refl _ _).alloc (Nat.le_refl _) _⟩
    simp only [cells8, List.map_cons, List.map_nil, u_toNat (show n < 256 by omega)]
  · by_cases h2 : n < 2048
    · have HE : Hid (enc n = [u (192 + n / 64), u (128 + n % 64)]) := by show _ = _; unfold enc; rw [if_neg h1, if_pos h2]
      go_enter Try.func30, Try.ntmps30
      go_wp2_with fail
      go_ret
      rw [HE.out]
      refine ⟨_, rfl, own_cells w _ 2 rfl _ _ (Nat.le_refl _) (by simp) (by simp) ?_, (Below.refl _ _).alloc (Nat.le_refl _) _⟩
      simp only [cells8, List.map_cons, List.map_nil, u_toNat (show 192 + n / 64 < 256 by omega), u_toNat (show 128 + n % 64 < 256 by omega)]
      simp
    · by_cases h3 : n < 65536
      · have b3 : decide ((n : Int) < 65536) = true := by simp; omega
        have HE : Hid (enc n = [u (224 + n / 4096), u (128 + n / 64 % 64), u (128 + n % 64)]) := by show _ = _; unfold enc; rw [if_neg h1, if_neg h2, if_pos h3]
        have b1 : decide ((n : Int) < 128) = false := by simp; omega
        have b2 : decide ((n : Int) < 2048) = false := by simp; omega
        have H1 := Lib.hid h1
        have H2 := Lib.hid h2
        have H3 := Lib.hid h3
        clear h1 h2 h3
        go_enter Try.func30, Try.ntmps30
        go_wp2_with fail
        go_ret
        rw [HE.out]
        refine ⟨_, rfl, own_cells w _ 3 rfl _ _ (Nat.le_refl _) (by simp) (by simp) ?_, (Below.refl _ _).alloc (Nat.le_refl _) _⟩
        simp only [cells8, List.map_cons, List.map_nil, u_toNat (show 224 + n / 4096 < 256 by have := H3.out; omega), u_toNat (show 128 + n / 64 % 64 < 256 by omega), u_toNat (show 128 + n % 64 < 256 by omega)]
        simp
        have := H3.out
        omega
      · have b3 : decide ((n : Int) < 65536) = false := by simp; omega
        have HE : Hid (enc n = [u (240 + n / 262144), u (128 + n / 4096 % 64), u (128 + n / 64 % 64), u (128 + n % 64)]) := by show _ = _; unfold enc; rw [if_neg h1, if_neg h2, if_neg h3]
        have b1 : decide ((n : Int) < 128) = false := by simp; omega
        have b2 : decide ((n : Int) < 2048) = false := by simp; omega
        have H1 := Lib.hid h1
        have H2 := Lib.hid h2
        have H3 := Lib.hid h3
        clear h1 h2 h3
        go_enter Try.func30, Try.ntmps30
        go_wp2_with fail
        go_ret
        rw [HE.out]
        refine ⟨_, rfl, own_cells w _ 4 rfl _ _ (Nat.le_refl _) (by simp) (by simp) ?_, (Below.refl _ _).alloc (Nat.le_refl _) _⟩
        simp only [cells8, List.map_cons, List.map_nil, u_toNat (show 240 + n / 262144 < 256 by omega), u_toNat (show 128 + n / 4096 % 64 < 256 by omega), u_toNat (show 128 + n / 64 % 64 < 256 by omega), u_toNat (show 128 + n % 64 < 256 by omega)]
        simp
end Go.Proofs.Ytfmlenhakejefaa.Ca
