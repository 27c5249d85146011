/-
  Numbers as hexadecimal text: the library's way.
-/
import Derived.Test.YtmmcnpcijeahcabGreatDoorVOwn
import Derived.Test.YtmmcnpcijeahcabGreatDoorGen
import Derived.Test.YtmmcnpcijeahcabGreatDoorRHex
import Derived.Laws.BitsAllLaws
import Derived.WalkSmall
import Derived.OneCell
namespace Go.Proofs.YtmmcnpcijeahcabGreatDoor.R
set_option linter.unusedVariables false
open Go.RowKit V

/-- What the library's variables hold. -/
def Ld (w : World) : Prop :=
  w.cell? ⟨8, 15, none⟩ = some (.int .u8 4) ∧
  (∃ ev, w.cell? ⟨0, 0, none⟩ = some ev ∧ (ev = .nilIface ∨ ∃ te pe, ev = .iface te pe)) ∧
  (∃ ev, w.cell? ⟨1, 0, none⟩ = some ev ∧ (ev = .nilIface ∨ ∃ te pe, ev = .iface te pe))
theorem Ld.keep {w w' : World} {B : Nat} (h : Ld w) (hb : Below B w w') (hB : w.heap.size ≤ B) : Ld w' := by
  obtain ⟨h1, ⟨e2, h2, g2⟩, ⟨e3, h3, g3⟩⟩ := h
  refine ⟨?_, ⟨e2, ?_, g2⟩, ⟨e3, ?_, g3⟩⟩
  · rw [hb.cell (p := ⟨_, _, none⟩) (Nat.lt_of_lt_of_le (lt_of_cell h1) hB)]; exact h1
  · rw [hb.cell (p := ⟨_, _, none⟩) (Nat.lt_of_lt_of_le (lt_of_cell h2) hB)]; exact h2
  · rw [hb.cell (p := ⟨_, _, none⟩) (Nat.lt_of_lt_of_le (lt_of_cell h3) hB)]; exact h3
theorem Ld.below {w w' : World} (h : Ld w) (hb : Below w.heap.size w w') : Ld w' := h.keep hb (Nat.le_refl _)

theorem and_neg16 : bits .and .u64 16 18446744073709551600 = 16 := by kernel_rfl
theorem and_15i : bits .and .i64 16 15 = 0 := by kernel_rfl
theorem and15 (n : Nat) (h : n < 18446744073709551616) : bits .and .u64 (n : Int) 15 = ((n % 16 : Nat) : Int) := by
  have := u64_and_nat n 15 h (by omega)
  have e : n &&& 15 = n % 16 := Nat.and_two_pow_sub_one_eq_mod n 4
  rw [e] at this
  exact this

set_option maxHeartbeats 400000 in
theorem pow2_16 (w : World) : Calls Tryz.prog 110 #[.int .i64 16] w fun e w' => e = .returned (.bool true) ∧ w = w' := by
  have h1 := and_15i
  go_enter Tryz.func110, Tryz.ntmps110
  go_wp2
  go_ret
  exact ⟨rfl, rfl⟩

theorem wneg16 : IntKind.u64.wrap (-16) = 18446744073709551600 := by kernel_rfl
theorem wmul16 : IntKind.u64.wrap (16 * 285870213051353865) = 4573923408821661840 := by kernel_rfl
theorem wmul16' : IntKind.u64.wrap 4573923408821661840 = 4573923408821661840 := by kernel_rfl
set_option maxHeartbeats 400000 in
theorem tz64_16 (w : World) (hL : Ld w) : Calls Tryz.prog 124 #[.int .u64 16] w fun e w' => e = .returned (.int .i64 4) ∧ w = w' := by
  have h1 := and_neg16
  have h2 := wneg16
  have h3 := wmul16
  have h4 := wmul16'
  have hc := hL.1
  clear hL
  go_enter Tryz.func124, Tryz.ntmps124
  go_wp2
  go_ret
  exact ⟨rfl, rfl⟩

set_option maxHeartbeats 400000 in
theorem tz_16 (w : World) (hL : Ld w) : Calls Tryz.prog 111 #[.int .u64 16] w fun e w' => e = .returned (.int .i64 4) ∧ w = w' := by
  have HC := Lib.hid (tz64_16 w hL)
  clear hL
  go_enter Tryz.func111, Tryz.ntmps111
  go_wp2_with (go_at_call 124; refine HC.out.mono ?_; rintro e w' ⟨rfl, rfl⟩)
  go_ret
  exact ⟨rfl, rfl⟩

/-- Block g is an array of 65 bytes, the last ones of which are l. -/
def Buf (w : World) (g : Nat) (l : List UInt8) : Prop :=
  ∃ (C : Array Value) (T : TypeId), w.heap[g]? = some (.cells C T (0, 0)) ∧ C.size = 65 ∧ l.length ≤ 65 ∧ ∀ j, j < l.length → C[65 - l.length + j]? = some (.int .u8 ((l.getD j 0).toNat : Int))
theorem Buf.cell {w : World} {g : Nat} {l : List UInt8} (h : Buf w g l) (k : Nat) (hk : k < 65) : ∃ v, w.cell? ⟨g, k, none⟩ = some v := by
  obtain ⟨C, T, h1, h2, _⟩ := h
  exact ⟨C[k]'(by omega), by simp [World.cell?, h1, h2, hk]⟩
theorem Buf.free {w : World} {g : Nat} {l : List UInt8} (h : Buf w g l) (k : Nat) : w.frozen? ⟨g, k, none⟩ = false := by
  obtain ⟨C, T, h1, _⟩ := h
  simp [World.frozen?, h1]
theorem Buf.put {w : World} {g : Nat} {l : List UInt8} (h : Buf w g l) (c : UInt8) (k : Nat) (hk : k + l.length + 1 = 65) : Buf (w.setCell ⟨g, k, none⟩ (.int .u8 (c.toNat : Int))) g (c :: l) := by
  obtain ⟨C, T, h1, h2, h3, h4⟩ := h
  refine ⟨C.setIfInBounds k (.int .u8 (c.toNat : Int)), T, ?_, by simpa using h2, by rw [List.length_cons]; omega, ?_⟩
  · simp [World.setCell, Array.getElem?_modify, h1]
  · intro j hj
    have e : 65 - (c :: l).length = k := by rw [List.length_cons]; omega
    rw [e]
    rcases j with _ | j
    · have hkk : k < C.size := by omega
      simp [hkk]
    · have := h4 j (by simpa using hj)
      rw [Array.getElem?_setIfInBounds_ne (by omega), show k + (j + 1) = 65 - l.length + j by omega, this]
      simp
theorem Buf.row {w : World} {g : Nat} {l : List UInt8} (h : Buf w g l) (k : Nat) (hk : k + l.length = 65) : Row8 w (some ⟨g, k, none⟩) l := by
  obtain ⟨C, T, h1, h2, h3, h4⟩ := h
  by_cases hl : l = []
  · exact .inl hl
  refine .inr ⟨g, k, rfl, fun i hi => ?_⟩
  have := h4 i hi
  rw [show 65 - l.length + i = k + i by omega] at this
  simp only [World.cell?, h1]
  simp [this, hi]

def hex (n : Nat) : List UInt8 := (digs n).map dl
theorem hex_big {n : Nat} (h : ¬ n < 16) : hex n = hex (n / 16) ++ [dl (n % 16)] := by unfold hex; rw [digs_big h]; simp
theorem hex_small {n : Nat} (h : n < 16) : hex n = [dl n] := by unfold hex; rw [digs_small h]; rfl
theorem hex_pos (n : Nat) : 1 ≤ (hex n).length := by unfold hex; rw [List.length_map]; exact digs_pos n
theorem hex_len {n : Nat} (h : n < 18446744073709551616) : (hex n).length ≤ 16 := by unfold hex; rw [List.length_map]; exact digs_len n 16 (by simpa using h) (by omega)

theorem slice_buf (g m : Nat) (hm : m < 65) : ∀ w : World,
    (Instr.sliceAt 133 (.pointer (some ⟨g, 0, none⟩)) (some (.int .i64 (m : Int))) none none).run Tryz.prog w = .ok (.slice (some ⟨g, m, none⟩) (65 - m) (65 - m)) w := by
  intro w
  have h65 : (65 : Nat) ≠ m := by omega
  have h1 : (Instr.sliceBound (.int .i64 (m : Int)) 65 .sliceB).run Tryz.prog w = .ok m w := by
    rw [run_sliceBound _ _ _ _ _ (by omega) (by omega)]; rfl
  have h2 : ((⟨g, 0, none⟩ : Addr).add m) = ⟨g, m, none⟩ := by unfold Addr.add; split <;> simp_all
  simp [Instr.sliceAt, run_underlying Tryz.underlying133, Instr.sliceBounds, Instr.sureAddr, h1, h65, Result.andThen, h2]

theorem idx_dig (d : Nat) (h : d < 16) (w : World) :
    (Instr.index 9 (.string { data := #[48, 49, 50, 51, 52, 53, 54, 55, 56, 57, 97, 98, 99, 100, 101, 102, 103, 104, 105, 106, 107, 108, 109, 110, 111, 112, 113, 114, 115, 116, 117, 118, 119, 120, 121, 122] }) (.int .u64 (d : Int))).run Tryz.prog w = .ok (.int .u8 ((dl d).toNat : Int)) w := by
  have : d = 0 ∨ d = 1 ∨ d = 2 ∨ d = 3 ∨ d = 4 ∨ d = 5 ∨ d = 6 ∨ d = 7 ∨ d = 8 ∨ d = 9 ∨ d = 10 ∨ d = 11 ∨ d = 12 ∨ d = 13 ∨ d = 14 ∨ d = 15 := by omega
  rcases this with rfl | rfl | rfl | rfl | rfl | rfl | rfl | rfl | rfl | rfl | rfl | rfl | rfl | rfl | rfl | rfl
  all_goals (show Sem.run _ _ _ = _; kernel_rfl)

set_option maxRecDepth 100000 in
set_option maxHeartbeats 1000000 in
theorem bits16 (n : Nat) (hn : n < 18446744073709551616) (w : World) (hL : Ld w) :
    Calls Tryz.prog 91 #[.slice none 0 0, .int .u64 (n : Int), .int .i64 16, .bool false, .bool false] w fun e w' =>
      e = .returned (.tuple #[.slice none 0 0, .string ⟨(hex n).toArray⟩]) ∧ Below w.heap.size w w' := by
  have HL := Lib.hid hL
  have hlen := hex_len hn
  clear hL
  go_enter Tryz.func91, Tryz.ntmps91
  go_wp2_with (first | (go_at_call 110; refine (pow2_16 _).mono ?_; rintro e w' ⟨rfl, rfl⟩) | (go_at_call 111; refine (tz_16 _ (HL.out.below ((Below.refl _ _).alloc (Nat.le_refl _) _))).mono ?_; rintro e w' ⟨rfl, rfl⟩))
  have hb0 : Buf (w.alloc (.cells Tryz.zeroCells133 133)) w.heap.size [] := ⟨Tryz.zeroCells133, 133, by show (w.heap.push _)[w.heap.size]? = _; simp, by kernel_rfl, by simp, fun j hj => by simp at hj⟩
  have hB0 : Below w.heap.size w (w.alloc (.cells Tryz.zeroCells133 133)) := (Below.refl _ _).alloc (Nat.le_refl _) _
  have HB0 := Lib.hid hB0
  have HU0 := Lib.hid hb0
  clear hb0 hB0 HL
  generalize w.alloc (.cells Tryz.zeroCells133 133) = w0 at *
  obtain ⟨g, hg⟩ : ∃ g, g = w.heap.size := ⟨_, rfl⟩
  rw [← hg] at HU0
  have HG := Lib.hid hg
  simp only [← hg]
  clear hg
  go_loopw [1, 13] (fun x i wr => ∃ (q m : Nat) (l : List UInt8), x = .int .u64 q ∧ q < 18446744073709551616 ∧ i = .int .i64 ((m : Int) + 1) ∧ m + 1 + l.length = 65 ∧ Hid (hex n = hex q ++ l) ∧ Hid (Buf wr g l) ∧ Hid (Below w.heap.size w wr)) (fun x _ _ => (intOf x).toNat)
  case atStart => exact ⟨n, 64, [], rfl, hn, rfl, rfl, by show _ = _; simp, HU0, HB0⟩
  case round =>
    obtain ⟨q, m, l, rfl, hq, rfl, hml, HE, HU, HB⟩ := hrel
    have hl15 : l.length ≤ 15 := by
      have := congrArg List.length HE.out
      rw [List.length_append] at this
      have := hex_pos q
      omega
    obtain ⟨v0, hv0⟩ := HU.out.cell m (by omega)
    have hfr := HU.out.free m
    have ha := and15 q hq
    obtain ⟨d, hd⟩ : ∃ d, d = q % 16 := ⟨_, rfl⟩
    rw [← hd] at ha
    have hd16 : d < 16 := by omega
    by_cases h16 : q < 16
    · obtain rfl : d = q := by rw [hd]; exact Nat.mod_eq_of_lt h16
      have hx := idx_dig d hd16
      have hput := HU.out.put (dl d) m (by omega)
      have hrow := hput.row m (by rw [List.length_cons]; omega)
      have hlen2 : 65 - m = (dl d :: l).length := by rw [List.length_cons]; omega
      have hcv := G.conv_row (P := Tryz.prog) hrow (65 - m) hlen2 (65 - m) 78 9 5 Tryz.underlying78 Tryz.underlying5 Tryz.underlying9
      have HR : Hid (hex n = dl d :: l) := by show _ = _; rw [HE.out, hex_small h16]; rfl
      have HB2 := Lib.hid (below_gb HB.out (gb_setCell wr g m (.int .u8 ((dl d).toNat : Int))) HB.out.size (by rw [HG.out]; exact Nat.le_refl _))
      clear hd hrow hlen2 hput
      have hsl := slice_buf g m (by omega)
      go_wp2
      go_ret2
      exact ⟨by rw [HR.out]; rfl, HB2.out⟩
    · have HD := Lib.hid hd
      have hx := idx_dig d hd16
      have HE2 : Hid (hex q = hex (q / 16) ++ [dl d]) := by show _ = _; rw [hex_big h16, ← hd]
      clear hd
      go_wp2
      go_roundw
      case rel =>
        refine ⟨q / 16, m - 1, dl d :: l, ?_, by omega, ?_, by rw [List.length_cons]; omega, ?_, HU.out.put (dl d) m (by omega), below_gb HB.out (gb_setCell wr g m (.int .u8 ((dl d).toNat : Int))) HB.out.size (by rw [HG.out]; exact Nat.le_refl _)⟩
        · congr 1
        · congr 1; omega
        · show _ = _
          rw [HE.out, HE2.out]; simp
      case measure => simp [intOf]; omega

set_option maxRecDepth 100000 in
set_option maxHeartbeats 1000000 in
theorem ifmt16 (n : Nat) (hn : n < 9223372036854775808) (w : World) (hL : Ld w) :
    Calls Tryz.prog 71 #[.int .i64 (n : Int), .int .i64 16] w fun e w' => e = .returned (.string ⟨(hex n).toArray⟩) ∧ Below w.heap.size w w' := by
  have HC := Lib.hid (bits16 n (by omega) w hL)
  clear hL
  have h0 : ¬ (n : Int) < 0 := by omega
  have hd : decide ((n : Int) < 0) = false := by simp
  go_enter Tryz.func71, Tryz.ntmps71
  go_wp2_with (go_at_call 91; refine HC.out.mono ?_; rintro e w' ⟨rfl, hb⟩)
  go_ret
  exact ⟨rfl, hb⟩

set_option maxHeartbeats 400000 in
theorem fmt16 (n : Nat) (hn : n < 9223372036854775808) (w : World) (hL : Ld w) :
    Calls Tryz.prog 73 #[.int .i64 (n : Int), .int .i64 16] w fun e w' => e = .returned (.string ⟨(hex n).toArray⟩) ∧ Below w.heap.size w w' := by
  have HC := Lib.hid (ifmt16 n hn w hL)
  clear hL
  go_enter Tryz.func73, Tryz.ntmps73
  go_wp2_with (go_at_call 71; refine HC.out.mono ?_; rintro e w' ⟨rfl, hb⟩)
  go_ret
  exact ⟨rfl, hb⟩
end Go.Proofs.YtmmcnpcijeahcabGreatDoor.R
