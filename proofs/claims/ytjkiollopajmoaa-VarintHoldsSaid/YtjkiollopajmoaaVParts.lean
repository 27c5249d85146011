/-
  Parts that are written: how they came in, what each writes.
-/
import Derived.Test.YtjkiollopajmoaaVRecs
import Derived.Test.YtjkiollopajmoaaVRefNum
namespace Go.Proofs.Ytjkiollopajmoaa.V
set_option linter.unusedVariables false
open Go.ChangeShapes Go.WideShapes Go.ChangeAt Go.RowKit Go.Deep

/-- A part, with the bytes that its slice holds. -/
structure PartV where
  what : Int
  n : Nat
  s : Int
  a : Option Addr
  d : List UInt8
  c : Nat

/-- What a part writes. -/
def pb (what : Int) (n : Nat) (s : Int) (d : List UInt8) : List UInt8 :=
  if what = 0 then num n else if what = 1 then num (zig s) else if what = 2 then num d.length ++ d else d
def PartV.out (p : PartV) : List UInt8 := pb p.what p.n p.s p.d
/-- What the first k parts write. -/
def cat (q : Nat → PartV) : Nat → List UInt8
  | 0 => []
  | k + 1 => cat q k ++ (q k).out

def PartV.fits (p : PartV) : Prop :=
  p.n < 18446744073709551616 ∧ (-9223372036854775808 ≤ p.s ∧ p.s ≤ 9223372036854775807) ∧ (p.a = none → p.c = 0) ∧ p.d.length ≤ p.c ∧ p.d.length ≤ 9223372036854775807

theorem pb_le (what : Int) (n : Nat) (s : Int) (d : List UInt8) (hn : n < 18446744073709551616) (hs : -9223372036854775808 ≤ s ∧ s ≤ 9223372036854775807) (hd : d.length ≤ 300) : (pb what n s d).length ≤ 310 := by
  have h1 := num_ten hn
  have h2 := num_ten (zig_lt hs.1 hs.2)
  have h3 := num_ten (n := d.length) (by omega)
  unfold pb
  split
  · omega
  split
  · omega
  split
  · rw [List.length_append]; omega
  · omega

theorem cat_le (q : Nat → PartV) (len : Nat) (hq : ∀ i, i < len → (q i).fits) (hd : ∀ i, i < len → (q i).d.length ≤ 300) : ∀ k, k ≤ len → (cat q k).length ≤ 310 * k
  | 0, _ => by simp [cat]
  | k + 1, h => by
    have h1 := cat_le q len hq hd k (by omega)
    have h2 := pb_le (q k).what (q k).n (q k).s (q k).d (hq k (by omega)).1 (hq k (by omega)).2.1 (hd k (by omega))
    simp only [cat, List.length_append, PartV.out]
    omega

/-- Parts that came in. -/
def IsParts (w : World) (a : Option Addr) (len : Nat) (q : Nat → PartV) : Prop :=
  len ≤ 9223372036854775807 ∧ (∀ i, i < len → (q i).fits) ∧ (len = 0 ∨ ∃ b o, a = some ⟨b, o, none⟩ ∧ ∀ i, i < len →
    w.cell? ⟨b, o + i * 4, none⟩ = some (.int .i64 (q i).what) ∧ w.cell? ⟨b, o + i * 4 + 1, none⟩ = some (.int .u64 ((q i).n : Int)) ∧ w.cell? ⟨b, o + i * 4 + 2, none⟩ = some (.int .i64 (q i).s) ∧
    w.cell? ⟨b, o + i * 4 + 3, none⟩ = some (.slice (q i).a (q i).d.length (q i).c) ∧ Row8 w (q i).a (q i).d)

theorem cellsPart : Try.prog.cellsOf 42 = 4 := by kernel_rfl

theorem open_parts {H : Type} {enc : TypeId × Value → H} {W : World} {base : Nat} {held : Bool} {a : Option Addr} {len cap : Nat} {d : DataW H} {p : List MemPlace}
    (h : DataW.Trod enc Try.prog W base (fun _ => true) held 37 (.slice a len cap) d p) : ∃ q, IsParts W a len q := by
  obtain ⟨fuel, hf⟩ := h
  rcases open_slice Try.underlying37 hf with ⟨hcs, _⟩ | ⟨x, l, c, m, n, D, Pl, hcs, _, hl, hm, hmm, _, hi⟩
  · simp [Value.cells] at hcs
    obtain ⟨rfl, rfl, rfl⟩ := hcs
    exact ⟨fun _ => ⟨0, 0, 0, none, [], 0⟩, by omega, fun i hi => absurd hi (by omega), .inl rfl⟩
  · simp [Value.cells] at hcs
    obtain ⟨rfl, rfl, rfl⟩ := hcs
    rw [cellsPart] at hi
    have hlm : len ≤ m := by rw [hmm]; split <;> omega
    unfold maxLen at hm
    have one : ∀ i, ∃ q : PartV, i < len → q.fits ∧ W.cell? ((x.add (i * 4)).add 0) = some (.int .i64 q.what) ∧ W.cell? ((x.add (i * 4)).add 1) = some (.int .u64 (q.n : Int)) ∧ W.cell? ((x.add (i * 4)).add 2) = some (.int .i64 q.s) ∧
        W.cell? ((x.add (i * 4)).add 3) = some (.slice q.a q.d.length q.c) ∧ Row8 W q.a q.d := by
      intro i
      by_cases hil : i < len
      · obtain ⟨cs', hc, ht⟩ := hi i (by omega)
        obtain ⟨_, hlen, hcell⟩ := World.cells?_some hc
        obtain ⟨v0, y0, m0, e0, t0⟩ := field_of Try.underlying42 (by kernel_rfl) ht (by rw [hlen]; rfl) 0 _ rfl
        obtain ⟨v1, y1, m1, e1, t1⟩ := field_of Try.underlying42 (by kernel_rfl) ht (by rw [hlen]; rfl) 1 _ rfl
        obtain ⟨v2, y2, m2, e2, t2⟩ := field_of Try.underlying42 (by kernel_rfl) ht (by rw [hlen]; rfl) 2 _ rfl
        obtain ⟨v3, y3, m3, e3, t3⟩ := field_of Try.underlying42 (by kernel_rfl) ht (by rw [hlen]; rfl) 3 _ rfl
        obtain ⟨n0, f0, _, _⟩ := DataW.trod_int Try.underlying3 t0
        obtain ⟨n1, f1, _, b1⟩ := DataW.trod_int Try.underlying22 t1
        obtain ⟨n2, f2, _, b2⟩ := DataW.trod_int Try.underlying3 t2
        obtain ⟨a3, l3, c3, zs3, f3, hrow3⟩ : ∃ a3 l3 c3 zs3, v3 = .slice a3 l3 c3 ∧ IsRow .u8 W a3 l3 c3 zs3 := by
          rcases open_ints Try.underlying23 Try.underlying5 (by kernel_rfl) t3 with ⟨hcs, _⟩ | ⟨x, l, c, zs, hcs, _, hl, hm, hz, _, hcell, hwz⟩
          · simp at hcs
            exact ⟨none, 0, 0, [], hcs, .inl ⟨rfl, rfl, rfl, rfl⟩⟩
          · simp at hcs
            exact ⟨some x, l, c, zs, hcs, .inr ⟨_, rfl, hl, hm, by simpa using hz, hcell, hwz⟩⟩
        have hcap : l3 ≤ c3 := by
          rcases hrow3 with ⟨_, rfl, rfl, _⟩ | ⟨_, _, h, _⟩
          · omega
          · exact h
        have hll := isRow_len hrow3
        obtain ⟨d3, hd3, hr3⟩ := isRow_bytes hrow3
        simp only [List.cons.injEq, and_true] at f0 f1 f2
        subst f0 f1 f2 f3
        obtain ⟨k1, rfl⟩ := Int.eq_ofNat_of_zero_le (bd_u64 b1).1
        have hk1 := (bd_u64 b1).2
        refine ⟨⟨n0, k1, n2, a3, d3, c3⟩, fun _ => ⟨⟨by show k1 < _; omega, bd_i64 b2, hll.2.1, by show d3.length ≤ c3; omega, by show d3.length ≤ _; omega⟩, by rw [hcell 0 (by omega), e0], by rw [hcell 1 (by omega), e1], by rw [hcell 2 (by omega), e2], by rw [hcell 3 (by omega), e3, hd3], hr3⟩⟩
      · exact ⟨⟨0, 0, 0, none, [], 0⟩, fun h => absurd h hil⟩
    obtain ⟨q, hq⟩ : ∃ q : Nat → PartV, ∀ i, i < len → (q i).fits ∧ W.cell? ((x.add (i * 4)).add 0) = some (.int .i64 (q i).what) ∧ W.cell? ((x.add (i * 4)).add 1) = some (.int .u64 ((q i).n : Int)) ∧ W.cell? ((x.add (i * 4)).add 2) = some (.int .i64 (q i).s) ∧
        W.cell? ((x.add (i * 4)).add 3) = some (.slice (q i).a (q i).d.length (q i).c) ∧ Row8 W (q i).a (q i).d := ⟨fun i => Classical.choose (one i), fun i => Classical.choose_spec (one i)⟩
    refine ⟨q, by omega, fun i hi => (hq i hi).1, ?_⟩
    by_cases h0 : len = 0
    · exact .inl h0
    · obtain ⟨b, o, spot⟩ := x
      have hs0 := (hq 0 (by omega)).2.1
      have hspot : spot = none := by simpa [Addr.add] using World.cell?_spot hs0
      subst hspot
      refine .inr ⟨b, o, rfl, fun i hil => ?_⟩
      have := (hq i hil).2
      simp only [addr_add, Nat.add_zero] at this
      exact this

set_option maxRecDepth 100000 in
set_option maxHeartbeats 800000 in
theorem small_any (w : World) (a : Option Addr) (len cap : Nat) (q : Nat → PartV) (h : IsParts w a len q) :
    Calls Try.prog 21 #[.slice a len cap] w fun e w' => ∃ bb : Bool, e = .returned (.bool bb) ∧ (bb = true → len ≤ 40 ∧ ∀ i, i < len → (q i).d.length ≤ 300) ∧ w = w' := by
  obtain ⟨hl, hfit, hc⟩ := h
  have HC := Lib.hid hc
  have HF := Lib.hid hfit
  clear hc hfit
  go_enter Try.func21, Try.ntmps21
  go_wp2
  go_loop [3] (fun i => ∃ k : Nat, k ≤ len ∧ k ≤ 41 ∧ i = .int .i64 k ∧ ∀ j, j < k → (q j).d.length ≤ 300) (fun i => len - (intOf i).toNat)
  case atStart => exact ⟨0, by omega, by omega, rfl, fun j hj => absurd hj (by omega)⟩
  case round =>
    obtain ⟨k, hk, hk41, rfl, hall⟩ := hrel
    have HA := Lib.hid hall
    clear hall
    by_cases hlt : k < len
    · by_cases h41 : k < 41
      · obtain ⟨b, o, rfl, hc⟩ := HC.out.resolve_left (by omega)
        obtain ⟨-, -, -, c3, -⟩ := hc k hlt
        obtain ⟨dl, hdl⟩ : ∃ dl, dl = (q k).d.length := ⟨_, rfl⟩
        rw [← hdl] at c3
        have HD := Lib.hid hdl
        clear hc hdl
        by_cases h300 : 300 < dl
        · go_wp2
          go_ret
          exact .inl ⟨rfl, rfl⟩
        · go_wp2
          go_round
          case rel =>
            refine ⟨k + 1, by omega, by omega, by go_num, fun j hj => ?_⟩
            by_cases hjk : j < k
            · exact HA.out j hjk
            · obtain rfl : j = k := by omega
              rw [← HD.out]; omega
          case measure => simp [intOf]; omega
      · obtain rfl : k = 41 := by omega
        have h40 : ¬ (len : Int) ≤ 40 := by omega
        go_wp2
        go_ret
        exact .inl ⟨rfl, rfl⟩
    · obtain rfl : k = len := by omega
      by_cases h40 : k ≤ 40
      · go_wp2
        go_ret
        refine .inr ⟨?_, HA.out, rfl⟩
        show Ending.returned (Value.bool (decide ((k : Int) ≤ 40))) = _
        rw [decide_eq_true (by omega)]
      · have h40' : ¬ (k : Int) ≤ 40 := by omega
        go_wp2
        go_ret
        exact ⟨rfl, rfl⟩

end Go.Proofs.Ytjkiollopajmoaa.V
