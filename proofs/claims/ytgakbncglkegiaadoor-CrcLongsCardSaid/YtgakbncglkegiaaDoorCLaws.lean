/-
  The five laws, as the rows' frames ask for them.
-/
import Derived.Test.YtgakbncglkegiaaDoorCLawD
import Derived.Test.YtgakbncglkegiaaDoorCLd
import Derived.Test.YtgakbncglkegiaaDoorIn
namespace Go.Proofs.YtgakbncglkegiaaDoor.C
set_option linter.unusedVariables false
open Go.RowKit V

theorem wf_u16 {n : Int} (h : (Lit.int .u16 n).wf = true) : 0 ≤ n ∧ n ≤ 65535 := by simpa [Lit.wf, IntKind.min, IntKind.max, IntKind.signed, IntKind.bits] using h
theorem nat_of {n b : Int} (h : 0 ≤ n ∧ n ≤ b) : ∃ k : Nat, n = (k : Int) ∧ (k : Int) ≤ b := ⟨n.toNat, by omega, by omega⟩
theorem byte_of {n : Int} (h : (Lit.int .u8 n).wf = true) : ∃ y : UInt8, n = (y.toNat : Int) := by
  have := G.wf_u8 h
  refine ⟨u n.toNat, ?_⟩
  rw [u_toNat (by omega)]
  omega
/-- A row of bytes that came in. -/
theorem bytes_in : ∀ (zs : List Int), (∀ z ∈ zs, (Lit.int .u8 z).wf = true) → ∃ l : List UInt8, zs = l.map fun y => (y.toNat : Int)
  | [], _ => ⟨[], rfl⟩
  | z :: t, h => by
    obtain ⟨y, hy⟩ := byte_of (h z (by simp))
    obtain ⟨l, hl⟩ := bytes_in t (fun x hx => h x (by simp [hx]))
    exact ⟨y :: l, by rw [hy, hl]; rfl⟩
theorem row_in {w : World} {a : Option Addr} {l : List UInt8} (h : G.RowI .u8 w a (l.map fun y => (y.toNat : Int))) : Row8 w a l := by
  rcases h with h | ⟨b, o, rfl, h⟩
  · left; simpa using h
  · refine .inr ⟨b, o, rfl, fun i hi => ?_⟩
    have := h i (by simpa using hi)
    rw [this]
    simp

theorem sums_law (n : Int) (zs : List Int) (a : Option Addr) (c : Nat) (w : World) (hL : Ld w) (hn : (Lit.int .u32 n).wf = true) (hlen : zs.length ≤ 9223372036854775807) (hrow : G.RowI .u8 w a zs) (hnil : a = none → c = 0) (hwf : ∀ z ∈ zs, (Lit.int .u8 z).wf = true) (hlc : zs.length ≤ c) :
    Calls Tryd.prog 3 #[.int .u32 n, .slice a zs.length c] w fun e w' => e = .returned (.bool true) ∧ Below w.heap.size w w' := by
  obtain ⟨k, rfl, hk⟩ := nat_of (G.wf_u32 hn)
  obtain ⟨l, rfl⟩ := bytes_in zs hwf
  rw [List.length_map] at hlen ⊢
  exact sums_any k (by omega) l a c w hL (row_in hrow) hnil hlen
theorem opens_law2 (zs : List Int) (a : Option Addr) (c : Nat) (ys : List Int) (b : Option Addr) (d : Nat) (w : World) (hL : Ld w) (hlen : zs.length ≤ 9223372036854775807) (hrow : G.RowI .u8 w a zs) (hnil : a = none → c = 0) (hwf : ∀ z ∈ zs, (Lit.int .u8 z).wf = true) (hlc : zs.length ≤ c)
    (hlen2 : ys.length ≤ 9223372036854775807) (hrow2 : G.RowI .u8 w b ys) (hnil2 : b = none → d = 0) (hwf2 : ∀ z ∈ ys, (Lit.int .u8 z).wf = true) (hlc2 : ys.length ≤ d) :
    Calls Tryd.prog 4 #[.slice a zs.length c, .slice b ys.length d] w fun e w' => e = .returned (.bool true) ∧ Below w.heap.size w w' := by
  obtain ⟨l, rfl⟩ := bytes_in zs hwf
  obtain ⟨m, rfl⟩ := bytes_in ys hwf2
  rw [List.length_map] at hlen hlen2 hlc hlc2 ⊢
  rw [List.length_map]
  exact opens_law l m a b c d w hL (row_in hrow) (row_in hrow2) hnil hnil2 hlc hlc2 hlen hlen2
theorem longs_law (n x p : Int) (w : World) (hL : Ld w) (hn : (Lit.int .u16 n).wf = true) (hx : (Lit.int .u8 x).wf = true) (hp : (Lit.int .u16 p).wf = true) :
    Calls Tryd.prog 5 #[.int .u16 n, .int .u8 x, .int .u16 p] w fun e w' => e = .returned (.bool true) ∧ Below w.heap.size w w' := by
  obtain ⟨n, rfl, hn⟩ := nat_of (wf_u16 hn)
  obtain ⟨p, rfl, hp⟩ := nat_of (wf_u16 hp)
  obtain ⟨x, rfl⟩ := byte_of hx
  exact longs_any n p x (by omega) (by omega) w hL
theorem texts_law (n : Int) (s : List UInt8) (w : World) (hL : Ld w) (hn : (Lit.int .u32 n).wf = true) (hlen : s.length ≤ 9223372036854775807) :
    Calls Tryd.prog 6 #[.int .u32 n, .string ⟨s.toArray⟩] w fun e w' => e = .returned (.bool true) ∧ Below w.heap.size w w' := by
  obtain ⟨k, rfl, hk⟩ := nat_of (G.wf_u32 hn)
  exact texts_any k (by omega) s w hL hlen
theorem holds_law (zs : List Int) (a : Option Addr) (c : Nat) (ys : List Int) (b : Option Addr) (d : Nat) (p y : Int) (w : World) (hL : Ld w) (hlen : zs.length ≤ 9223372036854775807) (hrow : G.RowI .u8 w a zs) (hnil : a = none → c = 0) (hwf : ∀ z ∈ zs, (Lit.int .u8 z).wf = true) (hlc : zs.length ≤ c)
    (hlen2 : ys.length ≤ 9223372036854775807) (hrow2 : G.RowI .u8 w b ys) (hnil2 : b = none → d = 0) (hwf2 : ∀ z ∈ ys, (Lit.int .u8 z).wf = true) (hlc2 : ys.length ≤ d) (hp : (Lit.int .u16 p).wf = true) (hy : (Lit.int .u8 y).wf = true) :
    Calls Tryd.prog 7 #[.slice a zs.length c, .slice b ys.length d, .int .u16 p, .int .u8 y] w fun e w' => e = .returned (.bool true) ∧ Below w.heap.size w w' := by
  obtain ⟨l, rfl⟩ := bytes_in zs hwf
  obtain ⟨m, rfl⟩ := bytes_in ys hwf2
  obtain ⟨p, rfl, hp⟩ := nat_of (wf_u16 hp)
  obtain ⟨y, rfl⟩ := byte_of hy
  rw [List.length_map] at hlen hlen2 ⊢
  rw [List.length_map]
  exact holds_any l m a b c d p y w hL (row_in hrow) (row_in hrow2) hnil hnil2 (by omega) hlen hlen2
end Go.Proofs.YtgakbncglkegiaaDoor.C
