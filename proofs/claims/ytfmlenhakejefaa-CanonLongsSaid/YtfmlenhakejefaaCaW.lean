/-
  Layer 17: the laws, as the rows' frames ask for them.
-/
import Derived.Test.YtfmlenhakejefaaMCaS
import Derived.Test.YtfmlenhakejefaaQIn
import Derived.Test.YtfmlenhakejefaaMInD
namespace Go.Proofs.Ytfmlenhakejefaa.Ca
set_option linter.unusedVariables false
open Go.RowKit V D Nd Qs Jn Dg
open F (cv)

theorem byte_of {n : Int} (h : (Lit.int .u8 n).wf = true) : ∃ y : UInt8, n = (y.toNat : Int) := by
  have := G.wf_u8 h
  refine ⟨UInt8.ofNat n.toNat, ?_⟩
  simp
  omega
theorem bytes_in : ∀ (zs : List Int), (∀ z ∈ zs, (Lit.int .u8 z).wf = true) → ∃ l : List UInt8, zs = l.map fun y => (y.toNat : Int)
  | [], _ => ⟨[], rfl⟩
  | z :: t, h => by
    obtain ⟨y, hy⟩ := byte_of (h z (by simp))
    obtain ⟨l, hl⟩ := bytes_in t (fun x hx => h x (by simp [hx]))
    exact ⟨y :: l, by rw [hy, hl]; rfl⟩
theorem row_in {w : World} {a : Option Addr} {l : List UInt8} (h : G.RowI .u8 w a (l.map fun y => (y.toNat : Int))) : Row8 w a l := by
  rcases h with h | ⟨b, o, rfl, h⟩
  · left; simpa using h
  · refine .inr ⟨b, o, rfl, fun i hi => ?_⟩
    have := h i (by simpa using hi)
    rw [this]
    simp
theorem kx_in {w : World} {a b : Option Addr} {n m : Nat} {xs ys : List Dt} (hx : F.InL w a xs n) (hy : F.InL w b ys m) : Kx w (.slice a xs.length n) (.slice b ys.length m) (xs, ys) :=
  ⟨⟨a, n, rfl, hx.2.1, hx.2.2.1, hx.2.2.2.2⟩, b, m, rfl, hy.2.1, hy.2.2.1, hy.2.2.2.2⟩
theorem states_law2 (l : List Nt) (a : Option Addr) (c : Nat) (zs : List Int) (b : Option Addr) (d : Nat) (w : World) (hl : l.length ≤ 9223372036854775807) (hx : Qs.RowN w a l) (hna : a = none → c = 0) (hw : ∀ x ∈ l, wfN x) (hc : l.length ≤ c)
    (hlen : zs.length ≤ 9223372036854775807) (hrow : G.RowI .u8 w b zs) (hnil : b = none → d = 0) (hwf : ∀ z ∈ zs, (Lit.int .u8 z).wf = true) (hlc : zs.length ≤ d) :
    Calls Try.prog 3 #[.slice a l.length c, .slice b zs.length d] w fun e w' => e = .returned (.bool true) ∧ Below w.heap.size w w' := by
  obtain ⟨p, rfl⟩ := bytes_in zs hwf
  rw [List.length_map]
  exact states_law l p a b c d w hx (row_in hrow) hnil hna
theorem nodes_law2 (n : Nt) (w : World) (hn : wfN n) :
    Calls Try.prog 4 #[nv n] w fun e w' => e = .returned (.bool true) ∧ Below w.heap.size w w' := nodes_law n w
theorem contexts_law2 (xs : List Dt) (a : Option Addr) (n : Nat) (ys : List Dt) (b : Option Addr) (m : Nat) (w : World) (hx : F.InL w a xs n) (hy : F.InL w b ys m) :
    Calls Try.prog 5 #[cv (.slice a xs.length n) (.slice b ys.length m)] w fun e w' => e = .returned (.bool true) ∧ Below w.heap.size w w' :=
  contexts_law xs ys a b n m w hx.2.1 hy.2.1 hx.2.2.1 hy.2.2.1 hx.2.2.2.2 hy.2.2.2.2
theorem longs_law2 (many r : Int) (w : World) (h1 : (Lit.int .i64 many).wf = true) (h2 : (Lit.int .i64 r).wf = true) :
    Calls Try.prog 6 #[.int .i64 many, .int .i64 r] w fun e w' => e = .returned (.bool true) ∧ Below w.heap.size w w' := longs_law many r w
theorem holds_law2 (l : List Nt) (a : Option Addr) (c : Nat) (m : List Nt) (b : Option Addr) (d : Nat) (t : Int) (xs : List Dt) (p : Option Addr) (n : Nat) (ys : List Dt) (q : Option Addr) (i : Nat) (us : List Dt) (r : Option Addr) (j : Nat) (vs : List Dt) (s : Option Addr) (k : Nat) (w : World)
    (hl : l.length ≤ 9223372036854775807) (hx : Qs.RowN w a l) (hna : a = none → c = 0) (hw : ∀ x ∈ l, wfN x) (hc : l.length ≤ c)
    (hm : m.length ≤ 9223372036854775807) (hy : Qs.RowN w b m) (hnb : b = none → d = 0) (hv : ∀ x ∈ m, wfN x) (hd : m.length ≤ d) (ht : (Lit.int .u8 t).wf = true)
    (h1 : F.InL w p xs n) (h2 : F.InL w q ys i) (h3 : F.InL w r us j) (h4 : F.InL w s vs k) :
    Calls Try.prog 7 #[.slice a l.length c, .slice b m.length d, .int .u8 t, cv (.slice p xs.length n) (.slice q ys.length i), cv (.slice r us.length j) (.slice s vs.length k)] w fun e w' => e = .returned (.bool true) ∧ Below w.heap.size w w' := by
  have := G.wf_u8 ht
  obtain ⟨x, rfl⟩ := Int.eq_ofNat_of_zero_le this.1
  exact holds_law l m a b c d x (by omega) (xs, ys) (us, vs) p q r s n i j k w hx hna hy (kx_in h1 h2) (kx_in h3 h4)
end Go.Proofs.Ytfmlenhakejefaa.Ca
