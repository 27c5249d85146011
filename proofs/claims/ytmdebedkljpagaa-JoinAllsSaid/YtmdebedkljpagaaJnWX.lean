/-
  The laws JoinHolds and JoinAlls, as the rows' frames ask for them.
-/
import Derived.Test.YtmdebedkljpagaaJnLC
import Derived.Test.YtmdebedkljpagaaJnIn
namespace Go.Proofs.Ytmdebedkljpagaa.Jn
set_option linter.unusedVariables false
open Go.RowKit V D Nd Qs

theorem lit64 {z : Int} (h1 : -9223372036854775808 ≤ z) (h2 : z ≤ 9223372036854775807) : (Lit.int .i64 z).wf = true := by
  simp only [Lit.wf, IntKind.min, IntKind.max, IntKind.signed, IntKind.bits]
  simp
  omega
theorem fit_wf {d : Dt} (h : wfD d) : fitD d := ⟨lit64 h.1.1 h.1.2, lit64 h.2.1 h.2.2⟩
theorem fit_in {x : Nt} (h : wfN x) : fitN x := ⟨fit_wf h.1, fit_wf h.2.1⟩
theorem holds_law2 (l : List Nt) (a : Option Addr) (ca : Nat) (m : List Nt) (b : Option Addr) (cb : Nat) (n : List Nt) (c : Option Addr) (cc : Nat) (w : World) (hl : l.length ≤ 9223372036854775807) (hx : Qs.RowN w a l) (hna : a = none → ca = 0) (hw : ∀ x ∈ l, wfN x) (hc : l.length ≤ ca)
    (hm : m.length ≤ 9223372036854775807) (hy : Qs.RowN w b m) (hnb : b = none → cb = 0) (hv : ∀ x ∈ m, wfN x) (hd : m.length ≤ cb) (hn : n.length ≤ 9223372036854775807) (hz : Qs.RowN w c n) (hnc : c = none → cc = 0) (hu : ∀ x ∈ n, wfN x) (he : n.length ≤ cc) :
    Calls Try.prog 7 #[.slice a l.length ca, .slice b m.length cb, .slice c n.length cc] w fun e w' => e = .returned (.bool true) ∧ Below w.heap.size w w' :=
  holds_law l m n a b c ca cb cc w ⟨rfl, hx, hna, hc⟩ ⟨rfl, hy, hnb, hd⟩ ⟨rfl, hz, hnc, he⟩ (fun x h => fit_in (by rcases h with h | h | h; exact hw x h; exact hv x h; exact hu x h))
theorem alls_law2 (S : List S3) (a : Option Addr) (c : Nat) (w : World) (hl : S.length ≤ 9223372036854775807) (hS : RowL w a S) (hna : a = none → c = 0) (hA : AllL w S) (hw : ∀ z ∈ S, ∀ y ∈ z.1, wfN y) (hc : S.length ≤ c) :
    Calls Try.prog 5 #[.slice a S.length c] w fun e w' => e = .returned (.bool true) ∧ Below w.heap.size w w' :=
  alls_law S a c w hS hA fun x hx => by
    unfold catS at hx
    obtain ⟨t, ht, hxt⟩ := List.mem_flatten.1 hx
    obtain ⟨z, hz, rfl⟩ := List.mem_map.1 ht
    exact fit_in (hw z hz x hxt)
end Go.Proofs.Ytmdebedkljpagaa.Jn
