/-
  The laws of layer 13, as the rows' frames ask for them.
-/
import Derived.Test.YtodjccfaipkpfaaDoorFoLC
import Derived.Test.YtodjccfaipkpfaaDoorFoLd
import Derived.Test.YtodjccfaipkpfaaDoorQIn
namespace Go.Proofs.YtodjccfaipkpfaaDoor.Fo
set_option linter.unusedVariables false
open Go.RowKit V D Nd Qs

theorem lit64 {z : Int} (h1 : -9223372036854775808 ≤ z) (h2 : z ≤ 9223372036854775807) : (Lit.int .i64 z).wf = true := by
  simp only [Lit.wf, IntKind.min, IntKind.max, IntKind.signed, IntKind.bits]
  simp
  omega
theorem fit_wf {d : Dt} (h : wfD d) : fitD d := ⟨lit64 h.1.1 h.1.2, lit64 h.2.1 h.2.2⟩
theorem fit_in {l : List Nt} (hw : ∀ x ∈ l, wfN x) : ∀ x ∈ l, fitN x := fun x h => ⟨fit_wf (hw x h).1, fit_wf (hw x h).2.1⟩
theorem words_law2 (f : Int) (w : World) (hL : Ws w) (hf : (Lit.int .i64 f).wf = true) : Calls Tryd.prog 5 #[.int .i64 f] w fun e w' => e = .returned (.bool true) ∧ Below w.heap.size w w' := words_law f w hL
theorem faults_law2 (l : List Nt) (a : Option Addr) (c : Nat) (w : World) (hL : Ws w) (hl : l.length ≤ 9223372036854775807) (hx : Qs.RowN w a l) (hna : a = none → c = 0) (hw : ∀ x ∈ l, wfN x) (hc : l.length ≤ c) :
    Calls Tryd.prog 3 #[.slice a l.length c] w fun e w' => e = .returned (.bool true) ∧ Below w.heap.size w w' :=
  faults_law l a c w hL (fit_in hw) (fun x h => (hw x h).2.2.2) hx hna
theorem wholes_law2 (l : List Nt) (a : Option Addr) (c : Nat) (w : World) (hL : Ws w) (hl : l.length ≤ 9223372036854775807) (hx : Qs.RowN w a l) (hna : a = none → c = 0) (hw : ∀ x ∈ l, wfN x) (hc : l.length ≤ c) :
    Calls Tryd.prog 4 #[.slice a l.length c] w fun e w' => e = .returned (.bool true) ∧ Below w.heap.size w w' :=
  wholes_law l a c w hL (fit_in hw) (fun x h => (hw x h).2.2.2) hx hna
theorem chains_law2 (n q t : Int) (w : World) (hL : Ws w) (hn : (Lit.int .u8 n).wf = true) (hq : (Lit.int .u8 q).wf = true) (ht : (Lit.int .u8 t).wf = true) :
    Calls Tryd.prog 6 #[.int .u8 n, .int .u8 q, .int .u8 t] w fun e w' => e = .returned (.bool true) ∧ Below w.heap.size w w' := by
  have hb : ∀ z : Int, (Lit.int .u8 z).wf = true → ∃ m : Nat, z = (m : Int) ∧ m ≤ 255 := fun z h => by
    simp only [Lit.wf, IntKind.min, IntKind.max, IntKind.signed, IntKind.bits] at h
    simp at h
    exact ⟨z.toNat, by omega, by omega⟩
  obtain ⟨n2, rfl, hn2⟩ := hb n hn
  obtain ⟨q2, rfl, hq2⟩ := hb q hq
  obtain ⟨t2, rfl, ht2⟩ := hb t ht
  exact chains_law n2 q2 t2 hn2 hq2 ht2 w hL
end Go.Proofs.YtodjccfaipkpfaaDoor.Fo
