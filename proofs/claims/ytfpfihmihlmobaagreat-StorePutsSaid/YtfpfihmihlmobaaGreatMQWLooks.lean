/-
  The law StoreLooks, as the row's frame asks for it.
-/
import Derived.Test.YtfpfihmihlmobaaGreatMQLLooks
import Derived.Test.YtfpfihmihlmobaaGreatQIn
import Derived.Test.YtfpfihmihlmobaaGreatInD

section
namespace Go.Proofs.YtfpfihmihlmobaaGreat.Qs
set_option linter.unusedVariables false
open Go.RowKit V D Nd

theorem fit_wf {d : Dt} (h : wfD d) : fitD d := by
  obtain ⟨⟨h1, h2⟩, h3, h4⟩ := h
  refine ⟨?_, ?_⟩ <;> (have e1 : IntKind.i64.min = -9223372036854775808 := (by decide); have e2 : IntKind.i64.max = 9223372036854775807 := (by decide); simp [Lit.wf, e1, e2]; omega)
theorem fit_in {l : List Nt} (hw : ∀ x ∈ l, wfN x) : ∀ x ∈ l, fitN x := fun x h => ⟨fit_wf (hw x h).1, fit_wf (hw x h).2.1⟩
theorem looks_law2 (l : List Nt) (a : Option Addr) (c : Nat) (w : World) (hl : l.length ≤ 9223372036854775807) (hx : RowN w a l) (hn : a = none → c = 0) (hw : ∀ x ∈ l, wfN x) (hc : l.length ≤ c) :
    Calls Tryz.prog 6 #[.slice a l.length c] w fun e w' => e = .returned (.bool true) ∧ Below w.heap.size w w' :=
  looks_law l a c w (fit_in hw) (fun x h => (hw x h).2.2.2) hx hl
end Go.Proofs.YtfpfihmihlmobaaGreat.Qs
end

/-
  The law StoreKills, as the row's frame asks for it.
-/
section
namespace Go.Proofs.YtfpfihmihlmobaaGreat.Qs
set_option linter.unusedVariables false
open Go.RowKit V D Nd

theorem kills_law2 (l : List Nt) (a : Option Addr) (c : Nat) (ds : List Dt) (b : Option Addr) (n : Nat) (w : World) (hl : l.length ≤ 9223372036854775807) (hx : RowN w a l) (hna : a = none → c = 0) (hw : ∀ x ∈ l, wfN x) (hc : l.length ≤ c) (hl2 : ds.length ≤ 9223372036854775807) (hy : RowD w b ds) (hnb : b = none → n = 0) (hw2 : ∀ x ∈ ds, wfD x) (hc2 : ds.length ≤ n) :
    Calls Tryz.prog 5 #[.slice a l.length c, .slice b ds.length n] w fun e w' => e = .returned (.bool true) ∧ Below w.heap.size w w' :=
  kills_law l ds a b c n w (fit_in hw) (fun x h => (hw x h).2.2.2) (fun x h => fit_wf (hw2 x h)) hx hy hna hnb hl hl2
end Go.Proofs.YtfpfihmihlmobaaGreat.Qs
end
