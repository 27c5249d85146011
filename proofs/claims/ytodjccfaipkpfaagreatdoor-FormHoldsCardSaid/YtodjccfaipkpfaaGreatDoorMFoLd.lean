/-
  What the rows' condition says of the table; a start that meets it.
-/
import Derived.Test.YtodjccfaipkpfaaGreatDoorRows
import Derived.Test.YtodjccfaipkpfaaGreatDoorMFoH
import Derived.Lib.LaidTab
import Derived.Stop.Joined
import Derived.LaidMore
import Derived.Lay
import Derived.Test.YtodjccfaipkpfaaGreatDoorMQPX
import Derived.Test.YtodjccfaipkpfaaGreatDoorMInD

section
namespace Go.Proofs.YtodjccfaipkpfaaGreatDoor.Fo
set_option linter.unusedVariables false
open Go.RowKit Go.Lib V

/-- An array of strings that reads as a table of strings holds these strings, cell for cell. -/
theorem cells_of_strs {H : Type} {enc : TypeId × Value → H} {P : Program} {w : World} {base : Nat} {sp : Nat → Bool} {held : Bool} {fuel : Nat} {t e : TypeId} {n : Nat} {cs : List Value} {zs : List (List UInt8)} {p : List MemPlace}
    (ht : P.underlying t = some (.array n e)) (he : P.underlying e = some .string) (hce : P.cellsOf e = 1) (hct : P.cellsOf t = n)
    (h : DataW.trod enc P w base sp held fuel t cs = some (.agg (zs.map fun z => .lit (.string z)), p)) : cs = zs.map fun z => Value.string ⟨z.toArray⟩ := by
  cases fuel with
  | zero => simp [DataW.trod] at h
  | succ fuel =>
    simp only [DataW.trod, ht, hce, hct, Nat.mul_one] at h
    split at h
    · rename_i hl
      obtain ⟨xs, hm, hx⟩ := Option.map_eq_some_iff.1 h
      have hxs : xs.map (·.1) = zs.map fun z => (DataW.lit (.string z) : DataW H) := by
        have := congrArg Prod.fst hx
        simpa using this
      have hxl : xs.length = n := by simpa using mapM_length hm
      have hzl : zs.length = n := by
        have := congrArg List.length hxs
        simp at this
        omega
      apply List.ext_getElem?
      intro i
      by_cases hi : i < n
      · obtain ⟨b, hb, hf⟩ := mapM_at hm i i (by simp [hi])
        obtain ⟨s, hc, rfl, _⟩ := DataW.trod_string he hf
        have h1 : cs[i]? = some (.string s) := by
          have := congrArg (·[0]?) hc
          simpa [List.getElem?_take, List.getElem?_drop] using this
        have h2 : (xs.map (·.1))[i]? = some (DataW.lit (.string s.data.toList) : DataW H) := by simp [hb]
        rw [hxs] at h2
        simp only [List.getElem?_map, Option.map_eq_some_iff, DataW.lit.injEq, Lit.string.injEq] at h2
        obtain ⟨z, hz, e⟩ := h2
        rw [h1]
        simp only [List.getElem?_map, hz, Option.map_some, Option.some.injEq, Value.string.injEq]
        rw [e]
      · rw [List.getElem?_eq_none (by omega), List.getElem?_eq_none (by simp; omega)]
    · cases h
theorem strs_of_head {P : Program} {W : World} {name : String} {zs : List (List UInt8)} {rest : List (String × DataW Unit)} {g : Nat} {t e : TypeId} {n : Nat}
    (hg : P.globalNamed name = some g) (hty : (P.globals[g]?).map (·.type) = some t) (ht : P.underlying t = some (.array n e)) (he : P.underlying e = some .string) (hce : P.cellsOf e = 1) (hct : P.cellsOf t = n)
    (h : laidMet P ((name, .agg (zs.map fun z => .lit (.string z))) :: rest) W) : W.var? P name = some (zs.map fun z => Value.string ⟨z.toArray⟩).toArray := by
  obtain ⟨ps, ⟨g', t', cs, fuel, p, q, hg', ht', hvar, hd, _, _⟩, _⟩ := h
  obtain rfl := Option.some.inj (hg.symm.trans hg')
  obtain rfl := Option.some.inj (hty.symm.trans ht')
  rw [hvar, ← cells_of_strs ht he hce hct hd]
theorem ld_of_laid {W : World} (h : laidMetH Tryz.prog Rows.formHoldsRow.laid W) : Ws W := by
  rw [MakeChecks.laidMetH_plain _ _ _ (by kernel_rfl)] at h
  have h1 : laidMet Tryz.prog (("redpencil/shape.words", .agg (wordsL.map fun z => .lit (.string z))) :: _) W := h
  have hv := strs_of_head (g := 0) (by kernel_rfl) (by kernel_rfl) Tryz.underlying67 Tryz.underlying9 (by kernel_rfl) (by kernel_rfl) h1
  exact ⟨World.var?_cell (by kernel_rfl) hv 0, World.var?_cell (by kernel_rfl) hv 1, World.var?_cell (by kernel_rfl) hv 2, World.var?_cell (by kernel_rfl) hv 3, World.var?_cell (by kernel_rfl) hv 4⟩
/-- A start that meets the condition. -/
theorem start_met (os : Os) (args : Array Value) : laidMetH Tryz.prog Rows.formHoldsRow.laid ((World.laidAll Tryz.prog os Rows.formHoldsRow.laid).forCall (fun _ _ => 0) ⟨#[], args, []⟩).memory := by
  rw [MakeChecks.laidMetH_plain _ _ _ (by kernel_rfl)]
  exact laidMet_laidAll _ (by kernel_rfl) (by kernel_rfl)
end Go.Proofs.YtodjccfaipkpfaaGreatDoor.Fo
end

/-
  The law FormHolds, as the row's frame asks for it.
-/
section
namespace Go.Proofs.YtodjccfaipkpfaaGreatDoor.Fo
set_option linter.unusedVariables false
open Go.RowKit V D Nd Qs

theorem lit64f {z : Int} (h1 : -9223372036854775808 ≤ z) (h2 : z ≤ 9223372036854775807) : (Lit.int .i64 z).wf = true := by
  simp only [Lit.wf, IntKind.min, IntKind.max, IntKind.signed, IntKind.bits]
  simp
  omega
theorem fit_wf {d : Dt} (h : wfD d) : fitD d := ⟨lit64f h.1.1 h.1.2, lit64f h.2.1 h.2.2⟩
theorem fit_in {l : List Nt} (hw : ∀ x ∈ l, wfN x) : ∀ x ∈ l, fitN x := fun x h => ⟨fit_wf (hw x h).1, fit_wf (hw x h).2.1⟩
theorem holds_law2 (l : List Nt) (a : Option Addr) (c : Nat) (w : World) (hL : Ws w) (hl : l.length ≤ 9223372036854775807) (hx : Qs.RowN w a l) (hna : a = none → c = 0) (hw : ∀ x ∈ l, wfN x) (hc : l.length ≤ c) :
    Calls Tryz.prog 3 #[.slice a l.length c] w fun e w' => e = .returned (.bool true) ∧ Below w.heap.size w w' :=
  holds_law l a c w hL (fit_in hw) hx hna
end Go.Proofs.YtodjccfaipkpfaaGreatDoor.Fo
end
