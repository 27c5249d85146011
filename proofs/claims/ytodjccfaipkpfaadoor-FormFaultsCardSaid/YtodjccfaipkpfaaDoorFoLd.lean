/-
  What the rows' condition says of the table; a start that meets it.
-/
import Derived.Test.YtodjccfaipkpfaaDoorRows
import Derived.Test.YtodjccfaipkpfaaDoorMFoH
import Derived.Lib.LaidTab
import Derived.Stop.Joined
import Derived.LaidMore
import Derived.Lay
namespace Go.Proofs.YtodjccfaipkpfaaDoor.Fo
set_option linter.unusedVariables false
open Go.RowKit Go.Lib V

/-- An array of strings that reads as a table of strings holds these strings, cell for cell. -/
theorem cells_of_strs {H : Type} {enc : TypeId × Value → H} {P : Program} {w : World} {base : Nat} {sp : Nat → Bool} {held : Bool} {fuel : Nat} {t e : TypeId} {n : Nat} {cs : List Value} {zs : List (List UInt8)} {p : List MemPlace}
    (ht : P.underlying t = some (.array n e)) (he : P.underlying e = some .string) (hce : P.cellsOf e = 1) (hct : P.cellsOf t = n)
    (h : DataW.trod enc P w base sp held fuel t cs = some (.agg (zs.map fun z => .lit (.string z)), p)) : cs = zs.map fun z => Value.string ⟨z.toArray⟩ := by
  cases fuel with
  | zero => simp [DataW.trod] at h
  | succ fuel =>
    simp only [DataW.trod, ht, hce, hct, Nat.mul_one] at h
    split at h
    · rename_i hl
      obtain ⟨xs, hm, hx⟩ := Option.map_eq_some_iff.1 h
      have hxs : xs.map (·.1) = zs.map fun z => (DataW.lit (.string z) : DataW H) := by
        have := congrArg Prod.fst hx
        simpa using this
      have hxl : xs.length = n := by simpa using mapM_length hm
      have hzl : zs.length = n := by
        have := congrArg List.length hxs
        simp at this
        omega
      apply List.ext_getElem?
      intro i
      by_cases hi : i < n
      · obtain ⟨b, hb, hf⟩ := mapM_at hm i i (by simp [hi])
        obtain ⟨s, hc, rfl, _⟩ := DataW.trod_string he hf
        have h1 : cs[i]? = some (.string s) := by
          have := congrArg (·[0]?) hc
          simpa [List.getElem?_take, List.getElem?_drop] using this
        have h2 : (xs.map (·.1))[i]? = some (DataW.lit (.string s.data.toList) : DataW H) := by simp [hb]
        rw [hxs] at h2
        simp only [List.getElem?_map, Option.map_eq_some_iff, DataW.lit.injEq, Lit.string.injEq] at h2
        obtain ⟨z, hz, e⟩ := h2
        rw [h1]
        simp only [List.getElem?_map, hz, Option.map_some, Option.some.injEq, Value.string.injEq]
        rw [e]
      · rw [List.getElem?_eq_none (by omega), List.getElem?_eq_none (by simp; omega)]
    · cases h
theorem strs_of_head {P : Program} {W : World} {name : String} {zs : List (List UInt8)} {rest : List (String × DataW Unit)} {g : Nat} {t e : TypeId} {n : Nat}
    (hg : P.globalNamed name = some g) (hty : (P.globals[g]?).map (·.type) = some t) (ht : P.underlying t = some (.array n e)) (he : P.underlying e = some .string) (hce : P.cellsOf e = 1) (hct : P.cellsOf t = n)
    (h : laidMet P ((name, .agg (zs.map fun z => .lit (.string z))) :: rest) W) : W.var? P name = some (zs.map fun z => Value.string ⟨z.toArray⟩).toArray := by
  obtain ⟨ps, ⟨g', t', cs, fuel, p, q, hg', ht', hvar, hd, _, _⟩, _⟩ := h
  obtain rfl := Option.some.inj (hg.symm.trans hg')
  obtain rfl := Option.some.inj (hty.symm.trans ht')
  rw [hvar, ← cells_of_strs ht he hce hct hd]
theorem ld_of_laid {W : World} (h : laidMetH Tryd.prog Rows.formWordsRow.laid W) : Ws W := by
  rw [MakeChecks.laidMetH_plain _ _ _ (by kernel_rfl)] at h
  have h1 : laidMet Tryd.prog (("redpencil/shape.words", .agg (wordsL.map fun z => .lit (.string z))) :: _) W := h
  have hv := strs_of_head (g := 0) (by kernel_rfl) (by kernel_rfl) Tryd.underlying59 Tryd.underlying9 (by kernel_rfl) (by kernel_rfl) h1
  exact ⟨World.var?_cell (by kernel_rfl) hv 0, World.var?_cell (by kernel_rfl) hv 1, World.var?_cell (by kernel_rfl) hv 2, World.var?_cell (by kernel_rfl) hv 3, World.var?_cell (by kernel_rfl) hv 4⟩
/-- A start that meets the condition. -/
theorem start_met (os : Os) (args : Array Value) : laidMetH Tryd.prog Rows.formWordsRow.laid ((World.laidAll Tryd.prog os Rows.formWordsRow.laid).forCall (fun _ _ => 0) ⟨#[], args, []⟩).memory := by
  rw [MakeChecks.laidMetH_plain _ _ _ (by kernel_rfl)]
  exact laidMet_laidAll _ (by kernel_rfl) (by kernel_rfl)
end Go.Proofs.YtodjccfaipkpfaaDoor.Fo
