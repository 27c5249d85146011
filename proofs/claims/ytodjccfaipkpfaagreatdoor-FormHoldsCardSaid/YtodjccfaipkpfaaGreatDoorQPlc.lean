/-
  Where the node with each dot is: the program's map; Find.
-/
import Derived.Test.YtodjccfaipkpfaaGreatDoorMQAsk
import Derived.Test.YtodjccfaipkpfaaGreatDoorMQMap
import Derived.Test.YtodjccfaipkpfaaGreatDoorMNPure
namespace Go.Proofs.YtodjccfaipkpfaaGreatDoor.Qs
set_option linter.unusedVariables false
open Go.RowKit V Go.Sort D Nd
attribute [local irreducible] Sch.heldN Sch.stepV Sch.stepE

def fitN (n : Nt) : Prop := fitD n.1 ∧ fitD n.2.1
theorem uInt : Tryz.prog.underlying 49 = some (.map 33 3) := Tryz.underlying49
theorem zInt (w : World) : (zeroValue 3).run Tryz.prog w = .ok (elInt.e elInt.x0) w := Tryz.zeroValue3 w
theorem idx_nil : idxG [] = fun _ => none := rfl
theorem run_mk (n : Nat) (w : World) : (Instr.makeMap 49 (some (.int .i64 (n : Int)))).run Tryz.prog w = .ok (.map (some w.heap.size)) (w.alloc (.map #[] 0)) := by
  simp [Instr.makeMap, run_underlying Tryz.underlying49, asInt, asIntOf, Result.andThen]
theorem idx_step {l : List Nt} {k : Nat} (h : DN l) (hk : k < l.length) : putF (idxG (l.take k)) l[k].1 (k : Int) = idxG (l.take (k + 1)) := by
  funext d
  rw [idxG_take h hk d]
  rfl
set_option maxRecDepth 100000 in
set_option maxHeartbeats 2000000 in
theorem places_any (l : List Nt) (a : Option Addr) (c : Nat) (w : World) (hs : DN l) (hf : ∀ x ∈ l, fitN x) (hx : RowN w a l) (hlx : l.length ≤ 1000000) :
    Calls Tryz.prog 19 #[.slice a l.length c] w fun e w' => ∃ b, e = .returned (.map (some b)) ∧ w.heap.size ≤ b ∧ Dm elInt w' b 1000000 (idxG l) ∧ Below w.heap.size w w' := by
  have HX := Lib.hid hx
  have HS := Lib.hid hs
  have HF := Lib.hid hf
  have hli : (l.length : Int) ≤ 1000000 := by omega
  have HL := Lib.hid hlx
  have hmk := run_mk l.length
  have HM0 : Hid (Dm elInt (w.alloc (.map #[] 0)) w.heap.size 0 (idxG (l.take 0))) := Dm.made w
  have HB0 : Hid (Below w.heap.size w (w.alloc (.map #[] 0))) := bel_box w _
  clear hx hlx hs hf
  go_enter Tryz.func19, Tryz.ntmps19
  go_wp2_with fail
  go_loopw [4, 5, 11] (fun _ _ i wr => ∃ k : Nat, k ≤ l.length ∧ i = .int .i64 (k : Int) ∧ Hid (Below w.heap.size w wr) ∧ Hid (Dm elInt wr w.heap.size k (idxG (l.take k)))) (fun _ _ i _ => l.length - (intOf i).toNat)
  case atStart => exact ⟨0, Nat.zero_le _, rfl, HB0, HM0⟩
  case round =>
    obtain ⟨k, hk, rfl, hh, HM⟩ := hrel
    by_cases hlt : k < l.length
    · have hi0 : (k : Int) < (l.length : Int) := by omega
      obtain ⟨b1, o1, rfl, hna⟩ := na_of (HX.out.keep hh.out) k hlt
      have HIs := Lib.hid (idx_step HS.out hlt)
      have HFq := Lib.hid (HF.out l[k] (List.getElem_mem hlt)).1
      obtain ⟨q, hq⟩ : ∃ q, q = l[k] := ⟨_, rfl⟩
      rw [← hq] at hna HIs HFq
      clear hq
      have HB := bel_tr hh (bel_box wr (.cells (nc q) 35))
      have HM1 := Lib.hid (HM.out.keep (bel_box wr (.cells (nc q) 35)))
      have HN := Lib.hid (show k < maxLen by unfold maxLen; have := HL.out; omega)
      obtain ⟨h0, h1, h2, h3, h4, h5⟩ := hna
      obtain ⟨⟨q1, q2⟩, ⟨q3, q4⟩, q5, q6⟩ := q
      go_wp2_with (at_mapUpdate; refine wpList_putD elInt rfl _ _ _ _ rfl 3 uInt w.heap.size k _ rfl HM1.out HN.out (q1, q2) (k : Int) rfl rfl HFq.out ?_; intro w3 hm hg)
      have HM3 : Hid (Dm elInt w3 w.heap.size (k + 1) (idxG (l.take (k + 1)))) := HIs.out ▸ hm
      have HB3 := Lib.hid (below_gb HB.out hg HB.out.size (Nat.le_refl _))
      clear hm hg h0 h1 h2 h3 h4 h5
      go_roundw
      case rel => exact ⟨k + 1, by omega, by go_num, HB3, HM3⟩
      case measure => simp [intOf]; omega
    · obtain rfl : k = l.length := by omega
      have hend : ¬ (l.length : Int) < (l.length : Int) := by omega
      have HM2 : Hid (Dm elInt wr w.heap.size 1000000 (idxG l)) := by
        have := HM.out.mono HL.out
        rw [List.take_length] at this
        exact this
      go_wp2_with fail
      go_ret
      exact ⟨_, rfl, Nat.le_refl _, HM2.out, hh.out⟩

/-! ### Find -/
def findS (l : List Nt) (d : Dt) : Nt × Int := if (validS l && validR d) = true then (match atS l d with | none => (zeroN, (9 : Int)) | some n => (n, 0)) else (zeroN, 2)
/-- The dot's box, and a zero node's that may be written. -/
def Fd (g : Nat) (d : Dt) (w : World) : Prop := w.cell? ⟨g, 0, none⟩ = some (.int .i64 d.1) ∧ w.cell? ⟨g, 1, none⟩ = some (.int .i64 d.2) ∧ Zb w (g + 1)
theorem Fd.keep {g : Nat} {d : Dt} {w w' : World} (h : Fd g d w) (hb : Below w.heap.size w w') : Fd g d w' :=
  ⟨(hb.cell (p := ⟨g, 0, none⟩) (lt_of_cell h.1)).trans h.1, (hb.cell (p := ⟨g, 1, none⟩) (lt_of_cell h.2.1)).trans h.2.1, h.2.2.keep hb⟩
theorem Fd.new (d : Dt) (w : World) : Fd w.heap.size d ((w.alloc (.cells #[.int .i64 d.1, .int .i64 d.2] 33)).alloc (.cells #[.int .i64 0, .int .i64 0, .int .i64 0, .int .i64 0, .int .i64 0, .int .i32 0] 35)) := by
  have h := Zb.new (w.alloc (.cells #[.int .i64 d.1, .int .i64 d.2] 33))
  rw [show (w.alloc (.cells #[.int .i64 d.1, .int .i64 d.2] 33)).heap.size = w.heap.size + 1 by simp] at h
  refine ⟨?_, ?_, h⟩ <;> go_simp
theorem Fd.l {g : Nat} {d : Dt} : ∀ w, Fd g d w → (Instr.loadAt 33 (.pointer (some ⟨g, 0, none⟩))).run Tryz.prog w = .ok (dv d) w := fun w h => load_dot h.1 h.2.1
theorem Fd.z {g : Nat} {d : Dt} {w : World} (h : Fd g d w) : (w.cell? ⟨g + 1, 0, none⟩ = some (.int .i64 0) ∧ w.cell? ⟨g + 1, 1, none⟩ = some (.int .i64 0) ∧ w.cell? ⟨g + 1, 2, none⟩ = some (.int .i64 0) ∧ w.cell? ⟨g + 1, 3, none⟩ = some (.int .i64 0) ∧ w.cell? ⟨g + 1, 4, none⟩ = some (.int .i64 0) ∧ w.cell? ⟨g + 1, 5, none⟩ = some (.int .i32 0)) ∧
    w.frozen? ⟨g + 1, 0, none⟩ = false ∧ w.frozen? ⟨g + 1, 1, none⟩ = false ∧ w.frozen? ⟨g + 1, 2, none⟩ = false ∧ w.frozen? ⟨g + 1, 3, none⟩ = false ∧ w.frozen? ⟨g + 1, 4, none⟩ = false ∧ w.frozen? ⟨g + 1, 5, none⟩ = false := ⟨h.2.2.1, h.2.2.2 0, h.2.2.2 1, h.2.2.2 2, h.2.2.2 3, h.2.2.2 4, h.2.2.2 5⟩
theorem bel_two2 (w : World) (o p : Obj) : Below w.heap.size w ((w.alloc o).alloc p) := (bel_box _ _).alloc (by simp) _

end Go.Proofs.YtodjccfaipkpfaaGreatDoor.Qs
