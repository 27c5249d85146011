/-
  The program's counters: what they are, plainly; the vector with these counters.
-/
import Derived.Test.YtgopkffgljiblaaGreatMEVal
import Derived.Deep.WholeRow
import Derived.Deep.MidRow
namespace Go.Proofs.YtgopkffgljiblaaGreat.E
set_option linter.unusedVariables false
open Go.RowKit V Go.Sort D

/-- The counters of 65 replicas as the cells of one value. -/
def Cn (cs : List Value) (f : Nat → Int) : Prop := cs.length = 65 ∧ ∀ i, i < 65 → cs[i]? = some (.int .i64 (f i))
/-- The dots of the replicas from k up to 64 whose counter is not 0. -/
def vecFrom (f : Nat → Int) (k : Nat) : List Dt := (List.range' k (65 - k)).filterMap fun i => if 0 < f i then some ((i : Int), f i) else none
theorem vec_step {f : Nat → Int} {k : Nat} (h : k < 65) : vecFrom f k = (if 0 < f k then [((k : Int), f k)] else []) ++ vecFrom f (k + 1) := by
  unfold vecFrom
  obtain ⟨n, hn⟩ : ∃ n, 65 - k = n + 1 := ⟨64 - k, by omega⟩
  rw [hn, show 65 - (k + 1) = n by omega, List.range'_succ, List.filterMap_cons]
  split
  · rename_i e
    split at e
    · cases e
    · rename_i h; rw [if_neg h]; rfl
  · rename_i b e
    split at e
    · rename_i h; rw [if_pos h]; cases e; rfl
    · cases e
theorem vec_end {f : Nat → Int} {k : Nat} (h : 65 ≤ k) : vecFrom f k = [] := by
  unfold vecFrom
  rw [show 65 - k = 0 by omega]
  rfl

theorem info_cn : (Tryz.prog.info? 106).map (·.size) = some 65 := by kernel_rfl
theorem index_cn {cs : List Value} {f : Nat → Int} (h : Cn cs f) {k : Nat} (hk : k < 65) : ∀ w, (Instr.index 106 (.agg cs.toArray) (.int .i64 (k : Int))).run Tryz.prog w = .ok (.int .i64 (f k)) w := by
  intro w
  have h1 := h.2 k hk
  have u := Tryz.underlying106
  have u3 := Tryz.underlying3
  have a3 := Tryz.isAgg3
  have z3 := Tryz.sizeOf3
  have hk2 : (k : Int) < 65 := by omega
  have h2 : cs.toArray[k]? = some (.int .i64 (f k)) := by simpa using h1
  simp [Instr.index, asIntOf, run_underlying u, part, a3, z3, h1, hk, Sem.run_bind, Result.andThen]

theorem range_new (w : World) (cs : List Value) (t : TypeId) : (w.alloc (.cells cs.toArray t)).rangeAt w.heap.size 0 cs := by
  intro j v hj
  have hh : (w.alloc (.cells cs.toArray t)).heap[w.heap.size]? = some (.cells cs.toArray t (0, 0)) := by show (w.heap.push _)[w.heap.size]? = _; simp
  simp only [World.cell?, hh]
  rw [if_neg (by simp), Nat.zero_add]
  simpa using hj
set_option maxRecDepth 100000 in
set_option maxHeartbeats 1000000 in
theorem vector_any (f : Nat → Int) (cs : List Value) (w : World) (hc : Cn cs f) :
    Calls Tryz.prog 84 #[.agg cs.toArray] w fun e w' => ∃ v, e = .returned v ∧ OD w' w.heap.size E v (vecFrom f 0) ∧ Below w.heap.size w w' := by
  have HC := Lib.hid hc
  have HR := Lib.hid (range_new w cs 106)
  have hi : (Tryz.prog.info? 106).map (·.size) = some cs.length := by rw [info_cn, hc.1]
  have HI := Lib.hid hi
  clear hc hi
  generalize hA : cs.toArray = A at *
  have HA := Lib.hid hA
  clear hA
  go_enter Tryz.func84, Tryz.ntmps84
  go_wp2_with (refine wpList_load_mid rfl 106 (.tmp 1) rfl w.heap.size 0 rfl cs _ HR.out Tryz.underlying106 rfl HI.out ?_; rw [HA.out])
  have hB : Below w.heap.size w (w.alloc (Obj.cells A 106)) := (Below.refl _ _).alloc (Nat.le_refl _) _
  generalize w.alloc (Obj.cells A 106) = w1 at *
  have HB := Lib.hid hB
  clear hB HR HI
  go_loopw [7, 3] (fun i v wr => ∃ (k : Nat) (acc : List Dt), k ≤ 65 ∧ i = .int .i64 (k : Int) ∧ Hid (Below w.heap.size w wr) ∧ Hid (OD wr w.heap.size E v acc) ∧ Hid (vecFrom f 0 = acc ++ vecFrom f k) ∧ Hid (acc.length ≤ k)) (fun i _ _ => 65 - (intOf i).toNat)
  case atStart => exact ⟨0, [], by omega, rfl, HB, OD.nil _ _ _, by show _ = _; simp, Nat.zero_le _⟩
  case round =>
    obtain ⟨k, acc, hk, rfl, hh, HO, HF, HL⟩ := hrel
    obtain ⟨a2, c2, rfl, -⟩ := HO.out.row
    by_cases hlt : k < 65
    · have hi0 : (k : Int) < 65 := by omega
      have hix := index_cn HC.out hlt
      rw [HA.out] at hix
      have HS := Lib.hid (vec_step (f := f) hlt)
      generalize f k = x at *
      by_cases hp : 0 < x
      · have HF2 : Hid (vecFrom f 0 = (acc ++ [((k : Int), x)]) ++ vecFrom f (k + 1)) := by show _ = _; rw [HF.out, HS.out, if_pos hp]; simp
        clear HF HS
        go_wp2_with (at_builtin; refine wpList_appD rfl _ _ _ rfl Tryz.underlying23 infoD _ _ rfl (HO.out.below ((Below.refl _ _).alloc (Nat.le_refl _) _)) (some ⟨wr.heap.size, 0, none⟩) [((k : Int), x)] 1 rfl (lit_one wr ((k : Int), x) _) (fun h => by cases h) (by have := HL.out; simp; omega) (hh.out.alloc hh.out.size _).size ?_)
        intro v2 w2 ho hg _
        replace hh := Lib.hid ((hh.out.alloc hh.out.size (Obj.cells #[Value.int IntKind.i64 (k : Int), Value.int IntKind.i64 x] 48)).grown hg (hh.out.alloc hh.out.size _).size (fun j hj => (HO.out.lt j hj).1))
        replace HO := Lib.hid ho
        clear ho hg
        go_wp2_with fail
        go_roundw
        case rel => exact ⟨k + 1, _, by omega, by go_num, hh, HO, HF2, by show _ ≤ _; have := HL.out; simp; omega⟩
        case measure => simp [intOf]; omega
      · have HF2 : Hid (vecFrom f 0 = acc ++ vecFrom f (k + 1)) := by show _ = _; rw [HF.out, HS.out, if_neg hp]; simp
        clear HF HS
        go_wp2_with fail
        go_roundw
        case rel => exact ⟨k + 1, _, by omega, by go_num, hh, HO, HF2, by show _ ≤ _; have := HL.out; omega⟩
        case measure => simp [intOf]; omega
    · obtain rfl : k = 65 := by omega
      have e : vecFrom f 0 = acc := by rw [HF.out, vec_end (Nat.le_refl _), List.append_nil]
      go_wp2_with fail
      go_ret
      rw [e]
      exact ⟨_, rfl, HO.out, hh.out⟩
end Go.Proofs.YtgopkffgljiblaaGreat.E
