/-
  Where the node with each dot is: the program's map; Find.
-/
import Derived.Test.YtkcbekebleodaaaGreatMQAsk
import Derived.Test.YtkcbekebleodaaaGreatMQMap
import Derived.Test.YtkcbekebleodaaaGreatMNPure

section
namespace Go.Proofs.YtkcbekebleodaaaGreat.Qs
set_option linter.unusedVariables false
open Go.RowKit V Go.Sort D Nd
attribute [local irreducible] Sch.heldN Sch.stepV Sch.stepE

def fitN (n : Nt) : Prop := fitD n.1 ∧ fitD n.2.1
theorem uInt : Tryz.prog.underlying 99 = some (.map 25 3) := Tryz.underlying99
theorem zInt (w : World) : (zeroValue 3).run Tryz.prog w = .ok (elInt.e elInt.x0) w := Tryz.zeroValue3 w
theorem run_mk (n : Nat) (w : World) : (Instr.makeMap 99 (some (.int .i64 (n : Int)))).run Tryz.prog w = .ok (.map (some w.heap.size)) (w.alloc (.map #[] 0)) := by
  simp [Instr.makeMap, run_underlying Tryz.underlying99, asInt, asIntOf, Result.andThen]
theorem idx_step {l : List Nt} {k : Nat} (h : DN l) (hk : k < l.length) : putF (idxG (l.take k)) l[k].1 (k : Int) = idxG (l.take (k + 1)) := by
  funext d
  rw [idxG_take h hk d]
  rfl
set_option maxRecDepth 100000 in
set_option maxHeartbeats 2000000 in
theorem places_any (l : List Nt) (a : Option Addr) (c : Nat) (w : World) (hs : DN l) (hf : ∀ x ∈ l, fitN x) (hx : RowN w a l) (hlx : l.length ≤ 1000000) :
    Calls Tryz.prog 73 #[.slice a l.length c] w fun e w' => ∃ b, e = .returned (.map (some b)) ∧ w.heap.size ≤ b ∧ Dm elInt w' b 1000000 (idxG l) ∧ Below w.heap.size w w' := by
  have HX := Lib.hid hx
  have HS := Lib.hid hs
  have HF := Lib.hid hf
  have hli : (l.length : Int) ≤ 1000000 := by omega
  have HL := Lib.hid hlx
  have hmk := run_mk l.length
  have HM0 : Hid (Dm elInt (w.alloc (.map #[] 0)) w.heap.size 0 (idxG (l.take 0))) := Dm.made w
  have HB0 : Hid (Below w.heap.size w (w.alloc (.map #[] 0))) := bel_box w _
  clear hx hlx hs hf
  go_enter Tryz.func73, Tryz.ntmps73
  go_wp2_with fail
  go_loopw [4, 5, 11] (fun _ _ i wr => ∃ k : Nat, k ≤ l.length ∧ i = .int .i64 (k : Int) ∧ Hid (Below w.heap.size w wr) ∧ Hid (Dm elInt wr w.heap.size k (idxG (l.take k)))) (fun _ _ i _ => l.length - (intOf i).toNat)
  case atStart => exact ⟨0, Nat.zero_le _, rfl, HB0, HM0⟩
  case round =>
    obtain ⟨k, hk, rfl, hh, HM⟩ := hrel
    by_cases hlt : k < l.length
    · have hi0 : (k : Int) < (l.length : Int) := by omega
      obtain ⟨b1, o1, rfl, hna⟩ := na_of (HX.out.keep hh.out) k hlt
      have HIs := Lib.hid (idx_step HS.out hlt)
      have HFq := Lib.hid (HF.out l[k] (List.getElem_mem hlt)).1
      obtain ⟨q, hq⟩ : ∃ q, q = l[k] := ⟨_, rfl⟩
      rw [← hq] at hna HIs HFq
      clear hq
      have HB := bel_tr hh (bel_box wr (.cells (nc q) 53))
      have HM1 := Lib.hid (HM.out.keep (bel_box wr (.cells (nc q) 53)))
      have HN := Lib.hid (show k < maxLen by unfold maxLen; have := HL.out; omega)
      obtain ⟨h0, h1, h2, h3, h4, h5⟩ := hna
      obtain ⟨⟨q1, q2⟩, ⟨q3, q4⟩, q5, q6⟩ := q
      go_wp2_with (at_mapUpdate; refine wpList_putD elInt rfl _ _ _ _ rfl 3 uInt w.heap.size k _ rfl HM1.out HN.out (q1, q2) (k : Int) rfl rfl HFq.out ?_; intro w3 hm hg)
      have HM3 : Hid (Dm elInt w3 w.heap.size (k + 1) (idxG (l.take (k + 1)))) := HIs.out ▸ hm
      have HB3 := Lib.hid (below_gb HB.out hg HB.out.size (Nat.le_refl _))
      clear hm hg h0 h1 h2 h3 h4 h5
      go_roundw
      case rel => exact ⟨k + 1, by omega, by go_num, HB3, HM3⟩
      case measure => simp [intOf]; omega
    · obtain rfl : k = l.length := by omega
      have hend : ¬ (l.length : Int) < (l.length : Int) := by omega
      have HM2 : Hid (Dm elInt wr w.heap.size 1000000 (idxG l)) := by
        have := HM.out.mono HL.out
        rw [List.take_length] at this
        exact this
      go_wp2_with fail
      go_ret
      exact ⟨_, rfl, Nat.le_refl _, HM2.out, hh.out⟩

/-! ### Find -/

end Go.Proofs.YtkcbekebleodaaaGreat.Qs
end

/-
  The program's list: where the node with each dot is first; what is wrong with a node.
-/
section
namespace Go.Proofs.YtkcbekebleodaaaGreat.Fo
set_option linter.unusedVariables false
open Go.RowKit V Go.Sort D Nd Qs Wk
attribute [local irreducible] Sch.heldN Sch.stepV Sch.stepE

theorem idxG_old {l : List Nt} {n : Nt} (h : atS l n.1 ≠ none) : idxG (l ++ [n]) = idxG l := by
  funext d
  unfold idxG
  rw [List.findIdx?_append]
  by_cases hd : d = n.1
  · subst hd
    rcases hf : List.findIdx? (fun x : Nt => decide (x.1 = n.1)) l with _ | z
    · exfalso
      apply h
      rw [← idxG_none]
      unfold idxG
      rw [hf]
      rfl
    · rfl
  · have h1 : List.findIdx? (fun x : Nt => decide (x.1 = d)) [n] = none := by
      rw [List.findIdx?_eq_none_iff]; intro x hx; simp at hx; subst hx; simpa using fun e => hd e.symm
    rw [h1]
    simp
theorem take_one {l : List Nt} {k : Nat} (hk : k < l.length) : l.take (k + 1) = l.take k ++ [l[k]] := by rw [List.take_add_one, List.getElem?_eq_getElem hk]; rfl
theorem first_new {l : List Nt} {k : Nat} (hk : k < l.length) (h : idxG (l.take k) l[k].1 = none) : putF (idxG (l.take k)) l[k].1 (k : Int) = idxG (l.take (k + 1)) := by
  funext d
  rw [take_one hk, idxG_app (idxG_none.1 h), List.length_take, Nat.min_eq_left (Nat.le_of_lt hk)]
  rfl
theorem first_old {l : List Nt} {k : Nat} (hk : k < l.length) {z : Int} (h : idxG (l.take k) l[k].1 = some z) : idxG (l.take (k + 1)) = idxG (l.take k) := by
  rw [take_one hk]
  exact idxG_old fun e => by rw [← idxG_none, h] at e; cases e

/-- The program's list, as a value; in a box; a box with nothing in it that may be written. -/
abbrev lv (a : Option Addr) (n c b : Nat) : Value := .agg #[.slice a n c, .map (some b)]
def Lb (w : World) (g : Nat) (a : Option Addr) (n c b : Nat) : Prop := w.cell? ⟨g, 0, none⟩ = some (.slice a n c) ∧ w.cell? ⟨g, 1, none⟩ = some (.map (some b))
theorem Lb.keep {w w' : World} {g n c b : Nat} {a : Option Addr} (h : Lb w g a n c b) (hb : Below w.heap.size w w') : Lb w' g a n c b :=
  ⟨(hb.cell (p := ⟨g, 0, none⟩) (lt_of_cell h.1)).trans h.1, (hb.cell (p := ⟨g, 1, none⟩) (lt_of_cell h.2)).trans h.2⟩
theorem Lb.new (w : World) (a : Option Addr) (n c b : Nat) : Lb (w.alloc (.cells #[.slice a n c, .map (some b)] 111)) w.heap.size a n c b := by
  constructor <;> go_simp
def Zl (w : World) (g : Nat) : Prop := w.cell? ⟨g, 0, none⟩ = some (.slice none 0 0) ∧ w.cell? ⟨g, 1, none⟩ = some (.map none) ∧ ∀ o, w.frozen? ⟨g, o, none⟩ = false
theorem Zl.keep {w w' : World} {g : Nat} (h : Zl w g) (hb : Below w.heap.size w w') : Zl w' g :=
  ⟨(hb.cell (p := ⟨g, 0, none⟩) (lt_of_cell h.1)).trans h.1, (hb.cell (p := ⟨g, 1, none⟩) (lt_of_cell h.2.1)).trans h.2.1, fun o => (hb.frozen (p := ⟨g, o, none⟩) (show g < w.heap.size from lt_of_cell h.1)).trans (h.2.2 o)⟩
theorem Zl.new (w : World) : Zl (w.alloc (.cells #[.slice none 0 0, .map none] 111)) w.heap.size := by
  refine ⟨?_, ?_, fun o => ?_⟩ <;> go_simp
theorem zl_gb {w w' : World} {g r : Nat} (h : Zl w g) (hg : w.grownBy w' (some r)) (hne : g ≠ r) : Zl w' g := by
  have e : w'.heap[g]? = w.heap[g]? := hg.block g (lt_of_cell h.1) (by simpa using hne)
  exact ⟨(World.cell?_of_block (a := ⟨g, 0, none⟩) e).trans h.1, (World.cell?_of_block (a := ⟨g, 1, none⟩) e).trans h.2.1, fun o => (World.frozen?_of_block (a := ⟨g, o, none⟩) e).trans (h.2.2 o)⟩

set_option maxRecDepth 100000 in
set_option maxHeartbeats 4000000 in
theorem listOf_any (l : List Nt) (a : Option Addr) (c : Nat) (w : World) (hf : ∀ x ∈ l, fitN x) (hx : RowN w a l) (hlx : l.length ≤ 1000000) :
    Calls Tryz.prog 83 #[.slice a l.length c] w fun e w' => ∃ b, e = .returned (lv a l.length c b) ∧ Dm elInt w' b 1000000 (idxG l) ∧ Below w.heap.size w w' := by
  have HX := Lib.hid hx
  have HF := Lib.hid hf
  have hli : (l.length : Int) ≤ 1000000 := by omega
  have HL := Lib.hid hlx
  have hmk := run_mk l.length
  have hb1 := bel_box w (.cells #[.slice none 0 0, .map none] 111)
  have hb2 := bel_box (w.alloc (.cells #[.slice none 0 0, .map none] 111)) (.map #[] 0)
  have HM0 : Hid (Dm elInt ((w.alloc (.cells #[.slice none 0 0, .map none] 111)).alloc (.map #[] 0)) (w.heap.size + 1) 0 (idxG (l.take 0))) := by
    have h := Dm.made (L := elInt) (w.alloc (.cells #[.slice none 0 0, .map none] 111))
    rw [show (w.alloc (.cells #[.slice none 0 0, .map none] 111)).heap.size = w.heap.size + 1 by simp] at h
    exact h
  have HZ0 : Hid (Zl ((w.alloc (.cells #[.slice none 0 0, .map none] 111)).alloc (.map #[] 0)) w.heap.size) := (Zl.new w).keep hb2
  have HB0 : Hid (Below w.heap.size w ((w.alloc (.cells #[.slice none 0 0, .map none] 111)).alloc (.map #[] 0))) := bel_tr hb1 hb2
  clear hx hlx hf hb1 hb2
  go_enter Tryz.func83, Tryz.ntmps83
  go_wp2_with fail
  go_loopw [4, 5, 6, 7, 13, 18] (fun _ _ _ _ i _ wr => ∃ k : Nat, k ≤ l.length ∧ i = .int .i64 (k : Int) ∧ Hid (Below w.heap.size w wr) ∧ Hid (Zl wr w.heap.size) ∧ Hid (Dm elInt wr (w.heap.size + 1) k (idxG (l.take k)))) (fun _ _ _ _ i _ _ => l.length - (intOf i).toNat)
  case atStart => exact ⟨0, Nat.zero_le _, rfl, HB0, HZ0, HM0⟩
  case round =>
    obtain ⟨k, hk, rfl, hh, HZ, HM⟩ := hrel
    by_cases hlt : k < l.length
    · have hi0 : (k : Int) < (l.length : Int) := by omega
      obtain ⟨b1, o1, rfl, hna⟩ := na_of (HX.out.keep hh.out) k hlt
      have HNw := Lib.hid (first_new hlt)
      have HOd := Lib.hid (fun z => first_old (z := z) hlt)
      have HFq := Lib.hid (HF.out l[k] (List.getElem_mem hlt)).1
      obtain ⟨q, hq⟩ : ∃ q, q = l[k] := ⟨_, rfl⟩
      rw [← hq] at hna HNw HOd HFq
      clear hq
      have hb1 := bel_box wr (.cells (nc q) 53)
      have HB := bel_tr hh hb1
      have HM1 := Lib.hid (HM.out.keep hb1)
      have HZ1 := Lib.hid (HZ.out.keep hb1)
      have HN := Lib.hid (show k < maxLen by unfold maxLen; have := HL.out; omega)
      have hlk := HM1.out.look_ok uInt (zInt _) HFq.out
      clear hb1 HM HZ
      obtain ⟨h0, h1, h2, h3, h4, h5⟩ := hna
      rcases hz : idxG (l.take k) q.1 with _ | z
      · rw [hz] at hlk
        have hlk2 : (Instr.lookup 99 (.map (some (w.heap.size + 1))) (dv q.1) true).run Tryz.prog (wr.alloc (.cells (nc q) 53)) = .ok (.tuple #[.int .i64 0, .bool false]) (wr.alloc (.cells (nc q) 53)) := hlk
        have HNw2 := Lib.hid (HNw.out hz)
        clear hlk HNw HOd hz
        obtain ⟨⟨q1, q2⟩, ⟨q3, q4⟩, q5, q6⟩ := q
        go_wp2_with (at_mapUpdate; refine wpList_putD elInt rfl _ _ _ _ rfl 3 uInt (w.heap.size + 1) k _ rfl HM1.out HN.out (q1, q2) (k : Int) rfl rfl HFq.out ?_; intro w3 hm hg)
        have HM3 : Hid (Dm elInt w3 (w.heap.size + 1) (k + 1) (idxG (l.take (k + 1)))) := HNw2.out ▸ hm
        have HB3 := Lib.hid (below_gb HB.out hg HB.out.size (Nat.le_succ _))
        have HZ3 := Lib.hid (zl_gb HZ1.out hg (by omega))
        clear hm hg h0 h1 h2 h3 h4 h5
        go_wp2_with fail
        go_roundw
        case rel => exact ⟨k + 1, by omega, by go_num, HB3, HZ3, HM3⟩
        case measure => simp [intOf]; omega
      · rw [hz] at hlk
        have hlk2 : (Instr.lookup 99 (.map (some (w.heap.size + 1))) (dv q.1) true).run Tryz.prog (wr.alloc (.cells (nc q) 53)) = .ok (.tuple #[.int .i64 z, .bool true]) (wr.alloc (.cells (nc q) 53)) := hlk
        have HM3 : Hid (Dm elInt (wr.alloc (.cells (nc q) 53)) (w.heap.size + 1) (k + 1) (idxG (l.take (k + 1)))) := by
          show Dm _ _ _ _ _
          rw [HOd.out z hz]
          exact HM1.out.mono (Nat.le_succ _)
        clear hlk HNw HOd hz HM1
        obtain ⟨⟨q1, q2⟩, ⟨q3, q4⟩, q5, q6⟩ := q
        go_wp2_with fail
        go_roundw
        case rel => exact ⟨k + 1, by omega, by go_num, HB, HZ1, HM3⟩
        case measure => simp [intOf]; omega
    · obtain rfl : k = l.length := by omega
      have hend : ¬ (l.length : Int) < (l.length : Int) := by omega
      have HM2 : Hid (Dm elInt wr (w.heap.size + 1) 1000000 (idxG l)) := by
        have := HM.out.mono HL.out
        rw [List.take_length] at this
        exact this
      obtain ⟨z0, z1, hfz⟩ := HZ.out
      have f0 := hfz 0
      have f1 := hfz 1
      clear hfz
      go_wp2_with fail
      (try simp only [Exit.inBlock, Exit.then])
      refine bodyPost_ret (v := lv a l.length c (w.heap.size + 1)) (by rw [results_cell1 (fn := Tryz.f83) (p := 2) (ty := 111) rfl]; go_simp) rfl ?_
      have hg := gb_trans (gb_setCell wr w.heap.size 0 (.slice a l.length c)) (gb_setCell _ w.heap.size 1 (.map (some (w.heap.size + 1))))
      exact ⟨_, rfl, HM2.out.kept hg (by simp), below_gb hh.out hg hh.out.size (Nat.le_refl _)⟩
end Go.Proofs.YtkcbekebleodaaaGreat.Fo
end

/-
  What is wrong with a node of the program's list.
-/
section
namespace Go.Proofs.YtkcbekebleodaaaGreat.Fo
set_option linter.unusedVariables false
open Go.RowKit V Go.Sort D Nd Qs Wk
attribute [local irreducible] Sch.heldN Sch.stepV Sch.stepE

/-- Whether a node comes too early. -/
def earlyN (l : List Nt) (i : Nat) (n : Nt) : Bool := match (if i = 0 then none else l[i - 1]?) with | none => false | some q => !less q.1 n.1
theorem early_succ {l : List Nt} {j : Nat} (hj : j < l.length) (n : Nt) : earlyN l (j + 1) n = !less l[j].1 n.1 := by
  unfold earlyN
  rw [if_neg (Nat.succ_ne_zero j), Nat.add_sub_cancel, List.getElem?_eq_getElem hj]
theorem flaw_eq {l : List Nt} {i : Nat} (hi : i < l.length) : flawN l i = if validN l[i] = false then 1 else if earlyN l i l[i] = true then 2 else if rootR l[i].2.1 = true then 0 else match atS l l[i].2.1 with | none => 3 | some q => if l[i].2.2.1 ≤ q.2.2.1 then 4 else 0 := by
  unfold flawN
  rw [List.getElem?_eq_getElem hi]
  rfl
/-- The list's box, the node's box, the node before. -/
def Fk (g g2 b1 o1 : Nat) (a : Option Addr) (n c b : Nat) (q p : Nt) (w : World) : Prop := Lb w g a n c b ∧ Nb w g2 q ∧ Na w b1 o1 p
section
variable {g g2 b1 o1 n c b : Nat} {a : Option Addr} {q p : Nt}
theorem Fk.keep {w w' : World} (h : Fk g g2 b1 o1 a n c b q p w) (hb : Below w.heap.size w w') : Fk g g2 b1 o1 a n c b q p w' := ⟨h.1.keep hb, h.2.1.keep hb, h.2.2.keep hb⟩
theorem Fk.ls : ∀ w, Fk g g2 b1 o1 a n c b q p w → (Instr.loadAt 22 (.pointer (some ⟨g, 0, none⟩))).run Tryz.prog w = .ok (.slice a n c) w := fun w k => by
  obtain ⟨h0, -⟩ := k.1
  go_simp
theorem Fk.lm : ∀ w, Fk g g2 b1 o1 a n c b q p w → (Instr.loadAt 25 (.pointer (some ⟨b1, o1, none⟩))).run Tryz.prog w = .ok (dv p.1) w := fun w k => k.2.2.loadD
theorem Fk.ln : ∀ w, Fk g g2 b1 o1 a n c b q p w → (Instr.loadAt 25 (.pointer (some ⟨g2, 0, none⟩))).run Tryz.prog w = .ok (dv q.1) w := fun w k => by
  obtain ⟨h0, h1, -⟩ := k.2.1
  go_simp
end

set_option maxRecDepth 100000 in
set_option maxHeartbeats 4000000 in
theorem flaw_any (l : List Nt) (i : Nat) (hi : i < l.length) (a : Option Addr) (c b : Nat) (w : World) (hf : ∀ x ∈ l, fitN x) (hx : RowN w a l) (hm : Dm elInt w b 1000000 (idxG l)) (hlx : l.length ≤ 1000000) :
    Calls Tryz.prog 100 #[lv a l.length c b, .int .i64 (i : Int)] w fun e w' => e = .returned (.int .i64 (flawN l i)) ∧ Below w.heap.size w w' := by
  have HE := Lib.hid (flaw_eq hi)
  have HX := Lib.hid hx
  have HFp := Lib.hid (hf l[i] (List.getElem_mem hi)).2
  have hli : (l.length : Int) ≤ 1000000 := by omega
  have hi0 : (i : Int) < (l.length : Int) := by omega
  obtain ⟨b1, o1, rfl, hna⟩ := na_of hx i hi
  have hix := ixN b1 o1 l.length c i (i : Int) rfl hi
  obtain ⟨q, hq⟩ : ∃ q, q = l[i] := ⟨_, rfl⟩
  have HQ := Lib.hid hq
  rw [← hq] at hna HE HFp
  clear hq
  have HV := Lib.hid (fun w => validN_any q w)
  have HR := Lib.hid (fun w => root_any q.2.1 w)
  have HA : Hid (∀ z, z = idxG l q.2.1 → (z = none ∧ atS l q.2.1 = none) ∨ ∃ k, ∃ hk : k < l.length, z = some (k : Int) ∧ atS l q.2.1 = some l[k]) := fun z hz => by
    rcases hq : idxG l q.2.1 with _ | y
    · exact .inl ⟨hz.trans hq, idxG_none.1 hq⟩
    · obtain ⟨k, hk, e, -, h2⟩ := idxG_some hq
      exact .inr ⟨k, hk, by rw [hz, hq, e], h2⟩
  obtain ⟨z, hz⟩ : ∃ z, z = idxG l q.2.1 := ⟨_, rfl⟩
  have HZ := Lib.hid (HA.out z hz)
  have HLk := Lib.hid (fun w (h : Dm elInt w b 1000000 (idxG l)) => h.look_ok uInt (zInt w) HFp.out)
  rw [← hz] at HLk
  clear hz HA
  obtain ⟨o, ho⟩ : ∃ o, o = earlyN l i q := ⟨_, rfl⟩
  rw [← ho] at HE
  have HO := Lib.hid ho
  clear ho
  generalize validN q = vd at *
  generalize rootR q.2.1 = rt at *
  have hb1 := bel_box w (.cells #[.slice (some ⟨b1, o1, none⟩) l.length c, .map (some b)] 111)
  have hb2 := bel_box (w.alloc (.cells #[.slice (some ⟨b1, o1, none⟩) l.length c, .map (some b)] 111)) (.cells (nc q) 53)
  have HN2 : Hid (Nb ((w.alloc (.cells #[.slice (some ⟨b1, o1, none⟩) l.length c, .map (some b)] 111)).alloc (.cells (nc q) 53)) (w.heap.size + 1) q) := by
    have h := Nb.new (w.alloc (.cells #[.slice (some ⟨b1, o1, none⟩) l.length c, .map (some b)] 111)) q
    rw [show (w.alloc (.cells #[.slice (some ⟨b1, o1, none⟩) l.length c, .map (some b)] 111)).heap.size = w.heap.size + 1 by simp] at h
    exact h
  have HL2 := Lib.hid ((Lb.new w (some ⟨b1, o1, none⟩) l.length c b).keep hb2)
  have HX2 := Lib.hid ((HX.out.keep hb1).keep hb2)
  have HM2 := Lib.hid ((hm.keep hb1).keep hb2)
  have HB := bel_tr hb1 hb2
  have hna1 := hna.keep hb1
  clear hx hf hlx hm hb1 hb2 HX hna
  obtain ⟨n0, n1, n2, n3, n4, n5⟩ := hna1
  obtain ⟨⟨q1, q2⟩, ⟨q3, q4⟩, q5, q6⟩ := q
  generalize flawN l i = R at *
  go_enter Tryz.func100, Tryz.ntmps100
  go_wp2_with fail
  generalize hw2 : ((w.alloc (.cells #[.slice (some ⟨b1, o1, none⟩) l.length c, .map (some b)] 111)).alloc (.cells #[.int .i64 q1, .int .i64 q2, .int .i64 q3, .int .i64 q4, .int .i64 q5, .int .i32 q6] 53)) = w2 at *
  clear n0 n1 n2 n3 n4 n5 hw2
  refine (HV.out _).mono ?_
  rintro e w3 ⟨rfl, hb⟩
  replace HB := bel_tr HB hb
  replace HX2 := Lib.hid (HX2.out.keep hb)
  replace HM2 := Lib.hid (HM2.out.keep hb)
  replace HL2 := Lib.hid (HL2.out.keep hb)
  replace HN2 := Lib.hid (HN2.out.keep hb)
  clear hb HV
  rcases vd with _ | _
  · go_wp2_with fail
    go_ret
    exact ⟨by rw [HE.out]; rfl, HB.out⟩
  have HE2 : Hid (R = if o = true then 2 else if rt = true then 0 else match atS l (q3, q4) with | none => 3 | some q => if q5 ≤ q.2.2.1 then 4 else 0) := HE.out
  clear HE
  go_wp2_with fail
  have hd := (Below.refl w3.heap.size w3).drew
  replace HB := Lib.hid HB.out.drew
  replace HX2 := Lib.hid (HX2.out.keep hd)
  replace HM2 := Lib.hid (HM2.out.keep hd)
  replace HL2 := Lib.hid (HL2.out.keep hd)
  replace HN2 := Lib.hid (HN2.out.keep hd)
  clear hd
  go_cut [17] from 18 (fun s wx => s = .bool o ∧ Hid (Below w.heap.size w wx) ∧ Hid (RowN wx (some ⟨b1, o1, none⟩) l) ∧ Hid (Dm elInt wx b 1000000 (idxG l)) ∧ Hid (Lb wx w.heap.size (some ⟨b1, o1, none⟩) l.length c b) ∧ Hid (Nb wx (w.heap.size + 1) ((q1, q2), (q3, q4), q5, q6)))
  case first =>
    clear HE2 HZ HLk HR
    rcases i with _ | j
    · have hO : o = false := HO.out
      subst hO
      have HK : Hid (Fk w.heap.size (w.heap.size + 1) b1 (o1 + 0 * 6) (some ⟨b1, o1, none⟩) l.length c b ((q1, q2), (q3, q4), q5, q6) l[0] w3.drew) := ⟨HL2.out, HN2.out, by obtain ⟨b', o', e, h⟩ := na_of HX2.out 0 hi; cases e; exact h⟩
      have hg : decide ((0 : Int) < 0) = false := rfl
      refine Sch.wp_region_tn (Fk w.heap.size (w.heap.size + 1) b1 (o1 + 0 * 6) (some ⟨b1, o1, none⟩) l.length c b ((q1, q2), (q3, q4), q5, q6) l[0]) (.val 0 (.val 1 (.val 2 (.val 3 (.val 4 (.val 5 (.val 6 (.val 7 (.val 8 (.val 9 (.val 10 (.val 11 (.one 12 (.val 13 (.val 14 (.val 15 .done)))))))))))))))) (by kernel_rfl) (by kernel_rfl) HK.out ?_
      repeat (first
        | (refine Sch.tn_q rfl rfl rfl (fun K hK => ?_); go_big_quiet_op; (first | refine hK _ ?_ | refine ⟨_, fun _ _ => rfl, hK _ ?_⟩); clear hK K)
        | (refine Sch.tn_chk _ _ _ rfl rfl rfl rfl rfl ?_; simp only [Act.put, List.setIfInBounds_toArray, List.set_cons_zero, List.set_cons_succ])
        | (refine Sch.tn_load _ _ _ _ _ rfl rfl rfl rfl (by first | exact Fk.ls | exact Fk.lm | exact Fk.ln) rfl ?_; simp only [Act.put, List.setIfInBounds_toArray, List.set_cons_zero, List.set_cons_succ]))
      repeat (first
        | (refine Sch.tn_q rfl rfl rfl (fun K hK => ?_); go_big_quiet_op; (first | refine hK _ ?_ | refine ⟨_, fun _ _ => rfl, hK _ ?_⟩); clear hK K)
        | (refine Sch.tn_chk _ _ _ rfl rfl rfl rfl rfl ?_; simp only [Act.put, List.setIfInBounds_toArray, List.set_cons_zero, List.set_cons_succ])
        | (refine Sch.tn_load _ _ _ _ _ rfl rfl rfl rfl (by first | exact Fk.ls | exact Fk.lm | exact Fk.ln) rfl ?_; simp only [Act.put, List.setIfInBounds_toArray, List.set_cons_zero, List.set_cons_succ])
        | (refine Sch.tn_s _ rfl rfl rfl ?_; simp only [Act.put, List.setIfInBounds_toArray, List.set_cons_zero, List.set_cons_succ])
        | (refine Sch.tn_se _ rfl rfl rfl ?_; simp only [Act.put, List.setIfInBounds_toArray, List.set_cons_zero, List.set_cons_succ]))
      refine Sch.tn_n ?_
      go_wp2_with fail
      go_meet
      case rel => exact ⟨rfl, HB, HX2, HM2, HL2, HN2⟩
    · have hj : j < l.length := by omega
      have hO : o = !less l[j].1 (q1, q2) := HO.out.trans (early_succ hj _)
      obtain ⟨b2, o2, e2, hnb⟩ := na_of HX2.out j hj
      cases e2
      obtain ⟨p, hp⟩ : ∃ p, p = l[j] := ⟨_, rfl⟩
      rw [← hp] at hnb hO
      clear hp
      have HK : Hid (Fk w.heap.size (w.heap.size + 1) b1 (o1 + j * 6) (some ⟨b1, o1, none⟩) l.length c b ((q1, q2), (q3, q4), q5, q6) p w3.drew) := ⟨HL2.out, HN2.out, hnb⟩
      have hi3 : (0 : Int) < (j : Int) + 1 := by omega
      have hg : decide ((0 : Int) < (j : Int) + 1) = true := by rw [decide_eq_true_eq]; exact hi3
      have hwr := wrap_nat (show (j : Int) ≤ 140737488355328 by omega)
      have hixj := ixN b1 o1 l.length c j (j : Int) rfl hj
      have HC := Lib.hid (fun w => compare_any p.1 (q1, q2) w)
      have hcg := cmp_ge p.1 (q1, q2)
      obtain ⟨z, hz⟩ : ∃ z, z = cmpR p.1 (q1, q2) := ⟨_, rfl⟩
      rw [← hz] at HC hcg
      rw [← hO] at hcg
      clear hz hO hnb
      rw [show ((j + 1 : Nat) : Int) = (j : Int) + 1 from rfl]
      refine Sch.wp_region_tn (Fk w.heap.size (w.heap.size + 1) b1 (o1 + j * 6) (some ⟨b1, o1, none⟩) l.length c b ((q1, q2), (q3, q4), q5, q6) p) (.val 0 (.val 1 (.val 2 (.val 3 (.val 4 (.val 5 (.val 6 (.val 7 (.val 8 (.val 9 (.val 10 (.val 11 (.one 12 (.val 13 (.val 14 (.val 15 .done)))))))))))))))) (by kernel_rfl) (by kernel_rfl) HK.out ?_
      repeat (first
        | (refine Sch.tn_q rfl rfl rfl (fun K hK => ?_); go_big_quiet_op; (first | refine hK _ ?_ | refine ⟨_, fun _ _ => rfl, hK _ ?_⟩); clear hK K)
        | (refine Sch.tn_chk _ _ _ rfl rfl rfl rfl rfl ?_; simp only [Act.put, List.setIfInBounds_toArray, List.set_cons_zero, List.set_cons_succ])
        | (refine Sch.tn_load _ _ _ _ _ rfl rfl rfl rfl (by first | exact Fk.ls | exact Fk.lm | exact Fk.ln) rfl ?_; simp only [Act.put, List.setIfInBounds_toArray, List.set_cons_zero, List.set_cons_succ]))
      generalize w3.drew = w4 at *
      refine Sch.tn_e rfl rfl (fun K hK => ?_)
      go_wp2_with fail
      refine (HC.out _).mono ?_
      rintro e w5 ⟨rfl, hl⟩
      have hb := hl.bel
      replace HB := bel_tr HB hb
      replace HX2 := Lib.hid (HX2.out.keep hb)
      replace HM2 := Lib.hid (HM2.out.keep hb)
      replace HL2 := Lib.hid (HL2.out.keep hb)
      replace HN2 := Lib.hid (HN2.out.keep hb)
      replace HK := Lib.hid (HK.out.keep hb)
      clear hb hl
      refine hK _ _ HK.out ?_
      clear hK K
      repeat (first
        | (refine Sch.tn_q rfl rfl rfl (fun K hK => ?_); go_big_quiet_op; (first | refine hK _ ?_ | refine ⟨_, fun _ _ => rfl, hK _ ?_⟩); clear hK K)
        | (refine Sch.tn_chk _ _ _ rfl rfl rfl rfl rfl ?_; simp only [Act.put, List.setIfInBounds_toArray, List.set_cons_zero, List.set_cons_succ])
        | (refine Sch.tn_load _ _ _ _ _ rfl rfl rfl rfl (by first | exact Fk.ls | exact Fk.lm | exact Fk.ln) rfl ?_; simp only [Act.put, List.setIfInBounds_toArray, List.set_cons_zero, List.set_cons_succ]))
      refine Sch.tn_n ?_
      go_wp2_with fail
      go_meet
      case rel => exact ⟨rfl, HB, HX2, HM2, HL2, HN2⟩
  case rest =>
    obtain ⟨rfl, HB, HX2, HM2, HL2, HN2⟩ := hcut
    rcases o with _ | _
    case true =>
      go_wp2_with fail
      go_ret
      exact ⟨by rw [HE2.out]; rfl, HB.out⟩
    have HE3 : Hid (R = if rt = true then 0 else match atS l (q3, q4) with | none => 3 | some q => if q5 ≤ q.2.2.1 then 4 else 0) := HE2.out
    clear HE2
    obtain ⟨n0, n1, n2, n3, n4, n5⟩ := HN2.out
    go_wp2_with fail
    refine (HR.out _).mono ?_
    rintro e w6 ⟨rfl, hb⟩
    replace HB := bel_tr HB hb
    replace HX2 := Lib.hid (HX2.out.keep hb)
    replace HM2 := Lib.hid (HM2.out.keep hb)
    replace HL2 := Lib.hid (HL2.out.keep hb)
    replace HN2 := Lib.hid (HN2.out.keep hb)
    clear hb HR n0 n1 n2 n3 n4 n5
    rcases rt with _ | _
    case true =>
      go_wp2_with fail
      go_ret
      exact ⟨by rw [HE3.out]; rfl, HB.out⟩
    have HE4 : Hid (R = match atS l (q3, q4) with | none => 3 | some q => if q5 ≤ q.2.2.1 then 4 else 0) := HE3.out
    clear HE3
    obtain ⟨n0, n1, n2, n3, n4, n5⟩ := HN2.out
    obtain ⟨l0, l1⟩ := HL2.out
    have hlk := HLk.out _ HM2.out
    rcases HZ.out with ⟨rfl, ha⟩ | ⟨k, hk, rfl, ha⟩
    · have hlk2 : (Instr.lookup 99 (.map (some b)) (dv (q3, q4)) true).run Tryz.prog w6 = .ok (.tuple #[.int .i64 0, .bool false]) w6 := hlk
      rw [ha] at HE4
      clear hlk ha HZ HLk
      go_wp2_with fail
      go_ret
      exact ⟨by rw [HE4.out]; rfl, HB.out⟩
    · have hlk2 : (Instr.lookup 99 (.map (some b)) (dv (q3, q4)) true).run Tryz.prog w6 = .ok (.tuple #[.int .i64 (k : Int), .bool true]) w6 := hlk
      rw [ha] at HE4
      obtain ⟨b2, o2, e2, hnb⟩ := na_of HX2.out k hk
      cases e2
      obtain ⟨p, hp⟩ : ∃ p, p = l[k] := ⟨_, rfl⟩
      rw [← hp] at hnb HE4
      obtain ⟨-, -, -, -, p4, -⟩ := hnb
      have hixk := ixN b1 o1 l.length c k (k : Int) rfl hk
      clear hlk ha HZ HLk hp
      by_cases ht : q5 ≤ p.2.2.1
      · have HE5 : Hid (R = 4) := by show _ = _; rw [HE4.out]; simp only; rw [if_pos ht]
        clear HE4
        go_wp2_with fail
        go_quiet (fail)
        go_wp2_with fail
        go_ret
        exact ⟨by rw [HE5.out]; rfl, bel_drewN HB.out _⟩
      · have HE5 : Hid (R = 0) := by show _ = _; rw [HE4.out]; simp only; rw [if_neg ht]
        clear HE4
        go_wp2_with fail
        go_quiet (fail)
        go_wp2_with fail
        go_ret
        exact ⟨by rw [HE5.out]; rfl, bel_drewN HB.out _⟩
end Go.Proofs.YtkcbekebleodaaaGreat.Fo
end

/-
  Rows of Booleans of a call's own; what is wrong with each node, who is marked, who is above.
-/
section
namespace Go.Proofs.YtkcbekebleodaaaGreat.Fo
set_option linter.unusedVariables false
open Go.RowKit V Go.Sort D Nd Qs Wk
attribute [local irreducible] Sch.heldN Sch.stepV Sch.stepE

section
variable {w w' : World} {base : Nat} {E : TypeId} {v : Value} {l : List Bool}
end
theorem infoF : (Tryz.prog.info? 114).map (fun i => (i.zero, i.size, i.bytes)) = some (some (.int .i64 0), 1, 8) := by kernel_rfl

set_option maxRecDepth 100000 in
set_option maxHeartbeats 4000000 in
theorem flaws_any (l : List Nt) (a : Option Addr) (c b : Nat) (w : World) (hf : ∀ x ∈ l, fitN x) (hx : RowN w a l) (hm : Dm elInt w b 1000000 (idxG l)) (hlx : l.length ≤ 1000000) :
    Calls Tryz.prog 84 #[lv a l.length c b] w fun e w' => ∃ v, e = .returned v ∧ G.OI w' w.heap.size 114 .i64 v (flawT l l.length) ∧ Below w.heap.size w w' := by
  have HF := Lib.hid (fun (k : Nat) hk w h1 h2 => flaw_any l k hk a c b w hf h1 h2 hlx)
  have hb1 := bel_box w (.cells #[.slice a l.length c, .map (some b)] 111)
  have HX := Lib.hid (hx.keep hb1)
  have HM := Lib.hid (hm.keep hb1)
  have HL := Lib.hid (Lb.new w a l.length c b)
  have HB := Lib.hid hb1
  have hli : (l.length : Int) ≤ 1000000 := by omega
  have HLn := Lib.hid hlx
  clear hf hx hm hb1 hlx
  go_enter Tryz.func84, Tryz.ntmps84
  go_upto_region 1 with fail
  generalize hw1 : w.alloc (.cells #[.slice a l.length c, .map (some b)] 111) = w1 at *
  clear hw1
  obtain ⟨w3, v3, hmk, ho3, hb3⟩ := G.run_mkI w1 w1.heap.size Tryz.underlying109 infoF l.length (by have := HLn.out; omega) (by omega) (Nat.le_refl _)
  have HO3 := Lib.hid ho3
  have HZ3 := Lib.hid hb3
  obtain ⟨l0, l1⟩ := HL.out
  obtain ⟨m0, m1⟩ := HL.out.keep hb3
  clear ho3 hb3
  go_wp2_with fail
  go_loopw [3, 4, 12] (fun v _ i wr => ∃ k : Nat, k ≤ l.length ∧ i = .int .i64 (k : Int) ∧ Hid (Below w1.heap.size w1 wr) ∧ Hid (G.OI wr w1.heap.size 114 .i64 v (flawT l k))) (fun _ _ i _ => l.length - (intOf i).toNat)
  case atStart => exact ⟨0, Nat.zero_le _, rfl, HZ3, HO3⟩
  case round =>
    clear HO3 HZ3 l0 l1 m0 m1
    obtain ⟨k, hk, rfl, HZ, HO⟩ := hrel
    by_cases hlt : k < l.length
    · have hi0 : (k : Int) < (l.length : Int) := by omega
      have HT := Lib.hid (flawT_succ l k)
      have HKl : Hid ((flawT l k).length ≤ 1000000) := by show _ ≤ _; rw [flawT_len]; omega
      obtain ⟨l0, l1⟩ := HL.out.keep HZ.out
      have HC := Lib.hid (HF.out k hlt wr (HX.out.keep HZ.out) (HM.out.keep HZ.out))
      generalize flawN l k = z at *
      go_wp2_with fail
      refine HC.out.mono ?_
      rintro e w5 ⟨rfl, hb⟩
      have hb2 := bel_box w5 (.cells #[.int .i64 z] 114)
      have HZ2 := bel_tr (bel_tr HZ hb) hb2
      have HO2 := Lib.hid ((HO.out.below hb).below hb2)
      have HBs : Hid (w1.heap.size ≤ (w5.alloc (.cells #[.int .i64 z] 114)).heap.size) := HZ2.out.size
      clear hb hb2 HC l0 l1
      go_wp2_with (at_builtin; refine G.wpList_appI rfl (.tmp 15) (.tmp 19) 109 rfl Tryz.underlying109 infoF _ (flawT l k) rfl HO2.out w5.heap.size 0 1 1 [z] rfl rfl (G.RowI.lit .i64 w5 _ rfl [z] _ _ rfl) (by have := HKl.out; simp; omega) (by omega) HBs.out ?_; intro v' w' ho' hg' hgr')
      have HO7 : Hid (G.OI w' w1.heap.size 114 .i64 v' (flawT l (k + 1))) := by show G.OI _ _ _ _ _ _; rw [HT.out]; exact ho'
      have HZ7 := Lib.hid (HZ2.out.grown hg' HZ2.out.size (fun x hx => (HO2.out.lt x hx).1))
      clear ho' hg' hgr'
      refine ⟨⟨k + 1, by omega, by go_num, HZ7, HO7⟩, ?_⟩
      simp [intOf]; omega
    · obtain rfl : k = l.length := by omega
      have hend : ¬ (l.length : Int) < (l.length : Int) := by omega
      have HB4 := bel_tr HB HZ.out
      have HO4 := Lib.hid (HO.out.mono HB.out.size)
      clear HO
      go_wp2_with fail
      go_ret
      exact ⟨_, rfl, HO4.out, HB4.out⟩
end Go.Proofs.YtkcbekebleodaaaGreat.Fo
end

/-
  Who has a flaw, and who is above, in the program's list.
-/
section
namespace Go.Proofs.YtkcbekebleodaaaGreat.Fo
set_option linter.unusedVariables false
open Go.RowKit V Go.Sort D Nd Qs Wk
attribute [local irreducible] Sch.heldN Sch.stepV Sch.stepE

theorem rowI_at {k : IntKind} {w : World} {a : Option Addr} {l : List Int} (h : G.RowI k w a l) (i : Nat) (hi : i < l.length) : ∃ b o, a = some ⟨b, o, none⟩ ∧ w.cell? ⟨b, o + i, none⟩ = some (.int k l[i]) := by
  rcases h with rfl | ⟨b, o, rfl, hc⟩
  · simp at hi
  · exact ⟨b, o, rfl, hc i hi⟩
theorem rowI_gb {k : IntKind} {w w' : World} {a : Option Addr} {l : List Int} {r : Option Nat} (h : G.RowI k w a l) (hg : w.grownBy w' r) (hne : ∀ b o, a = some ⟨b, o, none⟩ → some b ≠ r) : G.RowI k w' a l :=
  h.of_heap fun b ⟨o, e⟩ hl => hg.block b hl (hne b o e)
/-- The block of a row that grows is no block between two marks. -/
def Out (s3 s4 : Nat) (v : Value) : Prop := ∀ x, v.ownBlock = some x → x < s3 ∨ s4 ≤ x
theorem Out.grew {s3 s4 : Nat} {w : World} {v v' : Value} (h : Out s3 s4 v) (hg : G.Grew w v v') (hs : s4 ≤ w.heap.size) : Out s3 s4 v' := fun x hx => by
  rcases hg with e | e
  · exact h x (e ▸ hx)
  · rw [e] at hx; cases hx; exact .inr hs
theorem keepI {k : IntKind} {w w' : World} {a : Option Addr} {l : List Int} (h : G.RowI k w a l) (hb : Below w.heap.size w w') : G.RowI k w' a l := h.keep hb (Nat.le_refl _)

end Go.Proofs.YtkcbekebleodaaaGreat.Fo
end

/-
  The exported functions of package shape, but for Word.
-/
section
namespace Go.Proofs.YtkcbekebleodaaaGreat.Fo
set_option linter.unusedVariables false
open Go.RowKit V Go.Sort D Nd Qs Wk
attribute [local irreducible] Sch.heldN Sch.stepV Sch.stepE

theorem infoT : (Tryz.prog.info? 116).map (fun i => (i.zero, i.size, i.bytes)) = some (some (.agg #[.int .i64 0, .int .i64 0]), 2, 16) := by kernel_rfl
set_option maxRecDepth 100000 in
set_option maxHeartbeats 4000000 in
theorem faults_any (l : List Nt) (a : Option Addr) (c : Nat) (w : World) (hf : ∀ x ∈ l, fitN x) (hx : RowN w a l) (hlx : l.length ≤ 1000000) :
    Calls Tryz.prog 65 #[.slice a l.length c] w fun e w' => ∃ v, e = .returned v ∧ OD w' w.heap.size 116 v (faultS l) ∧ Below w.heap.size w w' := by
  have HLo := Lib.hid (listOf_any l a c w hf hx hlx)
  have HF := Lib.hid (fun b w h1 h2 => flaws_any l a c b w hf h1 h2 hlx)
  have HX := Lib.hid hx
  have hli : (l.length : Int) ≤ 1000000 := by omega
  have HLn := Lib.hid hlx
  clear hf hx hlx
  go_enter Tryz.func65, Tryz.ntmps65
  go_wp2_with fail
  refine HLo.out.mono ?_
  rintro e w3 ⟨b, rfl, hm, hb⟩
  have HB := Lib.hid hb
  have HC := Lib.hid (HF.out b w3 (HX.out.keep hb) hm)
  clear hb hm HF HLo HX
  go_wp2_with fail
  refine HC.out.mono ?_
  rintro e w4 ⟨v4, rfl, ho, hb⟩
  replace HB := bel_tr HB hb
  obtain ⟨a4, c4, rfl, hr4, -, -, hx4⟩ := G.OI.row2 ho
  rw [flawT_len]
  have HR4 := Lib.hid hr4
  obtain ⟨s3, hs3⟩ : ∃ s3, s3 = w3.heap.size := ⟨_, rfl⟩
  obtain ⟨s4, hs4⟩ : ∃ s4, s4 = w4.heap.size := ⟨_, rfl⟩
  have HX4 : Hid (∀ g o, a4 = some ⟨g, o, none⟩ → s3 ≤ g ∧ g < s4) := fun g o e => by
    obtain ⟨-, h1, h2⟩ := hx4 _ e
    rw [hs3, hs4]
    exact ⟨h1, h2⟩
  have HS4 : Hid (s4 ≤ w4.heap.size) := Nat.le_of_eq hs4
  clear ho hb hr4 HC hx4 hs3 hs4
  go_wp2_with fail
  go_loopw [3, 4, 5, 10] (fun v _ _ i wr => ∃ k : Nat, k ≤ l.length ∧ i = .int .i64 (k : Int) ∧ Hid (Below w.heap.size w wr) ∧ Hid (G.RowI .i64 wr a4 (flawT l l.length)) ∧ Hid (OD wr w.heap.size 116 v (faultT l k)) ∧ Hid (Out s3 s4 v) ∧ Hid (s4 ≤ wr.heap.size)) (fun _ _ _ i _ => l.length - (intOf i).toNat)
  case atStart => exact ⟨0, Nat.zero_le _, rfl, HB, HR4, OD.nil _ _ _, (fun x hx => by cases hx), HS4⟩
  case round =>
    clear HB HR4 HS4
    obtain ⟨k, hk, rfl, HB, HR, HO, HU, HS⟩ := hrel
    by_cases hlt : k < l.length
    · have hi0 : (k : Int) < (l.length : Int) := by omega
      have hkT : k < (flawT l l.length).length := by rw [flawT_len]; exact hlt
      have HT1 := Lib.hid (fault_hit (l := l) (k := k))
      have HT0 := Lib.hid (fault_miss (l := l) (k := k))
      have HKl : Hid ((faultT l k).length ≤ 1000000) := by show _ ≤ _; have := fault_len l k; have := HLn.out; omega
      obtain ⟨b4, o4, rfl, hc⟩ := rowI_at HR.out k hkT
      rw [flawT_at] at hc
      generalize flawN l k = z at *
      by_cases hz : z = 0
      · have HT := Lib.hid (HT0.out hz)
        subst hz
        clear HT0 HT1
        go_wp2_with fail
        go_roundw
        case rel => exact ⟨k + 1, by omega, by go_num, HB, HR, by show OD _ _ _ _ _; rw [HT.out]; exact HO.out, HU, HS⟩
        case measure => simp [intOf]; omega
      · have HT := Lib.hid (HT1.out hz)
        have hz2 : (z != 0) = true := by simpa using hz
        have hb2 := bel_box wr (.cells #[.int .i64 (k : Int), .int .i64 z] 116)
        have HB2 := bel_tr HB hb2
        have HO2 := Lib.hid (HO.out.below hb2)
        have HR2 := Lib.hid (keepI HR.out hb2)
        have HBs : Hid (w.heap.size ≤ (wr.alloc (.cells #[.int .i64 (k : Int), .int .i64 z] 116)).heap.size) := HB2.out.size
        have HS2 : Hid (s4 ≤ (wr.alloc (.cells #[.int .i64 (k : Int), .int .i64 z] 116)).heap.size) := Nat.le_trans HS.out hb2.size
        have HLt : Hid (RowD (wr.alloc (.cells #[.int .i64 (k : Int), .int .i64 z] 116)) (some ⟨wr.heap.size, 0, none⟩) [((k : Int), z)]) := RowD.lit wr [((k : Int), z)] _ _ _ rfl
        clear hb2 HT0 HT1 hz
        go_wp2_with (at_builtin; refine wpList_appD rfl (.tmp 17) (.tmp 21) 94 rfl Tryz.underlying94 infoT _ (faultT l k) rfl HO2.out (some ⟨wr.heap.size, 0, none⟩) [((k : Int), z)] 1 rfl HLt.out (fun h => by cases h) (by have := HKl.out; simp; omega) HBs.out ?_; intro v' w' ho' hg' hgr')
        have HO7 : Hid (OD w' w.heap.size 116 v' (faultT l (k + 1))) := by show OD _ _ _ _ _; rw [HT.out]; exact ho'
        have HB7 := Lib.hid (HB2.out.grown hg' HB2.out.size (fun x hx => (HO2.out.lt x hx).1))
        have HR7 := Lib.hid (rowI_gb HR2.out hg' (fun g o e e2 => by have h1 := HU.out g e2.symm; have h2 := HX4.out g o e; omega))
        have HU7 := Lib.hid (HU.out.grew hgr' HS2.out)
        have HS7 := Lib.hid (Nat.le_trans HS2.out hg'.size)
        clear ho' hg' hgr'
        go_wp2_with fail
        go_roundw
        case rel => exact ⟨k + 1, by omega, by go_num, HB7, HR7, HO7, HU7, HS7⟩
        case measure => simp [intOf]; omega
    · obtain rfl : k = l.length := by omega
      have hend : ¬ (l.length : Int) < (l.length : Int) := by omega
      go_wp2_with fail
      go_ret
      exact ⟨_, rfl, HO.out, HB.out⟩

set_option maxRecDepth 100000 in
set_option maxHeartbeats 1000000 in
theorem well_any (l : List Nt) (a : Option Addr) (c : Nat) (w : World) (hf : ∀ x ∈ l, fitN x) (hx : RowN w a l) (hlx : l.length ≤ 1000000) :
    Calls Tryz.prog 43 #[.slice a l.length c] w fun e w' => e = .returned (.bool (wellS l)) ∧ Below w.heap.size w w' := by
  have HF := Lib.hid (faults_any l a c w hf hx hlx)
  have HE := Lib.hid (well_len l)
  clear hf hx hlx
  generalize wellS l = R at *
  generalize faultS l = T at *
  go_enter Tryz.func43, Tryz.ntmps43
  go_wp2_with fail
  refine HF.out.mono ?_
  rintro e w2 ⟨v, rfl, ho, hb⟩
  obtain ⟨a2, c2, rfl, -⟩ := OD.row ho
  have HB := Lib.hid hb
  clear ho hb HF
  rcases hT : T.length with _ | n
  · rw [hT] at HE
    clear hT
    go_wp2_with fail
    go_ret
    exact ⟨by rw [HE.out]; rfl, HB.out⟩
  · rw [hT] at HE
    have hn : ((n : Int) + 1 == 0) = false := by rw [beq_eq_false_iff_ne]; omega
    clear hT
    go_wp2_with fail
    go_ret
    exact ⟨by rw [HE.out]; rfl, HB.out⟩


end Go.Proofs.YtkcbekebleodaaaGreat.Fo
end
