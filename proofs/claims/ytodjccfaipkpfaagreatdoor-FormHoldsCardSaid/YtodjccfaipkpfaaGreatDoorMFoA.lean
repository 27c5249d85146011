/-
  The program's list: where the node with each dot is first; what is wrong with a node.
-/
import Derived.Test.YtodjccfaipkpfaaGreatDoorMFoPure
import Derived.Test.YtodjccfaipkpfaaGreatDoorQPlc
import Derived.Test.YtodjccfaipkpfaaGreatDoorMQAsk

section
namespace Go.Proofs.YtodjccfaipkpfaaGreatDoor.Fo
set_option linter.unusedVariables false
open Go.RowKit V Go.Sort D Nd Qs Wk
attribute [local irreducible] Sch.heldN Sch.stepV Sch.stepE

theorem idxG_old {l : List Nt} {n : Nt} (h : atS l n.1 ≠ none) : idxG (l ++ [n]) = idxG l := by
  funext d
  unfold idxG
  rw [List.findIdx?_append]
  by_cases hd : d = n.1
  · subst hd
    rcases hf : List.findIdx? (fun x : Nt => decide (x.1 = n.1)) l with _ | z
    · exfalso
      apply h
      rw [← idxG_none]
      unfold idxG
      rw [hf]
      rfl
    · rfl
  · have h1 : List.findIdx? (fun x : Nt => decide (x.1 = d)) [n] = none := by
      rw [List.findIdx?_eq_none_iff]; intro x hx; simp at hx; subst hx; simpa using fun e => hd e.symm
    rw [h1]
    simp
theorem take_one {l : List Nt} {k : Nat} (hk : k < l.length) : l.take (k + 1) = l.take k ++ [l[k]] := by rw [List.take_add_one, List.getElem?_eq_getElem hk]; rfl
theorem first_new {l : List Nt} {k : Nat} (hk : k < l.length) (h : idxG (l.take k) l[k].1 = none) : putF (idxG (l.take k)) l[k].1 (k : Int) = idxG (l.take (k + 1)) := by
  funext d
  rw [take_one hk, idxG_app (idxG_none.1 h), List.length_take, Nat.min_eq_left (Nat.le_of_lt hk)]
  rfl
theorem first_old {l : List Nt} {k : Nat} (hk : k < l.length) {z : Int} (h : idxG (l.take k) l[k].1 = some z) : idxG (l.take (k + 1)) = idxG (l.take k) := by
  rw [take_one hk]
  exact idxG_old fun e => by rw [← idxG_none, h] at e; cases e

/-- The program's list, as a value; in a box; a box with nothing in it that may be written. -/
abbrev lv (a : Option Addr) (n c b : Nat) : Value := .agg #[.slice a n c, .map (some b)]
def Lb (w : World) (g : Nat) (a : Option Addr) (n c b : Nat) : Prop := w.cell? ⟨g, 0, none⟩ = some (.slice a n c) ∧ w.cell? ⟨g, 1, none⟩ = some (.map (some b))
theorem Lb.keep {w w' : World} {g n c b : Nat} {a : Option Addr} (h : Lb w g a n c b) (hb : Below w.heap.size w w') : Lb w' g a n c b :=
  ⟨(hb.cell (p := ⟨g, 0, none⟩) (lt_of_cell h.1)).trans h.1, (hb.cell (p := ⟨g, 1, none⟩) (lt_of_cell h.2)).trans h.2⟩
theorem Lb.new (w : World) (a : Option Addr) (n c b : Nat) : Lb (w.alloc (.cells #[.slice a n c, .map (some b)] 61)) w.heap.size a n c b := by
  constructor <;> go_simp
theorem Lb.load {w : World} {g n c b : Nat} {a : Option Addr} (h : Lb w g a n c b) : (Instr.loadAt 61 (.pointer (some ⟨g, 0, none⟩))).run Tryz.prog w = .ok (lv a n c b) w := by
  obtain ⟨h0, h1⟩ := h
  go_simp
def Zl (w : World) (g : Nat) : Prop := w.cell? ⟨g, 0, none⟩ = some (.slice none 0 0) ∧ w.cell? ⟨g, 1, none⟩ = some (.map none) ∧ ∀ o, w.frozen? ⟨g, o, none⟩ = false
theorem Zl.keep {w w' : World} {g : Nat} (h : Zl w g) (hb : Below w.heap.size w w') : Zl w' g :=
  ⟨(hb.cell (p := ⟨g, 0, none⟩) (lt_of_cell h.1)).trans h.1, (hb.cell (p := ⟨g, 1, none⟩) (lt_of_cell h.2.1)).trans h.2.1, fun o => (hb.frozen (p := ⟨g, o, none⟩) (show g < w.heap.size from lt_of_cell h.1)).trans (h.2.2 o)⟩
theorem Zl.new (w : World) : Zl (w.alloc (.cells #[.slice none 0 0, .map none] 61)) w.heap.size := by
  refine ⟨?_, ?_, fun o => ?_⟩ <;> go_simp
theorem zl_gb {w w' : World} {g r : Nat} (h : Zl w g) (hg : w.grownBy w' (some r)) (hne : g ≠ r) : Zl w' g := by
  have e : w'.heap[g]? = w.heap[g]? := hg.block g (lt_of_cell h.1) (by simpa using hne)
  exact ⟨(World.cell?_of_block (a := ⟨g, 0, none⟩) e).trans h.1, (World.cell?_of_block (a := ⟨g, 1, none⟩) e).trans h.2.1, fun o => (World.frozen?_of_block (a := ⟨g, o, none⟩) e).trans (h.2.2 o)⟩

set_option maxRecDepth 100000 in
set_option maxHeartbeats 4000000 in
theorem listOf_any (l : List Nt) (a : Option Addr) (c : Nat) (w : World) (hf : ∀ x ∈ l, fitN x) (hx : RowN w a l) (hlx : l.length ≤ 1000000) :
    Calls Tryz.prog 27 #[.slice a l.length c] w fun e w' => ∃ b, e = .returned (lv a l.length c b) ∧ Dm elInt w' b 1000000 (idxG l) ∧ Below w.heap.size w w' := by
  have HX := Lib.hid hx
  have HF := Lib.hid hf
  have hli : (l.length : Int) ≤ 1000000 := by omega
  have HL := Lib.hid hlx
  have hmk := run_mk l.length
  have hb1 := bel_box w (.cells #[.slice none 0 0, .map none] 61)
  have hb2 := bel_box (w.alloc (.cells #[.slice none 0 0, .map none] 61)) (.map #[] 0)
  have HM0 : Hid (Dm elInt ((w.alloc (.cells #[.slice none 0 0, .map none] 61)).alloc (.map #[] 0)) (w.heap.size + 1) 0 (idxG (l.take 0))) := by
    have h := Dm.made (L := elInt) (w.alloc (.cells #[.slice none 0 0, .map none] 61))
    rw [show (w.alloc (.cells #[.slice none 0 0, .map none] 61)).heap.size = w.heap.size + 1 by simp] at h
    exact h
  have HZ0 : Hid (Zl ((w.alloc (.cells #[.slice none 0 0, .map none] 61)).alloc (.map #[] 0)) w.heap.size) := (Zl.new w).keep hb2
  have HB0 : Hid (Below w.heap.size w ((w.alloc (.cells #[.slice none 0 0, .map none] 61)).alloc (.map #[] 0))) := bel_tr hb1 hb2
  clear hx hlx hf hb1 hb2
  go_enter Tryz.func27, Tryz.ntmps27
  go_wp2_with fail
  go_loopw [4, 5, 6, 7, 13, 18] (fun _ _ _ _ i _ wr => ∃ k : Nat, k ≤ l.length ∧ i = .int .i64 (k : Int) ∧ Hid (Below w.heap.size w wr) ∧ Hid (Zl wr w.heap.size) ∧ Hid (Dm elInt wr (w.heap.size + 1) k (idxG (l.take k)))) (fun _ _ _ _ i _ _ => l.length - (intOf i).toNat)
  case atStart => exact ⟨0, Nat.zero_le _, rfl, HB0, HZ0, HM0⟩
  case round =>
    obtain ⟨k, hk, rfl, hh, HZ, HM⟩ := hrel
    by_cases hlt : k < l.length
    · have hi0 : (k : Int) < (l.length : Int) := by omega
      obtain ⟨b1, o1, rfl, hna⟩ := na_of (HX.out.keep hh.out) k hlt
      have HNw := Lib.hid (first_new hlt)
      have HOd := Lib.hid (fun z => first_old (z := z) hlt)
      have HFq := Lib.hid (HF.out l[k] (List.getElem_mem hlt)).1
      obtain ⟨q, hq⟩ : ∃ q, q = l[k] := ⟨_, rfl⟩
      rw [← hq] at hna HNw HOd HFq
      clear hq
      have hb1 := bel_box wr (.cells (nc q) 35)
      have HB := bel_tr hh hb1
      have HM1 := Lib.hid (HM.out.keep hb1)
      have HZ1 := Lib.hid (HZ.out.keep hb1)
      have HN := Lib.hid (show k < maxLen by unfold maxLen; have := HL.out; omega)
      have hlk := HM1.out.look_ok uInt (zInt _) HFq.out
      clear hb1 HM HZ
      obtain ⟨h0, h1, h2, h3, h4, h5⟩ := hna
      rcases hz : idxG (l.take k) q.1 with _ | z
      · rw [hz] at hlk
        have hlk2 : (Instr.lookup 49 (.map (some (w.heap.size + 1))) (dv q.1) true).run Tryz.prog (wr.alloc (.cells (nc q) 35)) = .ok (.tuple #[.int .i64 0, .bool false]) (wr.alloc (.cells (nc q) 35)) := hlk
        have HNw2 := Lib.hid (HNw.out hz)
        clear hlk HNw HOd hz
        obtain ⟨⟨q1, q2⟩, ⟨q3, q4⟩, q5, q6⟩ := q
        go_wp2_with (at_mapUpdate; refine wpList_putD elInt rfl _ _ _ _ rfl 3 uInt (w.heap.size + 1) k _ rfl HM1.out HN.out (q1, q2) (k : Int) rfl rfl HFq.out ?_; intro w3 hm hg)
        have HM3 : Hid (Dm elInt w3 (w.heap.size + 1) (k + 1) (idxG (l.take (k + 1)))) := HNw2.out ▸ hm
        have HB3 := Lib.hid (below_gb HB.out hg HB.out.size (Nat.le_succ _))
        have HZ3 := Lib.hid (zl_gb HZ1.out hg (by omega))
        clear hm hg h0 h1 h2 h3 h4 h5
        go_wp2_with fail
        go_roundw
        case rel => exact ⟨k + 1, by omega, by go_num, HB3, HZ3, HM3⟩
        case measure => simp [intOf]; omega
      · rw [hz] at hlk
        have hlk2 : (Instr.lookup 49 (.map (some (w.heap.size + 1))) (dv q.1) true).run Tryz.prog (wr.alloc (.cells (nc q) 35)) = .ok (.tuple #[.int .i64 z, .bool true]) (wr.alloc (.cells (nc q) 35)) := hlk
        have HM3 : Hid (Dm elInt (wr.alloc (.cells (nc q) 35)) (w.heap.size + 1) (k + 1) (idxG (l.take (k + 1)))) := by
          show Dm _ _ _ _ _
          rw [HOd.out z hz]
          exact HM1.out.mono (Nat.le_succ _)
        clear hlk HNw HOd hz HM1
        obtain ⟨⟨q1, q2⟩, ⟨q3, q4⟩, q5, q6⟩ := q
        go_wp2_with fail
        go_roundw
        case rel => exact ⟨k + 1, by omega, by go_num, HB, HZ1, HM3⟩
        case measure => simp [intOf]; omega
    · obtain rfl : k = l.length := by omega
      have hend : ¬ (l.length : Int) < (l.length : Int) := by omega
      have HM2 : Hid (Dm elInt wr (w.heap.size + 1) 1000000 (idxG l)) := by
        have := HM.out.mono HL.out
        rw [List.take_length] at this
        exact this
      obtain ⟨z0, z1, hfz⟩ := HZ.out
      have f0 := hfz 0
      have f1 := hfz 1
      clear hfz
      go_wp2_with fail
      (try simp only [Exit.inBlock, Exit.then])
      refine bodyPost_ret (v := lv a l.length c (w.heap.size + 1)) (by rw [results_cell1 (fn := Tryz.f27) (p := 2) (ty := 61) rfl]; go_simp) rfl ?_
      have hg := gb_trans (gb_setCell wr w.heap.size 0 (.slice a l.length c)) (gb_setCell _ w.heap.size 1 (.map (some (w.heap.size + 1))))
      exact ⟨_, rfl, HM2.out.kept hg (by simp), below_gb hh.out hg hh.out.size (Nat.le_refl _)⟩
end Go.Proofs.YtodjccfaipkpfaaGreatDoor.Fo
end

/-
  What is wrong with a node of the program's list.
-/
section
namespace Go.Proofs.YtodjccfaipkpfaaGreatDoor.Fo
set_option linter.unusedVariables false
open Go.RowKit V Go.Sort D Nd Qs Wk
attribute [local irreducible] Sch.heldN Sch.stepV Sch.stepE

/-- Whether a node comes too early. -/
def earlyN (l : List Nt) (i : Nat) (n : Nt) : Bool := match (if i = 0 then none else l[i - 1]?) with | none => false | some q => !less q.1 n.1
theorem early_zero (l : List Nt) (n : Nt) : earlyN l 0 n = false := rfl
theorem early_succ {l : List Nt} {j : Nat} (hj : j < l.length) (n : Nt) : earlyN l (j + 1) n = !less l[j].1 n.1 := by
  unfold earlyN
  rw [if_neg (Nat.succ_ne_zero j), Nat.add_sub_cancel, List.getElem?_eq_getElem hj]
theorem flaw_eq {l : List Nt} {i : Nat} (hi : i < l.length) : flawN l i = if validN l[i] = false then 1 else if earlyN l i l[i] = true then 2 else if rootR l[i].2.1 = true then 0 else match atS l l[i].2.1 with | none => 3 | some q => if l[i].2.2.1 ≤ q.2.2.1 then 4 else 0 := by
  unfold flawN
  rw [List.getElem?_eq_getElem hi]
  rfl
/-- The list's box, the node's box, the node before. -/
def Fk (g g2 b1 o1 : Nat) (a : Option Addr) (n c b : Nat) (q p : Nt) (w : World) : Prop := Lb w g a n c b ∧ Nb w g2 q ∧ Na w b1 o1 p
section
variable {g g2 b1 o1 n c b : Nat} {a : Option Addr} {q p : Nt}
theorem Fk.keep {w w' : World} (h : Fk g g2 b1 o1 a n c b q p w) (hb : Below w.heap.size w w') : Fk g g2 b1 o1 a n c b q p w' := ⟨h.1.keep hb, h.2.1.keep hb, h.2.2.keep hb⟩
theorem Fk.ls : ∀ w, Fk g g2 b1 o1 a n c b q p w → (Instr.loadAt 22 (.pointer (some ⟨g, 0, none⟩))).run Tryz.prog w = .ok (.slice a n c) w := fun w k => by
  obtain ⟨h0, -⟩ := k.1
  go_simp
theorem Fk.lm : ∀ w, Fk g g2 b1 o1 a n c b q p w → (Instr.loadAt 33 (.pointer (some ⟨b1, o1, none⟩))).run Tryz.prog w = .ok (dv p.1) w := fun w k => k.2.2.loadD
theorem Fk.ln : ∀ w, Fk g g2 b1 o1 a n c b q p w → (Instr.loadAt 33 (.pointer (some ⟨g2, 0, none⟩))).run Tryz.prog w = .ok (dv q.1) w := fun w k => by
  obtain ⟨h0, h1, -⟩ := k.2.1
  go_simp
end

set_option maxRecDepth 100000 in
set_option maxHeartbeats 4000000 in
theorem flaw_any (l : List Nt) (i : Nat) (hi : i < l.length) (a : Option Addr) (c b : Nat) (w : World) (hf : ∀ x ∈ l, fitN x) (hx : RowN w a l) (hm : Dm elInt w b 1000000 (idxG l)) (hlx : l.length ≤ 1000000) :
    Calls Tryz.prog 54 #[lv a l.length c b, .int .i64 (i : Int)] w fun e w' => e = .returned (.int .i64 (flawN l i)) ∧ Below w.heap.size w w' := by
  have HE := Lib.hid (flaw_eq hi)
  have HX := Lib.hid hx
  have HFp := Lib.hid (hf l[i] (List.getElem_mem hi)).2
  have hli : (l.length : Int) ≤ 1000000 := by omega
  have hi0 : (i : Int) < (l.length : Int) := by omega
  obtain ⟨b1, o1, rfl, hna⟩ := na_of hx i hi
  have hix := ixN b1 o1 l.length c i (i : Int) rfl hi
  obtain ⟨q, hq⟩ : ∃ q, q = l[i] := ⟨_, rfl⟩
  have HQ := Lib.hid hq
  rw [← hq] at hna HE HFp
  clear hq
  have HV := Lib.hid (fun w => validN_any q w)
  have HR := Lib.hid (fun w => root_any q.2.1 w)
  have HA : Hid (∀ z, z = idxG l q.2.1 → (z = none ∧ atS l q.2.1 = none) ∨ ∃ k, ∃ hk : k < l.length, z = some (k : Int) ∧ atS l q.2.1 = some l[k]) := fun z hz => by
    rcases hq : idxG l q.2.1 with _ | y
    · exact .inl ⟨hz.trans hq, idxG_none.1 hq⟩
    · obtain ⟨k, hk, e, -, h2⟩ := idxG_some hq
      exact .inr ⟨k, hk, by rw [hz, hq, e], h2⟩
  obtain ⟨z, hz⟩ : ∃ z, z = idxG l q.2.1 := ⟨_, rfl⟩
  have HZ := Lib.hid (HA.out z hz)
  have HLk := Lib.hid (fun w (h : Dm elInt w b 1000000 (idxG l)) => h.look_ok uInt (zInt w) HFp.out)
  rw [← hz] at HLk
  clear hz HA
  obtain ⟨o, ho⟩ : ∃ o, o = earlyN l i q := ⟨_, rfl⟩
  rw [← ho] at HE
  have HO := Lib.hid ho
  clear ho
  generalize validN q = vd at *
  generalize rootR q.2.1 = rt at *
  have hb1 := bel_box w (.cells #[.slice (some ⟨b1, o1, none⟩) l.length c, .map (some b)] 61)
  have hb2 := bel_box (w.alloc (.cells #[.slice (some ⟨b1, o1, none⟩) l.length c, .map (some b)] 61)) (.cells (nc q) 35)
  have HN2 : Hid (Nb ((w.alloc (.cells #[.slice (some ⟨b1, o1, none⟩) l.length c, .map (some b)] 61)).alloc (.cells (nc q) 35)) (w.heap.size + 1) q) := by
    have h := Nb.new (w.alloc (.cells #[.slice (some ⟨b1, o1, none⟩) l.length c, .map (some b)] 61)) q
    rw [show (w.alloc (.cells #[.slice (some ⟨b1, o1, none⟩) l.length c, .map (some b)] 61)).heap.size = w.heap.size + 1 by simp] at h
    exact h
  have HL2 := Lib.hid ((Lb.new w (some ⟨b1, o1, none⟩) l.length c b).keep hb2)
  have HX2 := Lib.hid ((HX.out.keep hb1).keep hb2)
  have HM2 := Lib.hid ((hm.keep hb1).keep hb2)
  have HB := bel_tr hb1 hb2
  have hna1 := hna.keep hb1
  clear hx hf hlx hm hb1 hb2 HX hna
  obtain ⟨n0, n1, n2, n3, n4, n5⟩ := hna1
  obtain ⟨⟨q1, q2⟩, ⟨q3, q4⟩, q5, q6⟩ := q
  generalize flawN l i = R at *
  go_enter Tryz.func54, Tryz.ntmps54
  go_wp2_with fail
  generalize hw2 : ((w.alloc (.cells #[.slice (some ⟨b1, o1, none⟩) l.length c, .map (some b)] 61)).alloc (.cells #[.int .i64 q1, .int .i64 q2, .int .i64 q3, .int .i64 q4, .int .i64 q5, .int .i32 q6] 35)) = w2 at *
  clear n0 n1 n2 n3 n4 n5 hw2
  refine (HV.out _).mono ?_
  rintro e w3 ⟨rfl, hb⟩
  replace HB := bel_tr HB hb
  replace HX2 := Lib.hid (HX2.out.keep hb)
  replace HM2 := Lib.hid (HM2.out.keep hb)
  replace HL2 := Lib.hid (HL2.out.keep hb)
  replace HN2 := Lib.hid (HN2.out.keep hb)
  clear hb HV
  rcases vd with _ | _
  · go_wp2_with fail
    go_ret
    exact ⟨by rw [HE.out]; rfl, HB.out⟩
  have HE2 : Hid (R = if o = true then 2 else if rt = true then 0 else match atS l (q3, q4) with | none => 3 | some q => if q5 ≤ q.2.2.1 then 4 else 0) := HE.out
  clear HE
  go_wp2_with fail
  have hd := (Below.refl w3.heap.size w3).drew
  replace HB := Lib.hid HB.out.drew
  replace HX2 := Lib.hid (HX2.out.keep hd)
  replace HM2 := Lib.hid (HM2.out.keep hd)
  replace HL2 := Lib.hid (HL2.out.keep hd)
  replace HN2 := Lib.hid (HN2.out.keep hd)
  clear hd
  go_cut [17] from 18 (fun s wx => s = .bool o ∧ Hid (Below w.heap.size w wx) ∧ Hid (RowN wx (some ⟨b1, o1, none⟩) l) ∧ Hid (Dm elInt wx b 1000000 (idxG l)) ∧ Hid (Lb wx w.heap.size (some ⟨b1, o1, none⟩) l.length c b) ∧ Hid (Nb wx (w.heap.size + 1) ((q1, q2), (q3, q4), q5, q6)))
  case first =>
    clear HE2 HZ HLk HR
    rcases i with _ | j
    · have hO : o = false := HO.out
      subst hO
      have HK : Hid (Fk w.heap.size (w.heap.size + 1) b1 (o1 + 0 * 6) (some ⟨b1, o1, none⟩) l.length c b ((q1, q2), (q3, q4), q5, q6) l[0] w3.drew) := ⟨HL2.out, HN2.out, by obtain ⟨b', o', e, h⟩ := na_of HX2.out 0 hi; cases e; exact h⟩
      have hg : decide ((0 : Int) < 0) = false := rfl
      refine Sch.wp_region_tn (Fk w.heap.size (w.heap.size + 1) b1 (o1 + 0 * 6) (some ⟨b1, o1, none⟩) l.length c b ((q1, q2), (q3, q4), q5, q6) l[0]) (.val 0 (.val 1 (.val 2 (.val 3 (.val 4 (.val 5 (.val 6 (.val 7 (.val 8 (.val 9 (.val 10 (.val 11 (.one 12 (.val 13 (.val 14 (.val 15 .done)))))))))))))))) (by kernel_rfl) (by kernel_rfl) HK.out ?_
      repeat (first
        | (refine Sch.tn_q rfl rfl rfl (fun K hK => ?_); go_big_quiet_op; (first | refine hK _ ?_ | refine ⟨_, fun _ _ => rfl, hK _ ?_⟩); clear hK K)
        | (refine Sch.tn_chk _ _ _ rfl rfl rfl rfl rfl ?_; simp only [Act.put, List.setIfInBounds_toArray, List.set_cons_zero, List.set_cons_succ])
        | (refine Sch.tn_load _ _ _ _ _ rfl rfl rfl rfl (by first | exact Fk.ls | exact Fk.lm | exact Fk.ln) rfl ?_; simp only [Act.put, List.setIfInBounds_toArray, List.set_cons_zero, List.set_cons_succ]))
      repeat (first
        | (refine Sch.tn_q rfl rfl rfl (fun K hK => ?_); go_big_quiet_op; (first | refine hK _ ?_ | refine ⟨_, fun _ _ => rfl, hK _ ?_⟩); clear hK K)
        | (refine Sch.tn_chk _ _ _ rfl rfl rfl rfl rfl ?_; simp only [Act.put, List.setIfInBounds_toArray, List.set_cons_zero, List.set_cons_succ])
        | (refine Sch.tn_load _ _ _ _ _ rfl rfl rfl rfl (by first | exact Fk.ls | exact Fk.lm | exact Fk.ln) rfl ?_; simp only [Act.put, List.setIfInBounds_toArray, List.set_cons_zero, List.set_cons_succ])
        | (refine Sch.tn_s _ rfl rfl rfl ?_; simp only [Act.put, List.setIfInBounds_toArray, List.set_cons_zero, List.set_cons_succ])
        | (refine Sch.tn_se _ rfl rfl rfl ?_; simp only [Act.put, List.setIfInBounds_toArray, List.set_cons_zero, List.set_cons_succ]))
      refine Sch.tn_n ?_
      go_wp2_with fail
      go_meet
      case rel => exact ⟨rfl, HB, HX2, HM2, HL2, HN2⟩
    · have hj : j < l.length := by omega
      have hO : o = !less l[j].1 (q1, q2) := HO.out.trans (early_succ hj _)
      obtain ⟨b2, o2, e2, hnb⟩ := na_of HX2.out j hj
      cases e2
      obtain ⟨p, hp⟩ : ∃ p, p = l[j] := ⟨_, rfl⟩
      rw [← hp] at hnb hO
      clear hp
      have HK : Hid (Fk w.heap.size (w.heap.size + 1) b1 (o1 + j * 6) (some ⟨b1, o1, none⟩) l.length c b ((q1, q2), (q3, q4), q5, q6) p w3.drew) := ⟨HL2.out, HN2.out, hnb⟩
      have hi3 : (0 : Int) < (j : Int) + 1 := by omega
      have hg : decide ((0 : Int) < (j : Int) + 1) = true := by rw [decide_eq_true_eq]; exact hi3
      have hwr := wrap_nat (show (j : Int) ≤ 140737488355328 by omega)
      have hixj := ixN b1 o1 l.length c j (j : Int) rfl hj
      have HC := Lib.hid (fun w => compare_any p.1 (q1, q2) w)
      have hcg := cmp_ge p.1 (q1, q2)
      obtain ⟨z, hz⟩ : ∃ z, z = cmpR p.1 (q1, q2) := ⟨_, rfl⟩
      rw [← hz] at HC hcg
      rw [← hO] at hcg
      clear hz hO hnb
      rw [show ((j + 1 : Nat) : Int) = (j : Int) + 1 from rfl]
      refine Sch.wp_region_tn (Fk w.heap.size (w.heap.size + 1) b1 (o1 + j * 6) (some ⟨b1, o1, none⟩) l.length c b ((q1, q2), (q3, q4), q5, q6) p) (.val 0 (.val 1 (.val 2 (.val 3 (.val 4 (.val 5 (.val 6 (.val 7 (.val 8 (.val 9 (.val 10 (.val 11 (.one 12 (.val 13 (.val 14 (.val 15 .done)))))))))))))))) (by kernel_rfl) (by kernel_rfl) HK.out ?_
      repeat (first
        | (refine Sch.tn_q rfl rfl rfl (fun K hK => ?_); go_big_quiet_op; (first | refine hK _ ?_ | refine ⟨_, fun _ _ => rfl, hK _ ?_⟩); clear hK K)
        | (refine Sch.tn_chk _ _ _ rfl rfl rfl rfl rfl ?_; simp only [Act.put, List.setIfInBounds_toArray, List.set_cons_zero, List.set_cons_succ])
        | (refine Sch.tn_load _ _ _ _ _ rfl rfl rfl rfl (by first | exact Fk.ls | exact Fk.lm | exact Fk.ln) rfl ?_; simp only [Act.put, List.setIfInBounds_toArray, List.set_cons_zero, List.set_cons_succ]))
      generalize w3.drew = w4 at *
      refine Sch.tn_e rfl rfl (fun K hK => ?_)
      go_wp2_with fail
      refine (HC.out _).mono ?_
      rintro e w5 ⟨rfl, hl⟩
      have hb := hl.bel
      replace HB := bel_tr HB hb
      replace HX2 := Lib.hid (HX2.out.keep hb)
      replace HM2 := Lib.hid (HM2.out.keep hb)
      replace HL2 := Lib.hid (HL2.out.keep hb)
      replace HN2 := Lib.hid (HN2.out.keep hb)
      replace HK := Lib.hid (HK.out.keep hb)
      clear hb hl
      refine hK _ _ HK.out ?_
      clear hK K
      repeat (first
        | (refine Sch.tn_q rfl rfl rfl (fun K hK => ?_); go_big_quiet_op; (first | refine hK _ ?_ | refine ⟨_, fun _ _ => rfl, hK _ ?_⟩); clear hK K)
        | (refine Sch.tn_chk _ _ _ rfl rfl rfl rfl rfl ?_; simp only [Act.put, List.setIfInBounds_toArray, List.set_cons_zero, List.set_cons_succ])
        | (refine Sch.tn_load _ _ _ _ _ rfl rfl rfl rfl (by first | exact Fk.ls | exact Fk.lm | exact Fk.ln) rfl ?_; simp only [Act.put, List.setIfInBounds_toArray, List.set_cons_zero, List.set_cons_succ]))
      refine Sch.tn_n ?_
      go_wp2_with fail
      go_meet
      case rel => exact ⟨rfl, HB, HX2, HM2, HL2, HN2⟩
  case rest =>
    obtain ⟨rfl, HB, HX2, HM2, HL2, HN2⟩ := hcut
    rcases o with _ | _
    case true =>
      go_wp2_with fail
      go_ret
      exact ⟨by rw [HE2.out]; rfl, HB.out⟩
    have HE3 : Hid (R = if rt = true then 0 else match atS l (q3, q4) with | none => 3 | some q => if q5 ≤ q.2.2.1 then 4 else 0) := HE2.out
    clear HE2
    obtain ⟨n0, n1, n2, n3, n4, n5⟩ := HN2.out
    go_wp2_with fail
    refine (HR.out _).mono ?_
    rintro e w6 ⟨rfl, hb⟩
    replace HB := bel_tr HB hb
    replace HX2 := Lib.hid (HX2.out.keep hb)
    replace HM2 := Lib.hid (HM2.out.keep hb)
    replace HL2 := Lib.hid (HL2.out.keep hb)
    replace HN2 := Lib.hid (HN2.out.keep hb)
    clear hb HR n0 n1 n2 n3 n4 n5
    rcases rt with _ | _
    case true =>
      go_wp2_with fail
      go_ret
      exact ⟨by rw [HE3.out]; rfl, HB.out⟩
    have HE4 : Hid (R = match atS l (q3, q4) with | none => 3 | some q => if q5 ≤ q.2.2.1 then 4 else 0) := HE3.out
    clear HE3
    obtain ⟨n0, n1, n2, n3, n4, n5⟩ := HN2.out
    obtain ⟨l0, l1⟩ := HL2.out
    have hlk := HLk.out _ HM2.out
    rcases HZ.out with ⟨rfl, ha⟩ | ⟨k, hk, rfl, ha⟩
    · have hlk2 : (Instr.lookup 49 (.map (some b)) (dv (q3, q4)) true).run Tryz.prog w6 = .ok (.tuple #[.int .i64 0, .bool false]) w6 := hlk
      rw [ha] at HE4
      clear hlk ha HZ HLk
      go_wp2_with fail
      go_ret
      exact ⟨by rw [HE4.out]; rfl, HB.out⟩
    · have hlk2 : (Instr.lookup 49 (.map (some b)) (dv (q3, q4)) true).run Tryz.prog w6 = .ok (.tuple #[.int .i64 (k : Int), .bool true]) w6 := hlk
      rw [ha] at HE4
      obtain ⟨b2, o2, e2, hnb⟩ := na_of HX2.out k hk
      cases e2
      obtain ⟨p, hp⟩ : ∃ p, p = l[k] := ⟨_, rfl⟩
      rw [← hp] at hnb HE4
      obtain ⟨-, -, -, -, p4, -⟩ := hnb
      have hixk := ixN b1 o1 l.length c k (k : Int) rfl hk
      clear hlk ha HZ HLk hp
      by_cases ht : q5 ≤ p.2.2.1
      · have HE5 : Hid (R = 4) := by show _ = _; rw [HE4.out]; simp only; rw [if_pos ht]
        clear HE4
        go_wp2_with fail
        go_quiet (fail)
        go_wp2_with fail
        go_ret
        exact ⟨by rw [HE5.out]; rfl, bel_drewN HB.out _⟩
      · have HE5 : Hid (R = 0) := by show _ = _; rw [HE4.out]; simp only; rw [if_neg ht]
        clear HE4
        go_wp2_with fail
        go_quiet (fail)
        go_wp2_with fail
        go_ret
        exact ⟨by rw [HE5.out]; rfl, bel_drewN HB.out _⟩
end Go.Proofs.YtodjccfaipkpfaaGreatDoor.Fo
end

/-
  Rows of Booleans of a call's own; what is wrong with each node, who is marked, who is above.
-/
section
namespace Go.Proofs.YtodjccfaipkpfaaGreatDoor.Fo
set_option linter.unusedVariables false
open Go.RowKit V Go.Sort D Nd Qs Wk
attribute [local irreducible] Sch.heldN Sch.stepV Sch.stepE

/-- A row of Booleans. -/
def RowB (w : World) (a : Option Addr) (l : List Bool) : Prop :=
  l = [] ∨ ∃ b o, a = some ⟨b, o, none⟩ ∧ ∀ i (h : i < l.length), w.cell? ⟨b, o + i, none⟩ = some (.bool l[i])
theorem RowB.lit (w : World) (g : Nat) (hg : g = w.heap.size) (x : Bool) (t : TypeId) : RowB (w.alloc (.cells #[.bool x] t)) (some ⟨g, 0, none⟩) [x] := by
  subst hg
  refine .inr ⟨_, _, rfl, fun i hi => ?_⟩
  obtain rfl : i = 0 := by simpa using hi
  rw [Nat.zero_add, World.cell?_alloc_new w #[.bool x] t 0]
  rfl
theorem rowB_news {w : World} {b o : Nat} {m : List Bool} (h : RowB w (some ⟨b, o, none⟩) m) : ∀ j u, (m.map Value.bool)[j]? = some u → w.cell? ((⟨b, o, none⟩ : Addr).add j) = some u := by
  intro j u hj
  have hjl : j < m.length := by
    have := (List.getElem?_eq_some_iff.1 hj).1
    rwa [List.length_map] at this
  rcases h with rfl | ⟨b', o', e, hc⟩
  · simp at hjl
  · cases e
    have e2 : (⟨b, o, none⟩ : Addr).add j = ⟨b, o + j, none⟩ := by unfold Addr.add; split <;> simp_all
    rw [e2, hc j hjl]
    simp [hjl] at hj
    rw [hj]
/-- Such a row of the call's own. -/
def OB (w : World) (base : Nat) (E : TypeId) (v : Value) (l : List Bool) : Prop := w.ownsRow base E 1 v l.length (l.map .bool)
section
variable {w w' : World} {base : Nat} {E : TypeId} {v : Value} {l : List Bool}
theorem OB.keep {row : Option Nat} (h : OB w base E v l) (hg : w.grownBy w' row) (hne : v.ownBlock = none ∨ v.ownBlock ≠ row) : OB w' base E v l := World.ownsRow.kept h hg hne
theorem OB.below (h : OB w base E v l) (hb : Below w.heap.size w w') : OB w' base E v l := h.keep (gb_below hb none) (by rcases v.ownBlock with _ | x <;> simp)
theorem OB.lt (h : OB w base E v l) : ∀ x, v.ownBlock = some x → base ≤ x ∧ x < w.heap.size := World.ownsRow.lt h
theorem OB.row (h : OB w base E v l) : (v = .slice none 0 0 ∧ l = []) ∨ ∃ g c, v = .slice (some ⟨g, 0, none⟩) l.length c ∧ base ≤ g ∧ g < w.heap.size := by
  rcases h.2 with ⟨rfl, h0⟩ | ⟨g, cap, cur, rfl, hb, hg, -⟩
  · exact .inl ⟨rfl, List.eq_nil_of_length_eq_zero h0⟩
  · exact .inr ⟨g, cap, rfl, hb, (Array.getElem?_eq_some_iff.1 hg).1⟩
theorem OB.mono {base' : Nat} (h : OB w base E v l) (hb : base' ≤ base) : OB w base' E v l := by
  refine ⟨h.1, ?_⟩
  rcases h.2 with hn | ⟨g, cap, cur, rfl, hbg, rest⟩
  · exact .inl hn
  · exact .inr ⟨g, cap, cur, rfl, Nat.le_trans hb hbg, rest⟩
theorem OB.at {g n c : Nat} (h : OB w base E (.slice (some ⟨g, 0, none⟩) n c) l) (k : Nat) (hk : k < l.length) : w.cell? ⟨g, k, none⟩ = some (.bool l[k]) := by
  have hn : n = l.length := by
    rcases h.2 with ⟨e, -⟩ | ⟨_, _, _, e, -⟩
    · cases e
    · simp only [Value.slice.injEq] at e; exact e.2.1
  subst hn
  have := World.ownsRow.cellAt h k (by omega)
  rw [this]
  simp [hk]
theorem OB.free {g n c : Nat} (h : OB w base E (.slice (some ⟨g, 0, none⟩) n c) l) (k : Nat) : w.frozen? ⟨g, k, none⟩ = false := by
  have hn : n = l.length := by
    rcases h.2 with ⟨e, -⟩ | ⟨_, _, _, e, -⟩
    · cases e
    · simp only [Value.slice.injEq] at e; exact e.2.1
  subst hn
  exact World.ownsRow.frozenAt h k
theorem OB.set {g n c : Nat} (h : OB w base E (.slice (some ⟨g, 0, none⟩) n c) l) (k : Nat) (x : Bool) : OB (w.setCell ⟨g, k, none⟩ (.bool x)) base E (.slice (some ⟨g, 0, none⟩) n c) (l.set k x) := by
  have hn : n = l.length := by
    rcases h.2 with ⟨e, -⟩ | ⟨_, _, _, e, -⟩
    · cases e
    · simp only [Value.slice.injEq] at e; exact e.2.1
  subst hn
  have := (World.ownsRow.stored h k (.bool x)).1
  unfold OB
  rw [List.length_set, List.map_set]
  exact this
end
theorem infoB : (Tryz.prog.info? 4).map (fun i => (i.zero, i.size, i.bytes)) = some (some (.bool false), 1, 1) := by kernel_rfl
theorem infoF : (Tryz.prog.info? 42).map (fun i => (i.zero, i.size, i.bytes)) = some (some (.int .i64 0), 1, 8) := by kernel_rfl
theorem infoI : (Tryz.prog.info? 3).map (fun i => (i.zero, i.size, i.bytes)) = some (some (.int .i64 0), 1, 8) := by kernel_rfl
/-- append of Booleans to such a row. -/
theorem run_appB {P : Program} {w : World} {base : Nat} {T E : TypeId} (hT : P.underlying T = some (.slice E)) (hinfo : (P.info? E).map (fun i => (i.zero, i.size, i.bytes)) = some (some (.bool false), 1, 1))
    {v : Value} {l : List Bool} (h : OB w base E v l) (ty : TypeId) (b o c : Nat) (m : List Bool) (hrow : RowB w (some ⟨b, o, none⟩) m) (hlen : l.length + m.length ≤ 8796093022208) (hbase : base ≤ w.heap.size) :
    ∃ v' w', (Builtin.append_ #[T, T] ty #[v, .slice (some ⟨b, o, none⟩) m.length c]).run P w = .ok v' w' ∧ OB w' base E v' (l ++ m) ∧ w.grownBy w' v.ownBlock ∧ G.Grew w v v' := by
  obtain ⟨i, hi, hz0, hz1, hz2⟩ := G.info_of hinfo
  obtain ⟨v', w', hr, ho, hg, _, hgr⟩ := run_append_own_at (P := P) w base T ty E i (.bool false) 1 1 hT hi hz0 hz1 hz2 rfl (by omega) v _ _ h ⟨b, o, none⟩ m.length c (m.map .bool) (by simp) (rowB_news hrow)
    (by intro u hu; simp only [List.mem_map] at hu; obtain ⟨x, _, rfl⟩ := hu; rfl) (by unfold maxLen; omega) (by omega) hbase
  refine ⟨v', w', hr, ?_, hg, hgr⟩
  unfold OB
  rw [List.length_append, List.map_append]
  exact ho
theorem wpList_appB {P : Program} {w : World} {ops : Array Oper} {rest : List Oper} {x : Oper} {a : Act} {Q : Exit → Act → World → Prop} (hgd : x.guard = none) (s y : Operand) (T : TypeId)
    (ho : x.op = .call { callee := .builtin .append, args := #[s, y], argTypes := #[T, T] })
    {base : Nat} {E : TypeId} (hT : P.underlying T = some (.slice E)) (hinfo : (P.info? E).map (fun i => (i.zero, i.size, i.bytes)) = some (some (.bool false), 1, 1))
    (v : Value) (l : List Bool) (hs : a.eval s = v) (h : OB w base E v l) (b o c n : Nat) (m : List Bool) (hn : n = m.length) (hx : a.eval y = .slice (some ⟨b, o, none⟩) n c) (hrow : RowB w (some ⟨b, o, none⟩) m)
    (hlen : l.length + m.length ≤ 8796093022208) (hbase : base ≤ w.heap.size)
    (hk : ∀ v' w', OB w' base E v' (l ++ m) → w.grownBy w' v.ownBlock → G.Grew w v v' → wpList P ops Q rest (a.put x.dst v') w') : wpList P ops Q (x :: rest) a w := by
  subst hn
  obtain ⟨v', w', hr, h2, h3, h4⟩ := run_appB hT hinfo h x.type b o c m hrow hlen hbase
  refine wpList_plain hgd fun K hK => ?_
  unfold Oper.wp execOp
  simp only [ho, resolve, invoke, builtin, Sem.run_bind, Sem.run_pure, Result.andThen_ok, List.map_toArray, List.map_cons, List.map_nil, hs, hx, hr]
  exact hK _ _ (hk v' w' h2 h3 h4)
theorem run_mkB {P : Program} (w : World) (base : Nat) {T E : TypeId} (hT : P.underlying T = some (.slice E)) (hinfo : (P.info? E).map (fun i => (i.zero, i.size, i.bytes)) = some (some (.bool false), 1, 1))
    (c : Nat) (hc : c ≤ 8796093022208) (hbase : base ≤ w.heap.size) :
    ∃ w' v, (Instr.makeSlice T (.int .i64 0) (.int .i64 (c : Int))).run P w = .ok v w' ∧ OB w' base E v [] ∧ Below w.heap.size w w' := by
  obtain ⟨i, hi, hz0, hz1, hz2⟩ := G.info_of hinfo
  obtain ⟨w', hr, ho, hg⟩ := run_make_own (P := P) w base T E i (.bool false) 1 hT hi hz0 hz1 .i64 .i64 c (by rw [hz2]; omega) (by unfold maxLen; omega) hbase
  exact ⟨w', _, hr, ho, (Below.refl _ _).grown hg (Nat.le_refl _) (fun k hk => by cases hk)⟩
/-- The same of numbers. -/
theorem oi_set {w : World} {base g n c : Nat} {E : TypeId} {l : List Int} (h : G.OI w base E .i64 (.slice (some ⟨g, 0, none⟩) n c) l) (k : Nat) (x : Int) : G.OI (w.setCell ⟨g, k, none⟩ (.int .i64 x)) base E .i64 (.slice (some ⟨g, 0, none⟩) n c) (l.set k x) := by
  have hn : n = l.length := by
    rcases h.2 with ⟨e, -⟩ | ⟨_, _, _, e, -⟩
    · cases e
    · simp only [Value.slice.injEq] at e; exact e.2.1
  subst hn
  have := (World.ownsRow.stored h k (.int .i64 x)).1
  unfold G.OI
  rw [List.length_set, List.map_set]
  exact this
theorem oi_at {w : World} {base g n c : Nat} {E : TypeId} {l : List Int} (h : G.OI w base E .i64 (.slice (some ⟨g, 0, none⟩) n c) l) (k : Nat) (hk : k < l.length) : w.cell? ⟨g, k, none⟩ = some (.int .i64 l[k]) := by
  have hn : n = l.length := by
    rcases h.2 with ⟨e, -⟩ | ⟨_, _, _, e, -⟩
    · cases e
    · simp only [Value.slice.injEq] at e; exact e.2.1
  subst hn
  have := World.ownsRow.cellAt h k (by omega)
  rw [this]
  simp [hk]
theorem oi_free {w : World} {base g n c : Nat} {E : TypeId} {l : List Int} (h : G.OI w base E .i64 (.slice (some ⟨g, 0, none⟩) n c) l) (k : Nat) : w.frozen? ⟨g, k, none⟩ = false := by
  have hn : n = l.length := by
    rcases h.2 with ⟨e, -⟩ | ⟨_, _, _, e, -⟩
    · cases e
    · simp only [Value.slice.injEq] at e; exact e.2.1
  subst hn
  exact World.ownsRow.frozenAt h k

set_option maxRecDepth 100000 in
set_option maxHeartbeats 4000000 in
theorem flaws_any (l : List Nt) (a : Option Addr) (c b : Nat) (w : World) (hf : ∀ x ∈ l, fitN x) (hx : RowN w a l) (hm : Dm elInt w b 1000000 (idxG l)) (hlx : l.length ≤ 1000000) :
    Calls Tryz.prog 33 #[lv a l.length c b] w fun e w' => ∃ v, e = .returned v ∧ G.OI w' w.heap.size 42 .i64 v (flawT l l.length) ∧ Below w.heap.size w w' := by
  have HF := Lib.hid (fun (k : Nat) hk w h1 h2 => flaw_any l k hk a c b w hf h1 h2 hlx)
  have hb1 := bel_box w (.cells #[.slice a l.length c, .map (some b)] 61)
  have HX := Lib.hid (hx.keep hb1)
  have HM := Lib.hid (hm.keep hb1)
  have HL := Lib.hid (Lb.new w a l.length c b)
  have HB := Lib.hid hb1
  have hli : (l.length : Int) ≤ 1000000 := by omega
  have HLn := Lib.hid hlx
  clear hf hx hm hb1 hlx
  go_enter Tryz.func33, Tryz.ntmps33
  go_upto_region 1 with fail
  generalize hw1 : w.alloc (.cells #[.slice a l.length c, .map (some b)] 61) = w1 at *
  clear hw1
  obtain ⟨w3, v3, hmk, ho3, hb3⟩ := G.run_mkI w1 w1.heap.size Tryz.underlying68 infoF l.length (by have := HLn.out; omega) (by omega) (Nat.le_refl _)
  have HO3 := Lib.hid ho3
  have HZ3 := Lib.hid hb3
  obtain ⟨l0, l1⟩ := HL.out
  obtain ⟨m0, m1⟩ := HL.out.keep hb3
  clear ho3 hb3
  go_wp2_with fail
  go_loopw [3, 4, 12] (fun v _ i wr => ∃ k : Nat, k ≤ l.length ∧ i = .int .i64 (k : Int) ∧ Hid (Below w1.heap.size w1 wr) ∧ Hid (G.OI wr w1.heap.size 42 .i64 v (flawT l k))) (fun _ _ i _ => l.length - (intOf i).toNat)
  case atStart => exact ⟨0, Nat.zero_le _, rfl, HZ3, HO3⟩
  case round =>
    clear HO3 HZ3 l0 l1 m0 m1
    obtain ⟨k, hk, rfl, HZ, HO⟩ := hrel
    by_cases hlt : k < l.length
    · have hi0 : (k : Int) < (l.length : Int) := by omega
      have HT := Lib.hid (flawT_succ l k)
      have HKl : Hid ((flawT l k).length ≤ 1000000) := by show _ ≤ _; rw [flawT_len]; omega
      obtain ⟨l0, l1⟩ := HL.out.keep HZ.out
      have HC := Lib.hid (HF.out k hlt wr (HX.out.keep HZ.out) (HM.out.keep HZ.out))
      generalize flawN l k = z at *
      go_wp2_with fail
      refine HC.out.mono ?_
      rintro e w5 ⟨rfl, hb⟩
      have hb2 := bel_box w5 (.cells #[.int .i64 z] 42)
      have HZ2 := bel_tr (bel_tr HZ hb) hb2
      have HO2 := Lib.hid ((HO.out.below hb).below hb2)
      have HBs : Hid (w1.heap.size ≤ (w5.alloc (.cells #[.int .i64 z] 42)).heap.size) := HZ2.out.size
      clear hb hb2 HC l0 l1
      go_wp2_with (at_builtin; refine G.wpList_appI rfl (.tmp 15) (.tmp 19) 68 rfl Tryz.underlying68 infoF _ (flawT l k) rfl HO2.out w5.heap.size 0 1 1 [z] rfl rfl (G.RowI.lit .i64 w5 _ rfl [z] _ _ rfl) (by have := HKl.out; simp; omega) (by omega) HBs.out ?_; intro v' w' ho' hg' hgr')
      have HO7 : Hid (G.OI w' w1.heap.size 42 .i64 v' (flawT l (k + 1))) := by show G.OI _ _ _ _ _ _; rw [HT.out]; exact ho'
      have HZ7 := Lib.hid (HZ2.out.grown hg' HZ2.out.size (fun x hx => (HO2.out.lt x hx).1))
      clear ho' hg' hgr'
      refine ⟨⟨k + 1, by omega, by go_num, HZ7, HO7⟩, ?_⟩
      simp [intOf]; omega
    · obtain rfl : k = l.length := by omega
      have hend : ¬ (l.length : Int) < (l.length : Int) := by omega
      have HB4 := bel_tr HB HZ.out
      have HO4 := Lib.hid (HO.out.mono HB.out.size)
      clear HO
      go_wp2_with fail
      go_ret
      exact ⟨_, rfl, HO4.out, HB4.out⟩
end Go.Proofs.YtodjccfaipkpfaaGreatDoor.Fo
end

/-
  Who has a flaw, and who is above, in the program's list.
-/
section
namespace Go.Proofs.YtodjccfaipkpfaaGreatDoor.Fo
set_option linter.unusedVariables false
open Go.RowKit V Go.Sort D Nd Qs Wk
attribute [local irreducible] Sch.heldN Sch.stepV Sch.stepE

theorem rowI_at {k : IntKind} {w : World} {a : Option Addr} {l : List Int} (h : G.RowI k w a l) (i : Nat) (hi : i < l.length) : ∃ b o, a = some ⟨b, o, none⟩ ∧ w.cell? ⟨b, o + i, none⟩ = some (.int k l[i]) := by
  rcases h with rfl | ⟨b, o, rfl, hc⟩
  · simp at hi
  · exact ⟨b, o, rfl, hc i hi⟩
theorem rowI_gb {k : IntKind} {w w' : World} {a : Option Addr} {l : List Int} {r : Option Nat} (h : G.RowI k w a l) (hg : w.grownBy w' r) (hne : ∀ b o, a = some ⟨b, o, none⟩ → some b ≠ r) : G.RowI k w' a l :=
  h.of_heap fun b ⟨o, e⟩ hl => hg.block b hl (hne b o e)
/-- The block of a row that grows is no block between two marks. -/
def Out (s3 s4 : Nat) (v : Value) : Prop := ∀ x, v.ownBlock = some x → x < s3 ∨ s4 ≤ x
theorem Out.grew {s3 s4 : Nat} {w : World} {v v' : Value} (h : Out s3 s4 v) (hg : G.Grew w v v') (hs : s4 ≤ w.heap.size) : Out s3 s4 v' := fun x hx => by
  rcases hg with e | e
  · exact h x (e ▸ hx)
  · rw [e] at hx; cases hx; exact .inr hs
theorem keepI {k : IntKind} {w w' : World} {a : Option Addr} {l : List Int} (h : G.RowI k w a l) (hb : Below w.heap.size w w') : G.RowI k w' a l := h.keep hb (Nat.le_refl _)

set_option maxRecDepth 100000 in
set_option maxHeartbeats 4000000 in
theorem flawed_any (l : List Nt) (a : Option Addr) (c b : Nat) (w : World) (hf : ∀ x ∈ l, fitN x) (hx : RowN w a l) (hm : Dm elInt w b 1000000 (idxG l)) (hlx : l.length ≤ 1000000) :
    Calls Tryz.prog 47 #[lv a l.length c b] w fun e w' => ∃ v, e = .returned v ∧ OB w' w.heap.size 4 v (flawB l l.length) ∧ Below w.heap.size w w' := by
  have HF := Lib.hid (fun w h1 h2 => flaws_any l a c b w hf h1 h2 hlx)
  have hb1 := bel_box w (.cells #[.slice a l.length c, .map (some b)] 61)
  have HX := Lib.hid (hx.keep hb1)
  have HM := Lib.hid (hm.keep hb1)
  have HL := Lib.hid (Lb.new w a l.length c b)
  have HB := Lib.hid hb1
  have hli : (l.length : Int) ≤ 1000000 := by omega
  have HLn := Lib.hid hlx
  clear hf hx hm hb1 hlx
  go_enter Tryz.func47, Tryz.ntmps47
  go_upto_region 1 with fail
  generalize hw1 : w.alloc (.cells #[.slice a l.length c, .map (some b)] 61) = w1 at *
  clear hw1
  obtain ⟨w3, v3, hmk, ho3, hb3⟩ := run_mkB w1 w1.heap.size Tryz.underlying59 infoB l.length (by have := HLn.out; omega) (Nat.le_refl _)
  have HO3 := Lib.hid ho3
  have HZ3 := Lib.hid hb3
  obtain ⟨l0, l1⟩ := HL.out
  obtain ⟨m0, m1⟩ := HL.out.keep hb3
  have HC := Lib.hid (HF.out w3 (HX.out.keep hb3) (HM.out.keep hb3))
  clear ho3 hb3 HF
  go_wp2_with fail
  refine HC.out.mono ?_
  rintro e w4 ⟨v4, rfl, ho, hb⟩
  have HO4 := Lib.hid (HO3.out.below hb)
  have HZ4 := bel_tr HZ3 hb
  obtain ⟨a4, c4, rfl, hr4, -, -, hx4⟩ := G.OI.row2 ho
  rw [flawT_len]
  have HR4 := Lib.hid hr4
  obtain ⟨s3, hs3⟩ : ∃ s3, s3 = w3.heap.size := ⟨_, rfl⟩
  obtain ⟨s4, hs4⟩ : ∃ s4, s4 = w4.heap.size := ⟨_, rfl⟩
  have HX4 : Hid (∀ g o, a4 = some ⟨g, o, none⟩ → s3 ≤ g ∧ g < s4) := fun g o e => by
    obtain ⟨-, h1, h2⟩ := hx4 _ e
    rw [hs3, hs4]
    exact ⟨h1, h2⟩
  have HU4 : Hid (Out s3 s4 v3) := fun x hx => .inl (by rw [hs3]; exact (HO3.out.lt x hx).2)
  have HS4 : Hid (s4 ≤ w4.heap.size) := Nat.le_of_eq hs4
  clear ho hb hr4 HC HO3 HZ3 l0 l1 m0 m1 hmk hx4 hs3 hs4
  go_wp2_with fail
  go_loopw [3, 5, 13] (fun v _ i wr => ∃ k : Nat, k ≤ l.length ∧ i = .int .i64 (k : Int) ∧ Hid (Below w1.heap.size w1 wr) ∧ Hid (G.RowI .i64 wr a4 (flawT l l.length)) ∧ Hid (OB wr w1.heap.size 4 v (flawB l k)) ∧ Hid (Out s3 s4 v) ∧ Hid (s4 ≤ wr.heap.size)) (fun _ _ i _ => l.length - (intOf i).toNat)
  case atStart => exact ⟨0, Nat.zero_le _, rfl, HZ4, HR4, HO4, HU4, HS4⟩
  case round =>
    clear HZ4 HR4 HO4 HU4 HS4
    obtain ⟨k, hk, rfl, HZ, HR, HO, HU, HS⟩ := hrel
    by_cases hlt : k < l.length
    · have hi0 : (k : Int) < (l.length : Int) := by omega
      have hkT : k < (flawT l l.length).length := by rw [flawT_len]; exact hlt
      have HT := Lib.hid (flawB_succ l k)
      have HKl : Hid ((flawB l k).length ≤ 1000000) := by show _ ≤ _; rw [flawB_len]; have := HLn.out; omega
      obtain ⟨b4, o4, rfl, hc⟩ := rowI_at HR.out k hkT
      rw [flawT_at] at hc
      generalize flawN l k = z at *
      have hzz : ∃ y : Bool, (z != 0) = y ∧ (!decide (z = 0)) = y := ⟨_, rfl, by by_cases h : z = 0 <;> simp [h]⟩
      obtain ⟨y, hy1, hy2⟩ := hzz
      rw [hy2] at HT
      have hb2 := bel_box wr (.cells #[.bool y] 4)
      have HZ2 := bel_tr HZ hb2
      have HO2 := Lib.hid (HO.out.below hb2)
      have HR2 := Lib.hid (keepI HR.out hb2)
      have HBs : Hid (w1.heap.size ≤ (wr.alloc (.cells #[.bool y] 4)).heap.size) := HZ2.out.size
      have HS2 : Hid (s4 ≤ (wr.alloc (.cells #[.bool y] 4)).heap.size) := Nat.le_trans HS.out hb2.size
      clear hb2 hy2
      go_wp2_with (at_builtin; refine wpList_appB rfl (.tmp 17) (.tmp 20) 59 rfl Tryz.underlying59 infoB _ (flawB l k) rfl HO2.out wr.heap.size 0 1 1 [y] rfl rfl (RowB.lit wr _ rfl y _) (by have := HKl.out; simp; omega) HBs.out ?_; intro v' w' ho' hg' hgr')
      have HO7 : Hid (OB w' w1.heap.size 4 v' (flawB l (k + 1))) := by show OB _ _ _ _ _; rw [HT.out]; exact ho'
      have HZ7 := Lib.hid (HZ2.out.grown hg' HZ2.out.size (fun x hx => (HO2.out.lt x hx).1))
      have HR7 := Lib.hid (rowI_gb HR2.out hg' (fun g o e e2 => by have h1 := HU.out g e2.symm; have h2 := HX4.out g o e; omega))
      have HU7 := Lib.hid (HU.out.grew hgr' HS2.out)
      have HS7 := Lib.hid (Nat.le_trans HS2.out hg'.size)
      clear ho' hg' hgr'
      refine ⟨⟨k + 1, by omega, by go_num, HZ7, HR7, HO7, HU7, HS7⟩, ?_⟩
      simp [intOf]; omega
    · obtain rfl : k = l.length := by omega
      have hend : ¬ (l.length : Int) < (l.length : Int) := by omega
      have HB4 := bel_tr HB HZ.out
      have HO4 := Lib.hid (HO.out.mono HB.out.size)
      clear HO
      go_wp2_with fail
      go_ret
      exact ⟨_, rfl, HO4.out, HB4.out⟩

set_option maxRecDepth 100000 in
set_option maxHeartbeats 4000000 in
theorem above_any (l : List Nt) (a : Option Addr) (c b : Nat) (w : World) (hf : ∀ x ∈ l, fitN x) (hx : RowN w a l) (hm : Dm elInt w b 1000000 (idxG l)) (hlx : l.length ≤ 1000000) :
    Calls Tryz.prog 48 #[lv a l.length c b] w fun e w' => ∃ v, e = .returned v ∧ G.OI w' w.heap.size 3 .i64 v (upT l l.length) ∧ Below w.heap.size w w' := by
  have HF := Lib.hid hf
  have hb1 := bel_box w (.cells #[.slice a l.length c, .map (some b)] 61)
  have HX := Lib.hid (hx.keep hb1)
  have HM := Lib.hid (hm.keep hb1)
  have HL := Lib.hid (Lb.new w a l.length c b)
  have HB := Lib.hid hb1
  have hli : (l.length : Int) ≤ 1000000 := by omega
  have HLn := Lib.hid hlx
  clear hf hx hm hb1 hlx
  go_enter Tryz.func48, Tryz.ntmps48
  go_upto_region 1 with fail
  generalize hw1 : w.alloc (.cells #[.slice a l.length c, .map (some b)] 61) = w1 at *
  clear hw1
  obtain ⟨w3, v3, hmk, ho3, hb3⟩ := G.run_mkI w1 w1.heap.size Tryz.underlying83 infoI l.length (by have := HLn.out; omega) (by omega) (Nat.le_refl _)
  have HO3 := Lib.hid ho3
  have HZ3 := Lib.hid hb3
  obtain ⟨l0, l1⟩ := HL.out
  obtain ⟨m0, m1⟩ := HL.out.keep hb3
  clear ho3 hb3
  go_wp2_with fail
  go_loopw [3, 5, 6, 7, 15, 19] (fun v _ _ _ i _ wr => ∃ k : Nat, k ≤ l.length ∧ i = .int .i64 (k : Int) ∧ Hid (Below w1.heap.size w1 wr) ∧ Hid (G.OI wr w1.heap.size 3 .i64 v (upT l k))) (fun _ _ _ _ i _ _ => l.length - (intOf i).toNat)
  case atStart => exact ⟨0, Nat.zero_le _, rfl, HZ3, HO3⟩
  case round =>
    clear HO3 HZ3 l0 l1 m0 m1
    obtain ⟨k, hk, rfl, HZ, HO⟩ := hrel
    by_cases hlt : k < l.length
    · have hi0 : (k : Int) < (l.length : Int) := by omega
      have HT := Lib.hid (upT_succ hlt)
      have HKl : Hid ((upT l k).length ≤ 1000000) := by show _ ≤ _; unfold upT; rw [List.length_map, List.length_take]; have := HLn.out; omega
      obtain ⟨b1, o1, e1, hna⟩ := na_of (HX.out.keep HZ.out) k hlt
      have HFq := Lib.hid (HF.out l[k] (List.getElem_mem hlt)).2
      obtain ⟨q, hq⟩ : ∃ q, q = l[k] := ⟨_, rfl⟩
      rw [← hq] at hna HT HFq
      subst e1
      clear hq
      have hb1 := bel_box wr (.cells (nc q) 35)
      obtain ⟨l0, l1⟩ := (HL.out.keep HZ.out).keep hb1
      have hlk := ((HM.out.keep HZ.out).keep hb1).look_ok uInt (zInt _) HFq.out
      have hu : upI l q = (idxG l q.2.1).getD (-1) := rfl
      rw [hu] at HT
      clear hu
      obtain ⟨n0, n1, n2, n3, n4, n5⟩ := hna
      have HB1 := Lib.hid hb1
      clear hb1
      rcases hz : idxG l q.2.1 with _ | z
      · rw [hz] at hlk HT
        have hlk2 : (Instr.lookup 49 (.map (some b)) (dv q.2.1) true).run Tryz.prog (wr.alloc (.cells (nc q) 35)) = .ok (.tuple #[.int .i64 0, .bool false]) (wr.alloc (.cells (nc q) 35)) := hlk
        have HT2 : Hid (upT l (k + 1) = upT l k ++ [-1]) := HT
        have hb2 := bel_box (wr.alloc (.cells (nc q) 35)) (.cells #[.int .i64 (-1)] 3)
        have HZ2 := bel_tr (bel_tr HZ HB1.out) hb2
        have HO2 := Lib.hid ((HO.out.below HB1.out).below hb2)
        have HBs : Hid (w1.heap.size ≤ ((wr.alloc (.cells (nc q) 35)).alloc (.cells #[.int .i64 (-1)] 3)).heap.size) := HZ2.out.size
        clear hb2 HB1 hlk HT hz
        obtain ⟨⟨q1, q2⟩, ⟨q3, q4⟩, q5, q6⟩ := q
        go_wp2_with (at_builtin; refine G.wpList_appI rfl (.tmp 29) (.tmp 31) 83 rfl Tryz.underlying83 infoI _ (upT l k) rfl HO2.out (wr.heap.size + 1) 0 1 1 [-1] rfl rfl (G.RowI.lit .i64 _ _ (by simp) [-1] _ _ rfl) (by have := HKl.out; simp; omega) (by omega) HBs.out ?_; intro v' w' ho' hg' hgr')
        have HO7 : Hid (G.OI w' w1.heap.size 3 .i64 v' (upT l (k + 1))) := by show G.OI _ _ _ _ _ _; rw [HT2.out]; exact ho'
        have HZ7 := Lib.hid (HZ2.out.grown hg' HZ2.out.size (fun x hx => (HO2.out.lt x hx).1))
        clear ho' hg' hgr' n0 n1 n2 n3 n4 n5 l0 l1 hlk2
        refine ⟨⟨k + 1, by omega, by go_num, HZ7, HO7⟩, ?_⟩
        simp [intOf]; omega
      · rw [hz] at hlk HT
        have hlk2 : (Instr.lookup 49 (.map (some b)) (dv q.2.1) true).run Tryz.prog (wr.alloc (.cells (nc q) 35)) = .ok (.tuple #[.int .i64 z, .bool true]) (wr.alloc (.cells (nc q) 35)) := hlk
        have HT2 : Hid (upT l (k + 1) = upT l k ++ [z]) := HT
        have hb2 := bel_box (wr.alloc (.cells (nc q) 35)) (.cells #[.int .i64 z] 3)
        have HZ2 := bel_tr (bel_tr HZ HB1.out) hb2
        have HO2 := Lib.hid ((HO.out.below HB1.out).below hb2)
        have HBs : Hid (w1.heap.size ≤ ((wr.alloc (.cells (nc q) 35)).alloc (.cells #[.int .i64 z] 3)).heap.size) := HZ2.out.size
        clear hb2 HB1 hlk HT hz
        obtain ⟨⟨q1, q2⟩, ⟨q3, q4⟩, q5, q6⟩ := q
        go_wp2_with (at_builtin; refine G.wpList_appI rfl (.tmp 29) (.tmp 31) 83 rfl Tryz.underlying83 infoI _ (upT l k) rfl HO2.out (wr.heap.size + 1) 0 1 1 [z] rfl rfl (G.RowI.lit .i64 _ _ (by simp) [z] _ _ rfl) (by have := HKl.out; simp; omega) (by omega) HBs.out ?_; intro v' w' ho' hg' hgr')
        have HO7 : Hid (G.OI w' w1.heap.size 3 .i64 v' (upT l (k + 1))) := by show G.OI _ _ _ _ _ _; rw [HT2.out]; exact ho'
        have HZ7 := Lib.hid (HZ2.out.grown hg' HZ2.out.size (fun x hx => (HO2.out.lt x hx).1))
        clear ho' hg' hgr' n0 n1 n2 n3 n4 n5 l0 l1 hlk2
        refine ⟨⟨k + 1, by omega, by go_num, HZ7, HO7⟩, ?_⟩
        simp [intOf]; omega
    · obtain rfl : k = l.length := by omega
      have hend : ¬ (l.length : Int) < (l.length : Int) := by omega
      have HB4 := bel_tr HB HZ.out
      have HO4 := Lib.hid (HO.out.mono HB.out.size)
      clear HO
      go_wp2_with fail
      go_ret
      exact ⟨_, rfl, HO4.out, HB4.out⟩
end Go.Proofs.YtodjccfaipkpfaaGreatDoor.Fo
end

/-
  What goes: the program's rounds.
-/
section
namespace Go.Proofs.YtodjccfaipkpfaaGreatDoor.Fo
set_option linter.unusedVariables false
open Go.RowKit V Go.Sort D Nd Qs Wk
attribute [local irreducible] Sch.heldN Sch.stepV Sch.stepE

/-- How many of a row are false. -/
def falses (w : World) (b n : Nat) : Nat := (List.range n).countP fun j => match w.cell? ⟨b, j, none⟩ with | some (.bool false) => true | _ => false
theorem falses_of {w : World} {b n : Nat} {g : List Bool} (hn : g.length = n) (h : ∀ k (hk : k < g.length), w.cell? ⟨b, k, none⟩ = some (.bool g[k])) : falses w b n = g.count false := by
  unfold falses
  subst hn
  have e : ∀ (g : List Bool) (o : Nat) (h : ∀ k (hk : k < g.length), w.cell? ⟨b, k + o, none⟩ = some (.bool g[k])), (List.range' o g.length).countP (fun j => match w.cell? ⟨b, j, none⟩ with | some (.bool false) => true | _ => false) = g.count false := by
    intro g
    induction g with
    | nil => intro o h; rfl
    | cons x t ih =>
      intro o h
      rw [List.length_cons, List.range'_succ, List.countP_cons, List.count_cons]
      have h0 := h 0 (by simp)
      rw [Nat.zero_add] at h0
      simp only [List.getElem_cons_zero] at h0
      rw [h0, ih (o + 1) (fun k hk => by
        have := h (k + 1) (by simpa using hk)
        rw [show k + (o + 1) = k + 1 + o by omega]
        simpa using this)]
      cases x <;> rfl
  rw [List.range_eq_range']
  exact e g 0 (fun k hk => by rw [Nat.add_zero]; exact h k hk)
/-- Lists without nodes. -/
theorem gone_nil {l : List Nt} (h : l.length = 0) : goneS l = [] := by
  rw [List.eq_nil_of_length_eq_zero h]; rfl
/-- The list's box lies where it lay. -/
def Lf (g : Nat) (a : Option Addr) (n c b : Nat) (w : World) : Prop := Lb w g a n c b
theorem Lf.keep {w w' : World} {g n c b : Nat} {a : Option Addr} (h : Lf g a n c b w) (hb : Below w.heap.size w w') : Lf g a n c b w' := Lb.keep h hb
theorem Lf.l {g n c b : Nat} {a : Option Addr} : ∀ w, Lf g a n c b w → (Instr.loadAt 61 (.pointer (some ⟨g, 0, none⟩))).run Tryz.prog w = .ok (lv a n c b) w := fun w h => Lb.load h
theorem ixB (b o n c k : Nat) (z : Int) (hz : z = (k : Int)) (hk : k < n) : ∀ w, (Instr.indexAt 59 (.slice (some ⟨b, o, none⟩) n c) (.int .i64 z)).run Tryz.prog w = .ok (.pointer (some ⟨b, o + k, none⟩)) w := by
  intro w
  subst hz
  have hk2 : (k : Int) < (n : Int) := by omega
  go_simp
theorem ixI (b o n c k : Nat) (z : Int) (hz : z = (k : Int)) (hk : k < n) : ∀ w, (Instr.indexAt 83 (.slice (some ⟨b, o, none⟩) n c) (.int .i64 z)).run Tryz.prog w = .ok (.pointer (some ⟨b, o + k, none⟩)) w := by
  intro w
  subst hz
  have hk2 : (k : Int) < (n : Int) := by omega
  go_simp

set_option maxRecDepth 100000 in
set_option maxHeartbeats 8000000 in
theorem gone_any (l : List Nt) (hv : validS l = true) (a : Option Addr) (c b : Nat) (w : World) (hf : ∀ x ∈ l, fitN x) (hx : RowN w a l) (hm : Dm elInt w b 1000000 (idxG l)) (hlx : l.length ≤ 1000000) :
    Calls Tryz.prog 28 #[lv a l.length c b] w fun e w' => ∃ v, e = .returned v ∧ OB w' w.heap.size 4 v (goneS l) ∧ Below w.heap.size w w' := by
  have HF := Lib.hid (fun w h1 h2 => flawed_any l a c b w hf h1 h2 hlx)
  have HAb := Lib.hid (fun w h1 h2 => above_any l a c b w hf h1 h2 hlx)
  have HV := Lib.hid hv
  have hb1 := bel_box w (.cells #[.slice a l.length c, .map (some b)] 61)
  have HX := Lib.hid (hx.keep hb1)
  have HM := Lib.hid (hm.keep hb1)
  have HL := Lib.hid (Lb.new w a l.length c b)
  have HB := Lib.hid hb1
  have hli : (l.length : Int) ≤ 1000000 := by omega
  have HLn := Lib.hid hlx
  clear hf hx hm hb1 hlx hv
  go_enter Tryz.func28, Tryz.ntmps28
  go_upto_region 1 with fail
  generalize hw1 : w.alloc (.cells #[.slice a l.length c, .map (some b)] 61) = w1 at *
  clear hw1
  have hd := (Below.refl w1.heap.size w1).drew
  replace HX := Lib.hid (HX.out.keep hd)
  replace HM := Lib.hid (HM.out.keep hd)
  have HL2 : Hid (Lf w.heap.size a l.length c b w1.drew) := HL.out.keep hd
  replace HB := bel_tr HB hd
  clear hd HL
  refine Sch.wp_region_tn (Lf w.heap.size a l.length c b) (.val 0 (.val 2 (.one 1 (.one 3 (.val 4 (.val 5 .done)))))) (by kernel_rfl) (by kernel_rfl) HL2.out ?_
  repeat (first
    | (refine Sch.tn_q rfl rfl rfl (fun K hK => ?_); go_big_quiet_op; (first | refine hK _ ?_ | refine ⟨_, fun _ _ => rfl, hK _ ?_⟩); clear hK K)
    | (refine Sch.tn_chk _ _ _ rfl rfl rfl rfl rfl ?_; simp only [Act.put, List.setIfInBounds_toArray, List.set_cons_zero, List.set_cons_succ])
    | (refine Sch.tn_load _ _ _ _ _ rfl rfl rfl rfl (by first | exact Lf.l) rfl ?_; simp only [Act.put, List.setIfInBounds_toArray, List.set_cons_zero, List.set_cons_succ]))
  generalize w1.drew = w2 at *
  have HS2 : Hid (w.heap.size ≤ w2.heap.size) := HB.out.size
  refine Sch.tn_e rfl rfl (fun K hK => ?_)
  go_wp2_with fail
  refine (HF.out _ HX.out HM.out).mono ?_
  rintro e w3 ⟨v3, rfl, ho, hb⟩
  have HO3 := Lib.hid ho
  replace HB := bel_tr HB hb
  replace HX := Lib.hid (HX.out.keep hb)
  replace HM := Lib.hid (HM.out.keep hb)
  replace HL2 := Lib.hid (HL2.out.keep hb)
  have HS3 : Hid (w.heap.size ≤ w3.heap.size) := HB.out.size
  clear ho hb HF
  refine hK _ _ HL2.out ?_
  clear hK K
  repeat (first
    | (refine Sch.tn_q rfl rfl rfl (fun K hK => ?_); go_big_quiet_op; (first | refine hK _ ?_ | refine ⟨_, fun _ _ => rfl, hK _ ?_⟩); clear hK K)
    | (refine Sch.tn_chk _ _ _ rfl rfl rfl rfl rfl ?_; simp only [Act.put, List.setIfInBounds_toArray, List.set_cons_zero, List.set_cons_succ])
    | (refine Sch.tn_load _ _ _ _ _ rfl rfl rfl rfl (by first | exact Lf.l) rfl ?_; simp only [Act.put, List.setIfInBounds_toArray, List.set_cons_zero, List.set_cons_succ]))
  refine Sch.tn_e rfl rfl (fun K hK => ?_)
  go_wp2_with fail
  refine (HAb.out _ HX.out HM.out).mono ?_
  rintro e w4 ⟨v4, rfl, ho, hb⟩
  have HU4 := Lib.hid ho
  have HO4 := Lib.hid (HO3.out.below hb)
  replace HB := bel_tr HB hb
  replace HL2 := Lib.hid (HL2.out.keep hb)
  have HLt := Lib.hid (fun x h => HO3.out.lt x h)
  have HGt := Lib.hid (fun x h => G.OI.lt ho x h)
  clear ho hb HAb HX HM HO3
  refine hK _ _ HL2.out ?_
  clear hK K
  repeat (first
    | (refine Sch.tn_q rfl rfl rfl (fun K hK => ?_); go_big_quiet_op; (first | refine hK _ ?_ | refine ⟨_, fun _ _ => rfl, hK _ ?_⟩); clear hK K)
    | (refine Sch.tn_chk _ _ _ rfl rfl rfl rfl rfl ?_; simp only [Act.put, List.setIfInBounds_toArray, List.set_cons_zero, List.set_cons_succ])
    | (refine Sch.tn_load _ _ _ _ _ rfl rfl rfl rfl (by first | exact Lf.l) rfl ?_; simp only [Act.put, List.setIfInBounds_toArray, List.set_cons_zero, List.set_cons_succ]))
  refine Sch.tn_n ?_
  obtain ⟨a3, c3, g3, rfl, HA3⟩ : ∃ a3 c3 g3, v3 = .slice a3 l.length c3 ∧ Hid (l.length ≠ 0 → a3 = some ⟨g3, 0, none⟩) := by
    rcases HO4.out.row with ⟨e, e2⟩ | ⟨g, c', e, -⟩
    · have e3 : l.length = 0 := by have := flawB_len l l.length; rw [e2] at this; exact this.symm
      exact ⟨none, 0, 0, by rw [e, e3], fun h => absurd e3 h⟩
    · rw [flawB_len] at e
      exact ⟨_, c', g, e, fun _ => rfl⟩
  obtain ⟨a4, c4, g4, rfl, HA4⟩ : ∃ a4 c4 g4, v4 = .slice a4 l.length c4 ∧ Hid (l.length ≠ 0 → a4 = some ⟨g4, 0, none⟩) := by
    obtain ⟨a, c', e, -, hn, -, hx⟩ := G.OI.row2 HU4.out
    rw [upT_len] at e
    rcases a with _ | x
    · have e3 : l.length = 0 := by have := upT_len l; rw [(hn rfl).2] at this; exact this.symm
      exact ⟨none, c', 0, e, fun h => absurd e3 h⟩
    · obtain ⟨e2, -⟩ := hx x rfl
      exact ⟨_, c', x.block, by rw [e, e2], fun _ => rfl⟩
  have HG0 := Lib.hid (gn_start HV.out)
  have HW0 : Hid (true = false → ∀ j (hg : j < (flawB l l.length).length) (hl : j < l.length), (flawB l l.length)[j] = false → Up l l[j]) := fun h => by cases h
  generalize flawB l l.length = G0 at *
  generalize upT l l.length = U0 at *
  generalize w2.heap.size = s2 at *
  generalize w3.heap.size = s3 at *
  generalize w4.heap.size = s4 at *
  have HO5 := HO4
  clear HO4
  go_wp2_with fail
  go_loopw [5, 6, 7, 13, 14, 15] (fun m _ _ _ _ _ wr => ∃ (mo : Bool) (g : List Bool) (u : List Int), m = .bool mo ∧ Hid (Below w.heap.size w wr) ∧ Hid (OB wr s2 4 (.slice a3 l.length c3) g) ∧ Hid (G.OI wr s3 3 .i64 (.slice a4 l.length c4) u) ∧ Hid (Gn l g u) ∧ Hid (mo = false → ∀ j (hg : j < g.length) (hl : j < l.length), g[j] = false → Up l l[j])) (fun m _ _ _ _ _ wr => 2 * falses wr g3 l.length + (match m with | .bool true => 1 | _ => 0))
  case atStart => exact ⟨true, G0, U0, rfl, HB, HO5, HU4, HG0, HW0⟩
  case round =>
    clear HB HO5 HU4 HG0 HW0 HL2
    obtain ⟨mo, g0, u0, rfl, HB, HO, HU, HG, HW⟩ := hrel
    rcases mo with _ | _
    · have HE := Lib.hid (gone_is HV.out HG.out (HW.out rfl))
      have HR : Hid (OB wr w.heap.size 4 (.slice a3 l.length c3) (goneS l)) := by show OB _ _ _ _ _; rw [← HE.out]; exact HO.out.mono HS2.out
      clear HG HW HU HO HE
      go_wp2_with fail
      go_ret
      exact ⟨_, rfl, HR.out, HB.out⟩
    · have HR0 := Lib.hid (gr_start HG.out)
      have HMe : Hid (falses wr g3 l.length = g0.count false) := by
        show _ = _
        by_cases h0 : l.length = 0
        · have : g0 = [] := List.eq_nil_of_length_eq_zero (by rw [HG.out.gl, h0])
          rw [h0, this]; rfl
        · have e := HA3.out h0
          subst e
          exact falses_of HG.out.gl (fun k hk => HO.out.at k hk)
      have HG0l : Hid (g0.length = l.length) := HG.out.gl
      clear HW HG
      go_wp2_with fail
      go_loopw [5, 6, 7, 15] (fun m _ _ i wr => ∃ (k : Nat) (mo : Bool) (g : List Bool) (u : List Int), k ≤ l.length ∧ i = .int .i64 (k : Int) ∧ m = .bool mo ∧ Hid (Below w.heap.size w wr) ∧ Hid (OB wr s2 4 (.slice a3 l.length c3) g) ∧ Hid (G.OI wr s3 3 .i64 (.slice a4 l.length c4) u) ∧ Hid (Gr l g0 g u mo k)) (fun _ _ _ i _ => l.length - (intOf i).toNat)
      case atStart => exact ⟨0, false, g0, u0, Nat.zero_le _, rfl, rfl, HB, HO, HU, HR0⟩
      case round =>
        clear HB HO HU HR0
        obtain ⟨k, mo, g, u, hk, rfl, rfl, HB, HO, HU, HR⟩ := hrel
        by_cases hlt : k < l.length
        · have hi0 : (k : Int) < (l.length : Int) := by omega
          have h0 : l.length ≠ 0 := by omega
          have e3 := HA3.out h0
          have e4 := HA4.out h0
          subst e3
          subst e4
          have hkg : k < g.length := by have := HR.out.b.gl; omega
          have hku : k < u.length := by have := HR.out.b.ul; omega
          have hix := ixB g3 0 l.length c3 k (k : Int) rfl hlt
          have hix4 := ixI g4 0 l.length c4 k (k : Int) rfl hlt
          have hcg := HO.out.at k hkg
          have hcu := oi_at HU.out k hku
          rw [Nat.zero_add] at hix hix4
          rcases hgk : g[k] with _ | _
          · rw [hgk] at hcg
            by_cases hu1 : u[k] = -1
            · rw [hu1] at hcu
              have HR7 := Lib.hid (gr_skip2 HR.out hkg hku hgk hu1)
              go_wp2_with fail
              go_roundw
              case rel => exact ⟨k + 1, mo, g, u, by omega, by go_num, rfl, HB, HO, HU, HR7⟩
              case measure => simp [intOf]; omega
            · obtain ⟨kk, hkk, huk, -, -⟩ := HR.out.b.mid k hkg hku hlt hgk hu1
              have hkkg : kk < g.length := by have := HR.out.b.gl; omega
              have hkku : kk < u.length := by have := HR.out.b.ul; omega
              have HR7 := Lib.hid (gr_step HR.out hkg hku hkkg hkku hgk huk)
              rw [huk] at hcu hu1
              have hixk := ixB g3 0 l.length c3 kk (kk : Int) rfl hkk
              have hixk4 := ixI g4 0 l.length c4 kk (kk : Int) rfl hkk
              rw [Nat.zero_add] at hixk hixk4
              have hcy := HO.out.at kk hkkg
              have f3 := HO.out.free k
              have hgne : g3 ≠ g4 := by have h1 := (HLt.out g3 rfl).2; have h2 := (HGt.out g4 rfl).1; omega
              obtain ⟨y, hy⟩ : ∃ y, y = g[kk] := ⟨_, rfl⟩
              rw [← hy] at hcy HR7
              clear hy
              have HOa := Lib.hid (HO.out.set k y)
              have HUa := Lib.hid (HU.out.keep (gb_setCell wr g3 k (.bool y)) (.inr (by simp [Value.ownBlock]; exact fun e => hgne e.symm)))
              have HBa := Lib.hid (HB.out.setCell (p := ⟨g3, k, none⟩) (Nat.le_trans HS2.out (HLt.out g3 rfl).1) (.bool y))
              go_upto_region 10 with fail
              clear hcg hcu f3 hcy
              generalize hwa : wr.setCell ⟨g3, k, none⟩ (.bool y) = wa at *
              have hcm := HOa.out.at k (by rw [List.length_set]; exact hkg)
              rw [List.getElem_set_self] at hcm
              have hcz := oi_at HUa.out kk hkku
              have f4 := oi_free HUa.out k
              have hck := oi_at HUa.out k hku
              obtain ⟨z, hz⟩ : ∃ z, z = u[kk] := ⟨_, rfl⟩
              rw [← hz] at hcz HR7
              clear hz hwa
              have HUb := Lib.hid (oi_set HUa.out k z)
              have HOb := Lib.hid (HOa.out.keep (gb_setCell wa g4 k (.int .i64 z)) (.inr (by simp [Value.ownBlock]; exact hgne)))
              have HBb := Lib.hid (HBa.out.setCell (p := ⟨g4, k, none⟩) (Nat.le_trans HS3.out (HGt.out g4 rfl).1) (.int .i64 z))
              rcases mo with _ | _
              · rw [Bool.false_or] at HR7
                go_wp2_with fail
                go_roundw
                case rel => exact ⟨k + 1, _, _, _, by omega, by go_num, rfl, HBb, HOb, HUb, HR7⟩
                case measure => simp [intOf]; omega
              · rw [Bool.true_or] at HR7
                go_wp2_with fail
                go_roundw
                case rel => exact ⟨k + 1, _, _, _, by omega, by go_num, rfl, HBb, HOb, HUb, HR7⟩
                case measure => simp [intOf]; omega
          · rw [hgk] at hcg
            have HR7 := Lib.hid (gr_skip1 HR.out hkg hgk)
            generalize u[k] = z at *
            go_wp2_with fail
            go_roundw
            case rel => exact ⟨k + 1, mo, g, u, by omega, by go_num, rfl, HB, HO, HU, HR7⟩
            case measure => simp [intOf]; omega
        · obtain rfl : k = l.length := by omega
          have hend : ¬ (l.length : Int) < (l.length : Int) := by omega
          have HMe2 : Hid (falses wr g3 l.length = g.count false) := by
            show _ = _
            by_cases h0 : l.length = 0
            · have : g = [] := List.eq_nil_of_length_eq_zero (by rw [HR.out.b.gl, h0])
              rw [h0, this]; rfl
            · have e := HA3.out h0
              subst e
              exact falses_of HR.out.b.gl (fun k hk => HO.out.at k hk)
          go_wp2_with fail
          refine ⟨⟨mo, g, u, rfl, HB, HO, HU, HR.out.b, fun h => ?_⟩, ?_⟩
          · subst h
            exact gr_end HV.out HR.out
          · rw [HMe.out, HMe2.out]
            cases mo
            · rw [HR.out.same rfl]
              show 2 * _ + 0 < 2 * _ + 1
              omega
            · have := HR.out.fewer rfl
              show 2 * _ + 1 < 2 * _ + 1
              omega
end Go.Proofs.YtodjccfaipkpfaaGreatDoor.Fo
end

/-
  The exported functions of package shape, but for Word.
-/
section
namespace Go.Proofs.YtodjccfaipkpfaaGreatDoor.Fo
set_option linter.unusedVariables false
open Go.RowKit V Go.Sort D Nd Qs Wk
attribute [local irreducible] Sch.heldN Sch.stepV Sch.stepE

theorem infoT : (Tryz.prog.info? 44).map (fun i => (i.zero, i.size, i.bytes)) = some (some (.agg #[.int .i64 0, .int .i64 0]), 2, 16) := by kernel_rfl
set_option maxRecDepth 100000 in
set_option maxHeartbeats 4000000 in
theorem faults_any (l : List Nt) (a : Option Addr) (c : Nat) (w : World) (hf : ∀ x ∈ l, fitN x) (hx : RowN w a l) (hlx : l.length ≤ 1000000) :
    Calls Tryz.prog 18 #[.slice a l.length c] w fun e w' => ∃ v, e = .returned v ∧ OD w' w.heap.size 44 v (faultS l) ∧ Below w.heap.size w w' := by
  have HLo := Lib.hid (listOf_any l a c w hf hx hlx)
  have HF := Lib.hid (fun b w h1 h2 => flaws_any l a c b w hf h1 h2 hlx)
  have HX := Lib.hid hx
  have hli : (l.length : Int) ≤ 1000000 := by omega
  have HLn := Lib.hid hlx
  clear hf hx hlx
  go_enter Tryz.func18, Tryz.ntmps18
  go_wp2_with fail
  refine HLo.out.mono ?_
  rintro e w3 ⟨b, rfl, hm, hb⟩
  have HB := Lib.hid hb
  have HC := Lib.hid (HF.out b w3 (HX.out.keep hb) hm)
  clear hb hm HF HLo HX
  go_wp2_with fail
  refine HC.out.mono ?_
  rintro e w4 ⟨v4, rfl, ho, hb⟩
  replace HB := bel_tr HB hb
  obtain ⟨a4, c4, rfl, hr4, -, -, hx4⟩ := G.OI.row2 ho
  rw [flawT_len]
  have HR4 := Lib.hid hr4
  obtain ⟨s3, hs3⟩ : ∃ s3, s3 = w3.heap.size := ⟨_, rfl⟩
  obtain ⟨s4, hs4⟩ : ∃ s4, s4 = w4.heap.size := ⟨_, rfl⟩
  have HX4 : Hid (∀ g o, a4 = some ⟨g, o, none⟩ → s3 ≤ g ∧ g < s4) := fun g o e => by
    obtain ⟨-, h1, h2⟩ := hx4 _ e
    rw [hs3, hs4]
    exact ⟨h1, h2⟩
  have HS4 : Hid (s4 ≤ w4.heap.size) := Nat.le_of_eq hs4
  clear ho hb hr4 HC hx4 hs3 hs4
  go_wp2_with fail
  go_loopw [3, 4, 5, 10] (fun v _ _ i wr => ∃ k : Nat, k ≤ l.length ∧ i = .int .i64 (k : Int) ∧ Hid (Below w.heap.size w wr) ∧ Hid (G.RowI .i64 wr a4 (flawT l l.length)) ∧ Hid (OD wr w.heap.size 44 v (faultT l k)) ∧ Hid (Out s3 s4 v) ∧ Hid (s4 ≤ wr.heap.size)) (fun _ _ _ i _ => l.length - (intOf i).toNat)
  case atStart => exact ⟨0, Nat.zero_le _, rfl, HB, HR4, OD.nil _ _ _, (fun x hx => by cases hx), HS4⟩
  case round =>
    clear HB HR4 HS4
    obtain ⟨k, hk, rfl, HB, HR, HO, HU, HS⟩ := hrel
    by_cases hlt : k < l.length
    · have hi0 : (k : Int) < (l.length : Int) := by omega
      have hkT : k < (flawT l l.length).length := by rw [flawT_len]; exact hlt
      have HT1 := Lib.hid (fault_hit (l := l) (k := k))
      have HT0 := Lib.hid (fault_miss (l := l) (k := k))
      have HKl : Hid ((faultT l k).length ≤ 1000000) := by show _ ≤ _; have := fault_len l k; have := HLn.out; omega
      obtain ⟨b4, o4, rfl, hc⟩ := rowI_at HR.out k hkT
      rw [flawT_at] at hc
      generalize flawN l k = z at *
      by_cases hz : z = 0
      · have HT := Lib.hid (HT0.out hz)
        subst hz
        clear HT0 HT1
        go_wp2_with fail
        go_roundw
        case rel => exact ⟨k + 1, by omega, by go_num, HB, HR, by show OD _ _ _ _ _; rw [HT.out]; exact HO.out, HU, HS⟩
        case measure => simp [intOf]; omega
      · have HT := Lib.hid (HT1.out hz)
        have hz2 : (z != 0) = true := by simpa using hz
        have hb2 := bel_box wr (.cells #[.int .i64 (k : Int), .int .i64 z] 44)
        have HB2 := bel_tr HB hb2
        have HO2 := Lib.hid (HO.out.below hb2)
        have HR2 := Lib.hid (keepI HR.out hb2)
        have HBs : Hid (w.heap.size ≤ (wr.alloc (.cells #[.int .i64 (k : Int), .int .i64 z] 44)).heap.size) := HB2.out.size
        have HS2 : Hid (s4 ≤ (wr.alloc (.cells #[.int .i64 (k : Int), .int .i64 z] 44)).heap.size) := Nat.le_trans HS.out hb2.size
        have HLt : Hid (RowD (wr.alloc (.cells #[.int .i64 (k : Int), .int .i64 z] 44)) (some ⟨wr.heap.size, 0, none⟩) [((k : Int), z)]) := RowD.lit wr [((k : Int), z)] _ _ _ rfl
        clear hb2 HT0 HT1 hz
        go_wp2_with (at_builtin; refine wpList_appD rfl (.tmp 17) (.tmp 21) 46 rfl Tryz.underlying46 infoT _ (faultT l k) rfl HO2.out (some ⟨wr.heap.size, 0, none⟩) [((k : Int), z)] 1 rfl HLt.out (fun h => by cases h) (by have := HKl.out; simp; omega) HBs.out ?_; intro v' w' ho' hg' hgr')
        have HO7 : Hid (OD w' w.heap.size 44 v' (faultT l (k + 1))) := by show OD _ _ _ _ _; rw [HT.out]; exact ho'
        have HB7 := Lib.hid (HB2.out.grown hg' HB2.out.size (fun x hx => (HO2.out.lt x hx).1))
        have HR7 := Lib.hid (rowI_gb HR2.out hg' (fun g o e e2 => by have h1 := HU.out g e2.symm; have h2 := HX4.out g o e; omega))
        have HU7 := Lib.hid (HU.out.grew hgr' HS2.out)
        have HS7 := Lib.hid (Nat.le_trans HS2.out hg'.size)
        clear ho' hg' hgr'
        go_wp2_with fail
        go_roundw
        case rel => exact ⟨k + 1, by omega, by go_num, HB7, HR7, HO7, HU7, HS7⟩
        case measure => simp [intOf]; omega
    · obtain rfl : k = l.length := by omega
      have hend : ¬ (l.length : Int) < (l.length : Int) := by omega
      go_wp2_with fail
      go_ret
      exact ⟨_, rfl, HO.out, HB.out⟩

set_option maxRecDepth 100000 in
set_option maxHeartbeats 1000000 in
theorem well_any (l : List Nt) (a : Option Addr) (c : Nat) (w : World) (hf : ∀ x ∈ l, fitN x) (hx : RowN w a l) (hlx : l.length ≤ 1000000) :
    Calls Tryz.prog 5 #[.slice a l.length c] w fun e w' => e = .returned (.bool (wellS l)) ∧ Below w.heap.size w w' := by
  have HF := Lib.hid (faults_any l a c w hf hx hlx)
  have HE := Lib.hid (well_len l)
  clear hf hx hlx
  generalize wellS l = R at *
  generalize faultS l = T at *
  go_enter Tryz.func5, Tryz.ntmps5
  go_wp2_with fail
  refine HF.out.mono ?_
  rintro e w2 ⟨v, rfl, ho, hb⟩
  obtain ⟨a2, c2, rfl, -⟩ := OD.row ho
  have HB := Lib.hid hb
  clear ho hb HF
  rcases hT : T.length with _ | n
  · rw [hT] at HE
    clear hT
    go_wp2_with fail
    go_ret
    exact ⟨by rw [HE.out]; rfl, HB.out⟩
  · rw [hT] at HE
    have hn : ((n : Int) + 1 == 0) = false := by rw [beq_eq_false_iff_ne]; omega
    clear hT
    go_wp2_with fail
    go_ret
    exact ⟨by rw [HE.out]; rfl, HB.out⟩

/-- A fault's box that may be written. -/
def Zf (w : World) (g : Nat) : Prop := w.cell? ⟨g, 0, none⟩ = some (.int .i64 0) ∧ w.cell? ⟨g, 1, none⟩ = some (.int .i64 0) ∧ ∀ o, w.frozen? ⟨g, o, none⟩ = false
theorem Zf.keep {w w' : World} {g : Nat} (h : Zf w g) (hb : Below w.heap.size w w') : Zf w' g :=
  ⟨(hb.cell (p := ⟨g, 0, none⟩) (lt_of_cell h.1)).trans h.1, (hb.cell (p := ⟨g, 1, none⟩) (lt_of_cell h.2.1)).trans h.2.1, fun o => (hb.frozen (p := ⟨g, o, none⟩) (show g < w.heap.size from lt_of_cell h.1)).trans (h.2.2 o)⟩
theorem Zf.new (w : World) : Zf (w.alloc (.cells #[.int .i64 0, .int .i64 0] 44)) w.heap.size := by
  refine ⟨?_, ?_, fun o => ?_⟩ <;> go_simp

set_option maxRecDepth 100000 in
set_option maxHeartbeats 1000000 in
theorem first_any (l : List Nt) (a : Option Addr) (c : Nat) (w : World) (hf : ∀ x ∈ l, fitN x) (hx : RowN w a l) (hlx : l.length ≤ 1000000) :
    Calls Tryz.prog 32 #[.slice a l.length c] w fun e w' => e = .returned (dv (firstS l)) ∧ Below w.heap.size w w' := by
  have hb1 := bel_box w (.cells #[.int .i64 0, .int .i64 0] 44)
  have HZ := Lib.hid (Zf.new w)
  have HF := Lib.hid (faults_any l a c _ hf (hx.keep hb1) hlx)
  have HE : Hid (firstS l = (faultS l).headD (-1, 0)) := rfl
  have HB := Lib.hid hb1
  clear hf hx hlx hb1
  generalize firstS l = R at *
  generalize faultS l = T at *
  go_enter Tryz.func32, Tryz.ntmps32
  go_wp2_with fail
  generalize hw1 : (w.alloc (.cells #[.int .i64 0, .int .i64 0] 44)) = w1 at *
  clear hw1
  refine HF.out.mono ?_
  rintro e w2 ⟨v, rfl, ho, hb⟩
  obtain ⟨a2, c2, rfl, hr, -⟩ := OD.row ho
  replace HB := bel_tr HB hb
  replace HZ := Lib.hid (HZ.out.keep hb)
  have HR := Lib.hid hr
  clear ho hb HF hr
  obtain ⟨z0, z1, hfz⟩ := HZ.out
  have f0 := hfz 0
  have f1 := hfz 1
  clear hfz HZ
  have hbe : ∀ (x y : Value), Below w.heap.size w ((w2.setCell ⟨w.heap.size, 0, none⟩ x).setCell ⟨w.heap.size, 1, none⟩ y) := fun x y => (HB.out.setCell (p := ⟨w.heap.size, 0, none⟩) (Nat.le_refl _) x).setCell (p := ⟨w.heap.size, 1, none⟩) (Nat.le_refl _) y
  have HBe := Lib.hid hbe
  clear hbe
  rcases T with _ | ⟨⟨t1, t2⟩, T⟩
  · have hE : Hid (R = (-1, 0)) := HE.out
    simp only [List.length_nil]
    go_wp2_with fail
    (try simp only [Exit.inBlock, Exit.then])
    refine bodyPost_ret (v := .agg #[.int .i64 (-1), .int .i64 0]) (by rw [results_cell1 (fn := Tryz.f32) (p := 2) (ty := 44) rfl]; go_simp) rfl ?_
    exact ⟨by rw [hE.out], HBe.out _ _⟩
  · have hE : Hid (R = (t1, t2)) := HE.out
    obtain ⟨b4, o4, rfl, hc⟩ := HR.out.resolve_left (by simp)
    have hc0 := hc 0 (by simp)
    simp only [List.getElem_cons_zero, Nat.zero_mul, Nat.zero_add, Nat.add_zero] at hc0
    obtain ⟨c0, c1⟩ := hc0
    have hn : ((T.length : Int) + 1 == 0) = false := by rw [beq_eq_false_iff_ne]; omega
    have hp : (0 : Int) < (T.length : Int) + 1 := by omega
    simp only [List.length_cons]
    clear hc HR HE
    generalize T.length = nT at *
    go_wp2_with fail
    (try simp only [Exit.inBlock, Exit.then])
    refine bodyPost_ret (v := .agg #[.int .i64 t1, .int .i64 t2]) (by rw [results_cell1 (fn := Tryz.f32) (p := 2) (ty := 44) rfl]; go_simp) rfl ?_
    exact ⟨by rw [hE.out], HBe.out _ _⟩
end Go.Proofs.YtodjccfaipkpfaaGreatDoor.Fo
end
