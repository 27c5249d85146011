/-
  The program's choice: the set of the dots of a list that stay.
-/
import Derived.Test.YtgopkffgljiblaaGreatDCompact
import Derived.Test.YtgopkffgljiblaaGreatDHas
import Derived.Test.YtgopkffgljiblaaGreatMDRefB
import Derived.Laws.MakeOwn

section
namespace Go.Proofs.YtgopkffgljiblaaGreat.D
set_option linter.unusedVariables false
open Go.RowKit V Go.Sort

set_option maxRecDepth 100000 in
theorem sort_none (c : Nat) (fv : Value) (w : World) : Calls Tryz.prog 95 #[.slice none 0 c, fv] w fun e w' => e = .returned (.tuple #[]) ∧ w' = w := by
  have := AnyF.slices_SortFunc_none Tryz.sortD none c fv w
  exact this
set_option maxRecDepth 100000 in
theorem compact_none (c : Nat) (w : World) : Calls Tryz.prog 96 #[.slice none 0 c] w fun e w' => e = .returned (.slice none 0 c) ∧ w' = w := by
  go_enter Tryz.func96, Tryz.ntmps96
  go_wp2_with fail
  go_ret
  exact ⟨rfl, rfl⟩
set_option maxRecDepth 100000 in
theorem always_any (d : Dt) (w : World) : Calls Tryz.prog 85 #[dv d] w fun e w' => e = .returned (.bool true) ∧ Below w.heap.size w w' := by
  obtain ⟨d1, d2⟩ := d
  go_enter Tryz.func85, Tryz.ntmps85
  go_wp2_with fail
  go_ret
  exact ⟨rfl, (Below.refl _ _).alloc (Nat.le_refl _) _⟩

/-- What is handed back: a slice of dots, in a block that was new, if there are any. -/
def SetV (w' : World) (base : Nat) (v : Value) (m : List Dt) : Prop :=
  ∃ a c, v = .slice a m.length c ∧ (a = none → c = 0) ∧ (m = [] ∨ ∃ g, a = some ⟨g, 0, none⟩ ∧ base ≤ g ∧ Rw w' g m.length fun i => m[i]!)
theorem SetV.row {w' : World} {base : Nat} {v : Value} {m : List Dt} (h : SetV w' base v m) : ∃ a c, v = .slice a m.length c ∧ (a = none → c = 0) ∧ RowD w' a m := by
  obtain ⟨a, c, rfl, hc, h⟩ := h
  refine ⟨a, c, rfl, hc, ?_⟩
  rcases h with rfl | ⟨g, rfl, hb, hr⟩
  · exact .inl rfl
  · exact hr.row fun i hi => getElem!_pos m i hi
theorem OD.rw {w : World} {base : Nat} {g n c : Nat} {l : List Dt} (h : OD w base E (.slice (some ⟨g, 0, none⟩) n c) l) : n = l.length ∧ base ≤ g ∧ l.length ≤ c ∧ Rw w g l.length fun i => l[i]! := by
  obtain ⟨a, c', e, hr, -, hc, hx⟩ := h.row
  simp only [Value.slice.injEq] at e
  obtain ⟨rfl, rfl, rfl⟩ := e
  obtain ⟨-, -, hb, hg⟩ := hx _ rfl
  refine ⟨rfl, hb, hc, hg, fun i hi => ?_⟩
  have c1 := World.ownsRow.cellAt h (i * 2) (by omega)
  have c2 := World.ownsRow.cellAt h (i * 2 + 1) (by omega)
  obtain ⟨k1, k2⟩ := cellsD_at l i hi
  have e : (fun i => l[i]!) i = l[i] := getElem!_pos l i hi
  rw [e]
  exact ⟨c1.trans k1, c2.trans k2, World.ownsRow.frozenAt h _, World.ownsRow.frozenAt h _⟩

/-- What a function value says of each dot, wherever it is asked behind w. -/
def Says (w : World) (g : Nat) (cb : Array Value) (p : Dt → Bool) : Prop :=
  ∀ W, Below w.heap.size w W → ∀ d : Dt, Calls Tryz.prog g (#[dv d] ++ cb) W fun e w' => e = .returned (.bool (p d)) ∧ Below W.heap.size W w'
end Go.Proofs.YtgopkffgljiblaaGreat.D
end

/-
  The walk of the program's choice.
-/
section
namespace Go.Proofs.YtgopkffgljiblaaGreat.D
set_option linter.unusedVariables false
open Go.RowKit V Go.Sort

theorem mk_room (c : Nat) (hc : c ≤ 1000000000) (w : World) :
    ∃ w', (Instr.makeSlice 22 (.int .i64 0) (.int .i64 (c : Int))).run Tryz.prog w = .ok (.slice (some ⟨w.heap.size, 0, none⟩) 0 c) w' ∧ OD w' w.heap.size E (.slice (some ⟨w.heap.size, 0, none⟩) 0 c) [] ∧ Below w.heap.size w w' := by
  obtain ⟨i, hi, hz0, hz1, hz2⟩ := G.info_of infoD
  obtain ⟨w', h1, h2, h3⟩ := run_make_own (P := Tryz.prog) w w.heap.size 22 48 i (.agg #[.int .i64 0, .int .i64 0]) 2 Tryz.underlying22 hi hz0 hz1 .i64 .i64 c (by rw [hz2]; omega) (by unfold maxLen; omega) (Nat.le_refl _)
  exact ⟨w', h1, h2, (Below.refl _ _).grown h3 (Nat.le_refl _) (fun k hk => by cases hk)⟩
theorem filter_take {l : List Dt} {k : Nat} (h : k < l.length) (p : Dt → Bool) : (l.take (k + 1)).filter p = if p l[k] = true then (l.take k).filter p ++ [l[k]] else (l.take k).filter p := by
  rw [List.take_succ_eq_append_getElem h, List.filter_append]
  by_cases e : p l[k] = true
  · simp [e]
  · simp [e]

/-- The dots of a list that stay, as a set. -/
def Chosen (w' : World) (base : Nat) (v : Value) (l : List Dt) (p : Dt → Bool) : Prop := ∃ m, SetV w' base v m ∧ Srt m ∧ ∀ x, x ∈ m ↔ x ∈ l ∧ p x = true

set_option maxRecDepth 100000 in
set_option maxHeartbeats 2000000 in
theorem choice_any (l : List Dt) (a : Option Addr) (c : Nat) (g : Nat) (cb : Array Value) (p : Dt → Bool) (w : World) (eg : ∀ args w, (callFunc g args).run Tryz.prog w = .ok (.enter g args) w) (hp : Says w g cb p) (hx : RowD w a l) (hlx : l.length ≤ 1000000) :
    Calls Tryz.prog 86 #[.agg #[.slice a l.length c, .func (.func g) #[] cb]] w fun e w' => ∃ v, e = .returned v ∧ Chosen w' w.heap.size v l p ∧ Below w.heap.size w w' := by
  have HP := Lib.hid hp
  have HX := Lib.hid hx
  have HLn := Lib.hid hlx
  have hli : (l.length : Int) ≤ 1000000 := by omega
  clear hp hx hlx
  go_enter Tryz.func86, Tryz.ntmps86
  obtain ⟨w2, hmk, hO, hB2⟩ := mk_room l.length (by have := HLn.out; omega) (w.alloc (Obj.cells #[.slice a l.length c, .func (.func g) #[] cb] 109))
  have k0 : w2.cell? ⟨w.heap.size, 0, none⟩ = some (.slice a l.length c) := (hB2.cell (p := ⟨_, _, none⟩) (by simp <;> omega)).trans (by go_simp)
  have k1 : w2.cell? ⟨w.heap.size, 1, none⟩ = some (.func (.func g) #[] cb) := (hB2.cell (p := ⟨_, _, none⟩) (by simp <;> omega)).trans (by go_simp)
  have hB : Below w.heap.size w w2 := ((Below.refl _ _).alloc (Nat.le_refl _) _).trans (hB2.mono (by simp <;> omega))
  have hO2 : OD w2 (w.heap.size + 1) E (.slice (some ⟨w.heap.size + 1, 0, none⟩) 0 l.length) [] := by simpa using hO
  have HS2 : Hid (w.heap.size + 1 ≤ w2.heap.size) := by have := hB2.size; show _ ≤ _; simpa using this
  have HB := Lib.hid hB
  have HO := Lib.hid hO2
  have H0 := Lib.hid k0
  have H1 := Lib.hid k1
  clear hB hO hO2 hB2
  go_wp2_with fail
  clear hmk k0 k1
  go_loopw [3, 5, 13] (fun v _ i wr => ∃ k : Nat, k ≤ l.length ∧ i = .int .i64 (k : Int) ∧ Hid (Below (w.heap.size + 1) w2 wr) ∧ Hid (OD wr (w.heap.size + 1) E v ((l.take k).filter p))) (fun _ _ i _ => l.length - (intOf i).toNat)
  case atStart => exact ⟨0, Nat.zero_le _, rfl, Below.refl _ _, by show OD _ _ _ _ _; rw [List.take_zero]; exact HO.out⟩
  case round =>
    obtain ⟨k, hk, rfl, hh, hO⟩ := hrel
    by_cases hlt : k < l.length
    · have hi1 : (k : Int) < (l.length : Int) := by omega
      have hBw : Below w.heap.size w wr := HB.out.trans (hh.out.mono (by omega))
      obtain ⟨b1, o1, rfl, p0, p1⟩ := HX.out.get hBw k hlt
      have HF := Lib.hid (filter_take hlt p)
      obtain ⟨q, hq⟩ : ∃ q, q = l[k] := ⟨_, rfl⟩
      rw [← hq] at p0 p1 HF
      have k0 := (hh.out.cell (p := ⟨_, _, none⟩) (by show w.heap.size < _; omega)).trans H0.out
      have k1 := (hh.out.cell (p := ⟨_, _, none⟩) (by show w.heap.size < _; omega)).trans H1.out
      have k2 := fun o => Lib.cell?_alloc_some o k1
      have HBw := Lib.hid hBw
      clear hq hBw
      obtain ⟨q1, q2⟩ := q
      have HFl : Hid (((l.take k).filter p).length ≤ 1000000) := by
        show _ ≤ _
        have h1 := List.length_filter_le p (l.take k)
        rw [List.length_take] at h1
        have := HLn.out
        omega
      go_wp2_with fail
      refine (HP.out _ (HBw.out.alloc HBw.out.size _) (q1, q2)).mono ?_
      rintro e w3 ⟨rfl, hb⟩
      have hs : wr.heap.size < (wr.alloc (Obj.cells #[Value.int IntKind.i64 q1, Value.int IntKind.i64 q2] 48)).heap.size := by simp
      have m0 : w3.cell? ⟨wr.heap.size, 0, none⟩ = some (.int .i64 q1) := (hb.cell (p := ⟨_, _, none⟩) hs).trans (by go_simp)
      have m1 : w3.cell? ⟨wr.heap.size, 1, none⟩ = some (.int .i64 q2) := (hb.cell (p := ⟨_, _, none⟩) hs).trans (by go_simp)
      have hh3 : Below (w.heap.size + 1) w2 w3 := hh.out.trans (((Below.refl _ _).alloc (Nat.le_refl _) _).trans (hb.mono (Nat.le_of_lt hs)) |>.mono (Nat.le_trans HS2.out hh.out.size))
      have hO3 : OD w3 (w.heap.size + 1) E u3 ((l.take k).filter p) := hO.out.below (((Below.refl _ _).alloc (Nat.le_refl _) _).trans (hb.mono (Nat.le_of_lt hs)))
      have HH3 := Lib.hid hh3
      have HO3 := Lib.hid hO3
      clear hb hs hh3 hO3 k0 k1 k2 p0 p1
      rcases hpq : p (q1, q2) with _ | _
      · have hf := HF.out
        rw [hpq, if_neg (by simp)] at hf
        replace HF := Lib.hid hf
        clear hf hpq
        go_wp2_with fail
        go_roundw
        case rel => exact ⟨k + 1, by omega, by go_num, HH3, by show OD _ _ _ _ _; rw [HF.out]; exact HO3.out⟩
        case measure => simp [intOf]; omega
      · have hf := HF.out
        rw [hpq, if_pos rfl] at hf
        replace HF := Lib.hid hf
        clear hf hpq
        have HO4 : Hid (OD (w3.alloc (Obj.cells #[Value.int IntKind.i64 q1, Value.int IntKind.i64 q2] 48)) (w.heap.size + 1) E u3 ((l.take k).filter p)) := HO3.out.below ((Below.refl _ _).alloc (Nat.le_refl _) _)
        have HH4 : Hid (Below (w.heap.size + 1) w2 (w3.alloc (Obj.cells #[Value.int IntKind.i64 q1, Value.int IntKind.i64 q2] 48))) := HH3.out.alloc (Nat.le_trans HS2.out HH3.out.size) _
        go_wp2_with (at_builtin; refine wpList_appD rfl _ _ _ rfl Tryz.underlying22 infoD _ _ rfl HO4.out (some ⟨w3.heap.size, 0, none⟩) [(q1, q2)] 1 rfl (lit_one w3 (q1, q2) _) (fun h => by cases h) (by have := HFl.out; simp; omega) (Nat.le_trans HS2.out HH4.out.size) ?_)
        intro v4 w4 ho hg _
        have HO5 : Hid (OD w4 (w.heap.size + 1) E v4 ((l.take k).filter p ++ [(q1, q2)])) := ho
        have HH5 := Lib.hid (HH4.out.grown hg (Nat.le_trans HS2.out HH4.out.size) (fun k hk => (HO4.out.lt k hk).1))
        clear ho hg
        go_wp2_with fail
        go_roundw
        case rel => exact ⟨k + 1, by omega, by go_num, HH5, by show OD _ _ _ _ _; rw [HF.out]; exact HO5.out⟩
        case measure => simp [intOf]; omega
    · obtain rfl : k = l.length := by omega
      have hi1 : ¬ (l.length : Int) < (l.length : Int) := by omega
      have hBw : Below w.heap.size w wr := HB.out.trans (hh.out.mono (by omega))
      have HBw := Lib.hid hBw
      rw [List.take_length] at hO
      have HFl : Hid ((l.filter p).length ≤ 1000000) := by
        show _ ≤ _
        have h1 := List.length_filter_le p l
        have := HLn.out
        omega
      have HM : Hid (∀ x, x ∈ l.filter p ↔ x ∈ l ∧ p x = true) := fun x => List.mem_filter
      have HSz : Hid (w.heap.size + 1 ≤ wr.heap.size) := Nat.le_trans HS2.out hh.out.size
      clear hBw hh
      generalize l.filter p = f at *
      obtain ⟨a2, c2, rfl, -, hn, -, hx⟩ := hO.out.row
      rcases a2 with _ | ad
      · obtain ⟨rfl, rfl⟩ := hn rfl
        clear hx hn
        go_wp2_with fail
        refine (sort_none 0 _ wr).mono ?_
        rintro e w5 ⟨rfl, rfl⟩
        go_wp2_with fail
        refine (compact_none 0 w5).mono ?_
        rintro e w6 ⟨rfl, rfl⟩
        go_wp2_with fail
        go_ret
        exact ⟨_, rfl, ⟨[], ⟨none, 0, rfl, fun _ => rfl, .inl rfl⟩, srt_nil, HM.out⟩, HBw.out⟩
      · obtain ⟨e, -, -, -⟩ := hx ad rfl
        obtain ⟨gb, o, s⟩ := ad
        cases e
        obtain ⟨-, hb, hfc, hr⟩ := hO.out.rw
        have HRw := Lib.hid hr
        have Hb := Lib.hid hb
        have Hfc := Lib.hid hfc
        clear hx hn hb hfc hr
        go_wp2_with fail
        refine (sort_any gb f c2 wr HRw.out HFl.out).mono ?_
        rintro e w5 ⟨rfl, m, hm, hW, hR, hB5⟩
        have HBw5 : Hid (Below w.heap.size w w5) := HBw.out.trans (hB5.mono (by have := Hb.out; omega))
        have HPm := Lib.hid hm
        have HWm := Lib.hid hW
        have HRm := Lib.hid hR
        have Hlen : Hid (m.length = f.length) := hm.length_eq
        clear hm hW hR hB5
        have HC := compact_any gb m c2 w5 HWm.out HRm.out (by have := Hlen.out; have := Hfc.out; omega) (by have := Hlen.out; have := HFl.out; omega)
        rw [Hlen.out] at HC
        replace HC := Lib.hid HC
        go_wp2_with fail
        refine HC.out.mono ?_
        rintro e w6 ⟨v, rfl, ⟨q, rfl, hs, hmem, hrw⟩, hb6⟩
        have HBw6 : Hid (Below w.heap.size w w6) := HBw5.out.trans (hb6.mono (by have := Hb.out; omega))
        have HCh : Hid (Chosen w6 w.heap.size (.slice (some ⟨gb, 0, none⟩) q.length c2) l p) := ⟨q, ⟨_, _, rfl, fun h => (by cases h), .inr ⟨gb, rfl, by have := Hb.out; omega, hrw⟩⟩, hs, fun x => by rw [hmem, HPm.out.mem_iff]; exact HM.out x⟩
        clear hs hmem hrw hb6 HC
        go_wp2_with fail
        go_ret
        exact ⟨_, rfl, HCh.out, HBw6.out⟩
end Go.Proofs.YtgopkffgljiblaaGreat.D
end

/-
  The program's Set, Union and Minus.
-/
section
namespace Go.Proofs.YtgopkffgljiblaaGreat.D
set_option linter.unusedVariables false
open Go.RowKit V Go.Sort

theorem enters_always : ∀ args w, (callFunc 85 args).run Tryz.prog w = .ok (.enter 85 args) w := enters_of Tryz.func85 (by kernel_rfl) rfl
theorem says_always (w : World) : Says w 85 #[] (fun _ => true) := fun W hW d => always_any d W

theorem Chosen.all {w' : World} {base : Nat} {v : Value} {l : List Dt} (h : Chosen w' base v l (fun _ => true)) : SetV w' base v (setR l) := by
  obtain ⟨m, h1, h2, h3⟩ := h
  rw [← set_eq h2 (fun x => (h3 x).trans ⟨fun e => e.1, fun e => ⟨e, rfl⟩⟩)]
  exact h1
theorem SetV.mono {w' : World} {base base' : Nat} {v : Value} {m : List Dt} (h : SetV w' base v m) (hb : base' ≤ base) : SetV w' base' v m := by
  obtain ⟨a, c, e, hc, h⟩ := h
  refine ⟨a, c, e, hc, ?_⟩
  rcases h with h | ⟨g, h1, h2, h3⟩
  · exact .inl h
  · exact .inr ⟨g, h1, Nat.le_trans hb h2, h3⟩

set_option maxRecDepth 100000 in
set_option maxHeartbeats 1000000 in
theorem set_any (l : List Dt) (a : Option Addr) (c : Nat) (w : World) (hx : RowD w a l) (hlx : l.length ≤ 1000000) :
    Calls Tryz.prog 69 #[.slice a l.length c] w fun e w' => ∃ v, e = .returned v ∧ SetV w' w.heap.size v (setR l) ∧ Below w.heap.size w w' := by
  have HC := Lib.hid (choice_any l a c 85 #[] (fun _ => true) w enters_always (says_always w) hx hlx)
  clear hx hlx
  go_enter Tryz.func69, Tryz.ntmps69
  go_wp2_with fail
  refine HC.out.mono ?_
  rintro e w2 ⟨v, rfl, hch, hb⟩
  have HS := Lib.hid hch.all
  have HB := Lib.hid hb
  clear hch hb HC
  go_wp2_with fail
  go_ret
  exact ⟨_, rfl, HS.out, HB.out⟩

set_option maxRecDepth 100000 in
set_option maxHeartbeats 1000000 in
theorem union_any (xs ys : List Dt) (a b : Option Addr) (c d : Nat) (w : World) (hx : RowD w a xs) (hy : RowD w b ys) (hna : a = none → c = 0) (hnb : b = none → d = 0) (hlx : xs.length ≤ 400000) (hly : ys.length ≤ 400000) :
    Calls Tryz.prog 77 #[.slice a xs.length c, .slice b ys.length d] w fun e w' => ∃ v, e = .returned v ∧ SetV w' w.heap.size v (unionR xs ys) ∧ Below w.heap.size w w' := by
  have hB : Below w.heap.size w (w.alloc (.cells #[.slice a xs.length c, .slice b ys.length d] 22)) := (Below.refl _ _).alloc (Nat.le_refl _) _
  have HC := Lib.hid (concat_any xs ys a b c d w.heap.size (w.alloc (.cells #[.slice a xs.length c, .slice b ys.length d] 22)) ⟨by go_simp, by go_simp⟩ (hx.keep hB) (hy.keep hB) hna hnb (by omega) (by omega))
  have HCh := Lib.hid (fun (a : Option Addr) (c : Nat) (wx : World) (h : RowD wx a (xs ++ ys)) => choice_any (xs ++ ys) a c 85 #[] (fun _ => true) wx enters_always (says_always wx) h (by rw [List.length_append]; omega))
  have HB := Lib.hid hB
  have HU : Hid (setR (xs ++ ys) = unionR xs ys) := union_set xs ys
  clear hx hy hna hnb hlx hly hB
  generalize unionR xs ys = U at *
  go_enter Tryz.func77, Tryz.ntmps77
  go_wp2_with fail
  refine HC.out.mono ?_
  rintro e w2 ⟨v, rfl, ho, hb⟩
  replace HB := bel_tr HB hb
  obtain ⟨a2, c2, rfl, hr, -⟩ := ho.row
  have HR := Lib.hid hr
  clear ho hb hr HC
  generalize xs ++ ys = l at *
  go_wp2_with fail
  refine (HCh.out a2 c2 w2 HR.out).mono ?_
  rintro e w3 ⟨v, rfl, hch, hb⟩
  have HS := Lib.hid hch.all
  rw [HU.out] at HS
  have HS2 : Hid (SetV w3 w.heap.size v U) := HS.out.mono HB.out.size
  replace HB := bel_tr HB hb
  clear hch hb HCh
  go_wp2_with fail
  go_ret
  exact ⟨_, rfl, HS2.out, HB.out⟩

theorem set_len (l : List Dt) : (setR l).length ≤ l.length := by
  have := union_len l []
  simp at this
  exact this

end Go.Proofs.YtgopkffgljiblaaGreat.D
end
