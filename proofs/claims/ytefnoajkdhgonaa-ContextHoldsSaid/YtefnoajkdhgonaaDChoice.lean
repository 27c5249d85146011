/-
  The walk of the program's choice.
-/
import Derived.Test.YtefnoajkdhgonaaDSet
namespace Go.Proofs.Ytefnoajkdhgonaa.D
set_option linter.unusedVariables false
open Go.RowKit V Go.Sort

theorem mk_room (c : Nat) (hc : c ≤ 1000000000) (w : World) :
    ∃ w', (Instr.makeSlice 22 (.int .i64 0) (.int .i64 (c : Int))).run Try.prog w = .ok (.slice (some ⟨w.heap.size, 0, none⟩) 0 c) w' ∧ OD w' w.heap.size E (.slice (some ⟨w.heap.size, 0, none⟩) 0 c) [] ∧ Below w.heap.size w w' := by
  obtain ⟨i, hi, hz0, hz1, hz2⟩ := G.info_of infoD
  obtain ⟨w', h1, h2, h3⟩ := run_make_own (P := Try.prog) w w.heap.size 22 38 i (.agg #[.int .i64 0, .int .i64 0]) 2 Try.underlying22 hi hz0 hz1 .i64 .i64 c (by rw [hz2]; omega) (by unfold maxLen; omega) (Nat.le_refl _)
  exact ⟨w', h1, h2, (Below.refl _ _).grown h3 (Nat.le_refl _) (fun k hk => by cases hk)⟩
theorem filter_take {l : List Dt} {k : Nat} (h : k < l.length) (p : Dt → Bool) : (l.take (k + 1)).filter p = if p l[k] = true then (l.take k).filter p ++ [l[k]] else (l.take k).filter p := by
  rw [List.take_succ_eq_append_getElem h, List.filter_append]
  by_cases e : p l[k] = true
  · simp [e]
  · simp [e]

/-- The dots of a list that stay, as a set. -/
def Chosen (w' : World) (base : Nat) (v : Value) (l : List Dt) (p : Dt → Bool) : Prop := ∃ m, SetV w' base v m ∧ Srt m ∧ ∀ x, x ∈ m ↔ x ∈ l ∧ p x = true

set_option maxRecDepth 100000 in
set_option maxHeartbeats 2000000 in
theorem choice_any (l : List Dt) (a : Option Addr) (c : Nat) (g : Nat) (cb : Array Value) (p : Dt → Bool) (w : World) (eg : ∀ args w, (callFunc g args).run Try.prog w = .ok (.enter g args) w) (hp : Says w g cb p) (hx : RowD w a l) (hlx : l.length ≤ 1000000) :
    Calls Try.prog 82 #[.agg #[.slice a l.length c, .func (.func g) #[] cb]] w fun e w' => ∃ v, e = .returned v ∧ Chosen w' w.heap.size v l p ∧ Below w.heap.size w w' := by
  have HP := Lib.hid hp
  have HX := Lib.hid hx
  have HLn := Lib.hid hlx
  have hli : (l.length : Int) ≤ 1000000 := by omega
  clear hp hx hlx
  go_enter Try.func82, Try.ntmps82
  obtain ⟨w2, hmk, hO, hB2⟩ := mk_room l.length (by have := HLn.out; omega) (w.alloc (Obj.cells #[.slice a l.length c, .func (.func g) #[] cb] 91))
  have k0 : w2.cell? ⟨w.heap.size, 0, none⟩ = some (.slice a l.length c) := (hB2.cell (p := ⟨_, _, none⟩) (by simp <;> omega)).trans (by go_simp)
  have k1 : w2.cell? ⟨w.heap.size, 1, none⟩ = some (.func (.func g) #[] cb) := (hB2.cell (p := ⟨_, _, none⟩) (by simp <;> omega)).trans (by go_simp)
  have hB : Below w.heap.size w w2 := ((Below.refl _ _).alloc (Nat.le_refl _) _).trans (hB2.mono (by simp <;> omega))
  have hO2 : OD w2 (w.heap.size + 1) E (.slice (some ⟨w.heap.size + 1, 0, none⟩) 0 l.length) [] := by simpa using hO
  have HS2 : Hid (w.heap.size + 1 ≤ w2.heap.size) := by have := hB2.size; show _ ≤ _; simpa using this
  have HB := Lib.hid hB
  have HO := Lib.hid hO2
  have H0 := Lib.hid k0
  have H1 := Lib.hid k1
  clear hB hO hO2 hB2
  go_wp2_with fail
  clear hmk k0 k1
  go_loopw [3, 5, 13] (fun v _ i wr => ∃ k : Nat, k ≤ l.length ∧ i = .int .i64 (k : Int) ∧ Hid (Below (w.heap.size + 1) w2 wr) ∧ Hid (OD wr (w.heap.size + 1) E v ((l.take k).filter p))) (fun _ _ i _ => l.length - (intOf i).toNat)
  case atStart => exact ⟨0, Nat.zero_le _, rfl, Below.refl _ _, by show OD _ _ _ _ _; rw [List.take_zero]; exact HO.out⟩
  case round =>
    obtain ⟨k, hk, rfl, hh, hO⟩ := hrel
    by_cases hlt : k < l.length
    · have hi1 : (k : Int) < (l.length : Int) := by omega
      have hBw : Below w.heap.size w wr := HB.out.trans (hh.out.mono (by omega))
      obtain ⟨b1, o1, rfl, p0, p1⟩ := HX.out.get hBw k hlt
      have HF := Lib.hid (filter_take hlt p)
      obtain ⟨q, hq⟩ : ∃ q, q = l[k] := ⟨_, rfl⟩
      rw [← hq] at p0 p1 HF
      have k0 := (hh.out.cell (p := ⟨_, _, none⟩) (by show w.heap.size < _; omega)).trans H0.out
      have k1 := (hh.out.cell (p := ⟨_, _, none⟩) (by show w.heap.size < _; omega)).trans H1.out
      have k2 := fun o => Lib.cell?_alloc_some o k1
      have HBw := Lib.hid hBw
      clear hq hBw
      obtain ⟨q1, q2⟩ := q
      have HFl : Hid (((l.take k).filter p).length ≤ 1000000) := by
        show _ ≤ _
        have h1 := List.length_filter_le p (l.take k)
        rw [List.length_take] at h1
        have := HLn.out
        omega
      go_wp2_with fail
      refine (HP.out _ (HBw.out.alloc HBw.out.size _) (q1, q2)).mono ?_
      rintro e w3 ⟨rfl, hb⟩
      have hs : wr.heap.size < (wr.alloc (Obj.cells #[Value.int IntKind.i64 q1, Value.int IntKind.i64 q2] 38)).heap.size := by simp
      have m0 : w3.cell? ⟨wr.heap.size, 0, none⟩ = some (.int .i64 q1) := (hb.cell (p := ⟨_, _, none⟩) hs).trans (by go_simp)
      have m1 : w3.cell? ⟨wr.heap.size, 1, none⟩ = some (.int .i64 q2) := (hb.cell (p := ⟨_, _, none⟩) hs).trans (by go_simp)
      have hh3 : Below (w.heap.size + 1) w2 w3 := hh.out.trans (((Below.refl _ _).alloc (Nat.le_refl _) _).trans (hb.mono (Nat.le_of_lt hs)) |>.mono (Nat.le_trans HS2.out hh.out.size))
      have hO3 : OD w3 (w.heap.size + 1) E u3 ((l.take k).filter p) := hO.out.below (((Below.refl _ _).alloc (Nat.le_refl _) _).trans (hb.mono (Nat.le_of_lt hs)))
      have HH3 := Lib.hid hh3
      have HO3 := Lib.hid hO3
      clear hb hs hh3 hO3 k0 k1 k2 p0 p1
      rcases hpq : p (q1, q2) with _ | _
      · have hf := HF.out
        rw [hpq, if_neg (by simp)] at hf
        replace HF := Lib.hid hf
        clear hf hpq
        go_wp2_with fail
        go_roundw
        case rel => exact ⟨k + 1, by omega, by go_num, HH3, by show OD _ _ _ _ _; rw [HF.out]; exact HO3.out⟩
        case measure => simp [intOf]; omega
      · have hf := HF.out
        rw [hpq, if_pos rfl] at hf
        replace HF := Lib.hid hf
        clear hf hpq
        have HO4 : Hid (OD (w3.alloc (Obj.cells #[Value.int IntKind.i64 q1, Value.int IntKind.i64 q2] 38)) (w.heap.size + 1) E u3 ((l.take k).filter p)) := HO3.out.below ((Below.refl _ _).alloc (Nat.le_refl _) _)
        have HH4 : Hid (Below (w.heap.size + 1) w2 (w3.alloc (Obj.cells #[Value.int IntKind.i64 q1, Value.int IntKind.i64 q2] 38))) := HH3.out.alloc (Nat.le_trans HS2.out HH3.out.size) _
        go_wp2_with (at_builtin; refine wpList_appD rfl _ _ _ rfl Try.underlying22 infoD _ _ rfl HO4.out (some ⟨w3.heap.size, 0, none⟩) [(q1, q2)] 1 rfl (lit_one w3 (q1, q2) _) (fun h => by cases h) (by have := HFl.out; simp; omega) (Nat.le_trans HS2.out HH4.out.size) ?_)
        intro v4 w4 ho hg _
        have HO5 : Hid (OD w4 (w.heap.size + 1) E v4 ((l.take k).filter p ++ [(q1, q2)])) := ho
        have HH5 := Lib.hid (HH4.out.grown hg (Nat.le_trans HS2.out HH4.out.size) (fun k hk => (HO4.out.lt k hk).1))
        clear ho hg
        go_wp2_with fail
        go_roundw
        case rel => exact ⟨k + 1, by omega, by go_num, HH5, by show OD _ _ _ _ _; rw [HF.out]; exact HO5.out⟩
        case measure => simp [intOf]; omega
    · obtain rfl : k = l.length := by omega
      have hi1 : ¬ (l.length : Int) < (l.length : Int) := by omega
      have hBw : Below w.heap.size w wr := HB.out.trans (hh.out.mono (by omega))
      have HBw := Lib.hid hBw
      rw [List.take_length] at hO
      have HFl : Hid ((l.filter p).length ≤ 1000000) := by
        show _ ≤ _
        have h1 := List.length_filter_le p l
        have := HLn.out
        omega
      have HM : Hid (∀ x, x ∈ l.filter p ↔ x ∈ l ∧ p x = true) := fun x => List.mem_filter
      have HSz : Hid (w.heap.size + 1 ≤ wr.heap.size) := Nat.le_trans HS2.out hh.out.size
      clear hBw hh
      generalize l.filter p = f at *
      obtain ⟨a2, c2, rfl, -, hn, -, hx⟩ := hO.out.row
      rcases a2 with _ | ad
      · obtain ⟨rfl, rfl⟩ := hn rfl
        clear hx hn
        go_wp2_with fail
        refine (sort_none 0 _ wr).mono ?_
        rintro e w5 ⟨rfl, rfl⟩
        go_wp2_with fail
        refine (compact_none 0 w5).mono ?_
        rintro e w6 ⟨rfl, rfl⟩
        go_wp2_with fail
        go_ret
        exact ⟨_, rfl, ⟨[], ⟨none, 0, rfl, fun _ => rfl, .inl rfl⟩, srt_nil, HM.out⟩, HBw.out⟩
      · obtain ⟨e, -, -, -⟩ := hx ad rfl
        obtain ⟨gb, o, s⟩ := ad
        cases e
        obtain ⟨-, hb, hfc, hr⟩ := hO.out.rw
        have HRw := Lib.hid hr
        have Hb := Lib.hid hb
        have Hfc := Lib.hid hfc
        clear hx hn hb hfc hr
        go_wp2_with fail
        refine (sort_any gb f c2 wr HRw.out HFl.out).mono ?_
        rintro e w5 ⟨rfl, m, hm, hW, hR, hB5⟩
        have HBw5 : Hid (Below w.heap.size w w5) := HBw.out.trans (hB5.mono (by have := Hb.out; omega))
        have HPm := Lib.hid hm
        have HWm := Lib.hid hW
        have HRm := Lib.hid hR
        have Hlen : Hid (m.length = f.length) := hm.length_eq
        clear hm hW hR hB5
        have HC := compact_any gb m c2 w5 HWm.out HRm.out (by have := Hlen.out; have := Hfc.out; omega) (by have := Hlen.out; have := HFl.out; omega)
        rw [Hlen.out] at HC
        replace HC := Lib.hid HC
        go_wp2_with fail
        refine HC.out.mono ?_
        rintro e w6 ⟨v, rfl, ⟨q, rfl, hs, hmem, hrw⟩, hb6⟩
        have HBw6 : Hid (Below w.heap.size w w6) := HBw5.out.trans (hb6.mono (by have := Hb.out; omega))
        have HCh : Hid (Chosen w6 w.heap.size (.slice (some ⟨gb, 0, none⟩) q.length c2) l p) := ⟨q, ⟨_, _, rfl, fun h => (by cases h), .inr ⟨gb, rfl, by have := Hb.out; omega, hrw⟩⟩, hs, fun x => by rw [hmem, HPm.out.mem_iff]; exact HM.out x⟩
        clear hs hmem hrw hb6 HC
        go_wp2_with fail
        go_ret
        exact ⟨_, rfl, HCh.out, HBw6.out⟩
end Go.Proofs.Ytefnoajkdhgonaa.D
