/-
  The whole part of a store.
-/
import Derived.Test.YtodjccfaipkpfaaGreatDoorMFoA
import Derived.Test.YtodjccfaipkpfaaGreatDoorQOwn

section
namespace Go.Proofs.YtodjccfaipkpfaaGreatDoor.Fo
set_option linter.unusedVariables false
open Go.RowKit V Go.Sort D Nd Qs Wk
attribute [local irreducible] Sch.heldN Sch.stepV Sch.stepE

theorem run_mkN0 (w : World) (c : Nat) (hc : c ≤ 1000000) :
    ∃ w', (Instr.makeSlice 22 (.int .i64 0) (.int .i64 (c : Int))).run Tryz.prog w = .ok (.slice (some ⟨w.heap.size, 0, none⟩) 0 c) w' ∧ ON w' w.heap.size 35 (.slice (some ⟨w.heap.size, 0, none⟩) 0 c) [] ∧ Below w.heap.size w w' := by
  obtain ⟨i, hi, hz0, hz1, hz2⟩ := G.info_of infoN
  obtain ⟨w', hr, ho, hg⟩ := run_make_own (P := Tryz.prog) w w.heap.size 22 35 i _ 6 Tryz.underlying22 hi hz0 hz1 .i64 .i64 c (by rw [hz2]; omega) (by unfold maxLen; omega) (Nat.le_refl _)
  exact ⟨w', hr, ho, (Below.refl _ _).grown hg (Nat.le_refl _) (fun k hk => by cases hk)⟩
theorem ob_load {w : World} {base : Nat} {E : TypeId} {a : Option Addr} {n c : Nat} {l : List Bool} (h : OB w base E (.slice a n c) l) (k : Nat) (hk : k < l.length) : ∃ g, a = some ⟨g, 0, none⟩ ∧ base ≤ g ∧ w.cell? ⟨g, k, none⟩ = some (.bool l[k]) := by
  rcases h.row with ⟨e, e2⟩ | ⟨g, c', e, hb, -⟩
  · subst e2; simp at hk
  · simp only [Value.slice.injEq] at e
    obtain ⟨rfl, rfl, rfl⟩ := e
    exact ⟨g, rfl, hb, h.at k hk⟩

set_option maxRecDepth 100000 in
set_option maxHeartbeats 4000000 in
theorem whole_any (l : List Nt) (a : Option Addr) (c : Nat) (w : World) (hf : ∀ x ∈ l, fitN x) (hx : RowN w a l) (hlx : l.length ≤ 1000000) :
    Calls Tryz.prog 10 #[.slice a l.length c] w fun e w' => ∃ v, e = .returned (.tuple #[v, .int .i64 (wholeP l).2]) ∧ ON w' w.heap.size 35 v (wholeP l).1 ∧ Below w.heap.size w w' := by
  have HVd := Lib.hid (validS_any l a c w hx hlx)
  have HLo := Lib.hid (fun w h => listOf_any l a c w hf h hlx)
  have HGo := Lib.hid (fun hv b w h1 h2 => gone_any l hv a c b w hf h1 h2 hlx)
  have HE : Hid ((validS l = true → wholeP l = (wholeS l, 0)) ∧ (validS l = false → wholeP l = ([], 2))) := ⟨fun h => if_pos h, fun h => if_neg (by rw [h]; simp)⟩
  have HX := Lib.hid hx
  have hli : (l.length : Int) ≤ 1000000 := by omega
  have HLn := Lib.hid hlx
  clear hf hx hlx
  generalize wholeP l = R at *
  go_enter Tryz.func10, Tryz.ntmps10
  go_wp2_with fail
  refine HVd.out.mono ?_
  rintro e w2 ⟨rfl, hb⟩
  have HB := Lib.hid hb
  replace HX := Lib.hid (HX.out.keep hb)
  clear hb HVd
  rcases hv : validS l with _ | _
  · have hE := Lib.hid (HE.out.2 hv)
    clear HE HGo HLo hv
    go_wp2_with fail
    go_ret2
    exact ⟨_, by rw [hE.out]; rfl, by rw [hE.out]; exact ON.nil _ _ _, HB.out⟩
  · have hE := Lib.hid (HE.out.1 hv)
    have HGo2 := Lib.hid (HGo.out hv)
    obtain ⟨w3, hmk, ho3, hb3⟩ := run_mkN0 w2 l.length HLn.out
    have HO3 := Lib.hid ho3
    have HZ3 := Lib.hid hb3
    have HLo2 := Lib.hid (HLo.out w3 (HX.out.keep hb3))
    clear HE HGo HLo hv ho3 hb3
    go_wp2_with fail
    refine HLo2.out.mono ?_
    rintro e w4 ⟨b, rfl, hm, hb⟩
    have HO4 := Lib.hid (HO3.out.below hb)
    have HZ4 := bel_tr HZ3 hb
    have HG := Lib.hid (HGo2.out b w4 (HX.out.keep HZ4.out) hm)
    clear hb hm HLo2 HGo2 HO3
    go_wp2_with fail
    refine HG.out.mono ?_
    rintro e w5 ⟨v5, rfl, ho, hb⟩
    obtain ⟨a5, c5, rfl⟩ : ∃ a5 c5, v5 = .slice a5 l.length c5 := by
      rcases ho.row with ⟨e, e2⟩ | ⟨g, c', e, -⟩
      · have e3 : l.length = 0 := by have := gone_len l; rw [e2] at this; exact this.symm
        exact ⟨none, 0, by rw [e, e3]⟩
      · rw [gone_len] at e; exact ⟨_, c', e⟩
    have HO5 := Lib.hid (HO4.out.below hb)
    have HZ5 := bel_tr HZ4 hb
    have HR5 := Lib.hid ho
    obtain ⟨s4, hs4⟩ : ∃ s4, s4 = w4.heap.size := ⟨_, rfl⟩
    obtain ⟨s5, hs5⟩ : ∃ s5, s5 = w5.heap.size := ⟨_, rfl⟩
    have HX5 : Hid (∀ x, (Value.slice a5 l.length c5).ownBlock = some x → s4 ≤ x ∧ x < s5) := fun x hx => by
      rw [hs4, hs5]
      exact ho.lt x hx
    have HU5 : Hid (Out s4 s5 (.slice (some ⟨w2.heap.size, 0, none⟩) 0 l.length)) := fun x hx => .inl (by rw [hs4]; exact (HO4.out.lt x hx).2)
    have HS5 : Hid (s5 ≤ w5.heap.size) := Nat.le_of_eq hs5
    rw [← hs4] at HR5
    clear ho hb HG HO4 HZ4 HZ3 hs4 hs5 hmk
    go_wp2_with fail
    go_loopw [4, 5, 6, 17] (fun v _ _ i wr => ∃ k : Nat, k ≤ l.length ∧ i = .int .i64 (k : Int) ∧ Hid (Below w2.heap.size w2 wr) ∧ Hid (OB wr s4 4 (.slice a5 l.length c5) (goneS l)) ∧ Hid (ON wr w2.heap.size 35 v (wholeT l k)) ∧ Hid (Out s4 s5 v) ∧ Hid (s5 ≤ wr.heap.size)) (fun _ _ _ i _ => l.length - (intOf i).toNat)
    case atStart => exact ⟨0, Nat.zero_le _, rfl, HZ5, HR5, HO5, HU5, HS5⟩
    case round =>
      clear HZ5 HR5 HO5 HU5 HS5
      obtain ⟨k, hk, rfl, HZ, HR, HO, HU, HS⟩ := hrel
      by_cases hlt : k < l.length
      · have hi0 : (k : Int) < (l.length : Int) := by omega
        have hkT : k < (goneS l).length := by rw [gone_len]; exact hlt
        have HT1 := Lib.hid (whole_hit hlt)
        have HT0 := Lib.hid (whole_miss hlt)
        have HKl : Hid ((wholeT l k).length ≤ 1000000) := by show _ ≤ _; have := wholeT_len l k; have := HLn.out; omega
        obtain ⟨g5, rfl, -, hc⟩ := ob_load HR.out k hkT
        rw [gone_at l k hkT hlt] at hc
        obtain ⟨b1, o1, e1, hna⟩ := na_of (HX.out.keep HZ.out) k hlt
        have hix := ixN b1 o1 l.length c k (k : Int) rfl hlt
        have hixb := ixB g5 0 l.length c5 k (k : Int) rfl hlt
        rw [Nat.zero_add] at hixb
        obtain ⟨st, hst⟩ : ∃ st, st = stS l l[k] := ⟨_, rfl⟩
        rw [← hst] at hc HT1 HT0
        obtain ⟨q, hq⟩ : ∃ q, q = l[k] := ⟨_, rfl⟩
        rw [← hq] at hna HT1
        subst e1
        clear hq hst
        rcases st with _ | _
        · have HT := Lib.hid (HT0.out rfl)
          clear HT0 HT1 hna
          go_wp2_with fail
          go_roundw
          case rel => exact ⟨k + 1, by omega, by go_num, HZ, HR, by show ON _ _ _ _ _; rw [HT.out]; exact HO.out, HU, HS⟩
          case measure => simp [intOf]; omega
        · have HT := Lib.hid (HT1.out rfl)
          have hb2 := bel_box wr (.cells (nc q) 35)
          have HZ2 := bel_tr HZ hb2
          have HO2 := Lib.hid (HO.out.below hb2)
          have HR2 := Lib.hid (HR.out.below hb2)
          have HBs : Hid (w2.heap.size ≤ (wr.alloc (.cells (nc q) 35)).heap.size) := HZ2.out.size
          have HS2 : Hid (s5 ≤ (wr.alloc (.cells (nc q) 35)).heap.size) := Nat.le_trans HS.out hb2.size
          have HLt : Hid (RowN (wr.alloc (.cells (nc q) 35)) (some ⟨wr.heap.size, 0, none⟩) [q]) := RowN.lit wr [q] (nc q) _ _ rfl
          clear hb2 HT0 HT1
          obtain ⟨n0, n1, n2, n3, n4, n5⟩ := hna
          obtain ⟨⟨q1, q2⟩, ⟨q3, q4⟩, q5, q6⟩ := q
          go_wp2_with (at_builtin; refine wpList_appN rfl _ _ _ rfl Tryz.underlying22 infoN _ _ rfl HO2.out (some ⟨wr.heap.size, 0, none⟩) [((q1, q2), (q3, q4), q5, q6)] 1 1 rfl rfl HLt.out (fun h => by cases h) (by have := HKl.out; simp only [List.length_cons, List.length_nil]; omega) HBs.out ?_; intro v' w' ho' hg' hgr')
          have HO7 : Hid (ON w' w2.heap.size 35 v' (wholeT l (k + 1))) := by show ON _ _ _ _ _; rw [HT.out]; exact ho'
          have HZ7 := Lib.hid (HZ2.out.grown hg' HZ2.out.size (fun x hx => (HO2.out.lt x hx).1))
          have HR7 := Lib.hid (HR2.out.keep hg' (.inr (fun e => by have h1 := HU.out g5 e.symm; have h2 := HX5.out g5 rfl; omega)))
          have HU7 := Lib.hid (HU.out.grew hgr' HS2.out)
          have HS7 := Lib.hid (Nat.le_trans HS2.out hg'.size)
          clear ho' hg' hgr' n0 n1 n2 n3 n4 n5
          go_wp2_with fail
          go_roundw
          case rel => exact ⟨k + 1, by omega, by go_num, HZ7, HR7, HO7, HU7, HS7⟩
          case measure => simp [intOf]; omega
      · obtain rfl : k = l.length := by omega
        have hend : ¬ (l.length : Int) < (l.length : Int) := by omega
        have HB4 := bel_tr HB HZ.out
        have HO4 : Hid (ON wr w.heap.size 35 u4 (wholeS l)) := by
          have := HO.out
          rw [whole_all] at this
          exact this.mono fun x hx => Nat.le_trans HB.out.size (this.lt x hx).1
        clear HO
        go_wp2_with fail
        go_ret2
        exact ⟨_, by rw [hE.out]; rfl, by rw [hE.out]; exact HO4.out, HB4.out⟩
end Go.Proofs.YtodjccfaipkpfaaGreatDoor.Fo
end

/-
  The words of flaws: the program's table, the reference's switch.
-/
section
namespace Go.Proofs.YtodjccfaipkpfaaGreatDoor.Fo
set_option linter.unusedVariables false
open Go.RowKit V Go.Sort D Nd Qs Wk

def wordsL : List (List UInt8) := [[110, 111, 110, 101], [110, 111, 100, 101], [111, 114, 100, 101, 114], [112, 97, 114, 101, 110, 116], [116, 105, 109, 101]]
def wordS (f : Int) : List UInt8 := if f = 0 then [110, 111, 110, 101] else if f = 1 then [110, 111, 100, 101] else if f = 2 then [111, 114, 100, 101, 114] else if f = 3 then [112, 97, 114, 101, 110, 116] else if f = 4 then [116, 105, 109, 101] else []
/-- What the table holds. -/
def Ws (w : World) : Prop := w.cell? ⟨0, 0, none⟩ = some (.string ⟨#[110, 111, 110, 101]⟩) ∧ w.cell? ⟨0, 1, none⟩ = some (.string ⟨#[110, 111, 100, 101]⟩) ∧ w.cell? ⟨0, 2, none⟩ = some (.string ⟨#[111, 114, 100, 101, 114]⟩) ∧
  w.cell? ⟨0, 3, none⟩ = some (.string ⟨#[112, 97, 114, 101, 110, 116]⟩) ∧ w.cell? ⟨0, 4, none⟩ = some (.string ⟨#[116, 105, 109, 101]⟩)
theorem Ws.keep {w w' : World} (h : Ws w) (hb : Below w.heap.size w w') : Ws w' := by
  obtain ⟨h0, h1, h2, h3, h4⟩ := h
  exact ⟨(hb.cell (p := ⟨_, _, none⟩) (lt_of_cell h0)).trans h0, (hb.cell (p := ⟨_, _, none⟩) (lt_of_cell h1)).trans h1, (hb.cell (p := ⟨_, _, none⟩) (lt_of_cell h2)).trans h2, (hb.cell (p := ⟨_, _, none⟩) (lt_of_cell h3)).trans h3, (hb.cell (p := ⟨_, _, none⟩) (lt_of_cell h4)).trans h4⟩
set_option maxRecDepth 100000 in
set_option maxHeartbeats 1000000 in
theorem word_any (f : Int) (w : World) (h : Ws w) : Calls Tryz.prog 17 #[.int .i64 f] w fun e w' => e = .returned (.string ⟨(wordS f).toArray⟩) ∧ w' = w := by
  obtain ⟨h0, h1, h2, h3, h4⟩ := h
  by_cases hn : f < 0
  · have HE : Hid (wordS f = []) := by show _ = _; unfold wordS; rw [if_neg (by omega), if_neg (by omega), if_neg (by omega), if_neg (by omega), if_neg (by omega)]
    go_enter Tryz.func17, Tryz.ntmps17
    go_wp2_with fail
    go_ret
    exact ⟨by rw [HE.out]; rfl, rfl⟩
  by_cases hg : 5 ≤ f
  · have HE : Hid (wordS f = []) := by show _ = _; unfold wordS; rw [if_neg (by omega), if_neg (by omega), if_neg (by omega), if_neg (by omega), if_neg (by omega)]
    go_enter Tryz.func17, Tryz.ntmps17
    go_wp2_with fail
    go_ret
    exact ⟨by rw [HE.out]; rfl, rfl⟩
  have hc : f = 0 ∨ f = 1 ∨ f = 2 ∨ f = 3 ∨ f = 4 := by omega
  clear hn hg
  rcases hc with rfl | rfl | rfl | rfl | rfl
  all_goals
    go_enter Tryz.func17, Tryz.ntmps17
    go_wp2_with fail
    go_ret
    exact ⟨rfl, rfl⟩
end Go.Proofs.YtodjccfaipkpfaaGreatDoor.Fo
end
