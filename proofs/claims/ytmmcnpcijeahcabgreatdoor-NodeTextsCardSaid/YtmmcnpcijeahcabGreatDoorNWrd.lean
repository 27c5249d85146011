/-
  The reference's words and time.
-/
import Derived.Test.YtmmcnpcijeahcabGreatDoorNSpl
import Derived.Test.YtmmcnpcijeahcabGreatDoorDParseR
namespace Go.Proofs.YtmmcnpcijeahcabGreatDoor.Nd
set_option linter.unusedVariables false
open Go.RowKit V Go.Sort D

/-- A row of strings of the call's own. -/
def OW (w : World) (base : Nat) (v : Value) (l : List (List UInt8)) : Prop := w.ownsRow base 9 1 v l.length (l.map fun x => Value.string ⟨x.toArray⟩)
section
variable {w w' : World} {base : Nat} {v : Value} {l : List (List UInt8)}
theorem OW.nil (w : World) (base : Nat) : OW w base (.slice none 0 0) [] := World.ownsRow_nil w base _ 1
theorem OW.row (h : OW w base v l) (hl : l ≠ []) : ∃ g c, v = .slice (some ⟨g, 0, none⟩) l.length c ∧ l.length ≤ c ∧ RowW w g l ∧ base ≤ g := by
  rcases h.2 with ⟨rfl, h0⟩ | ⟨g, cap, cur, rfl, hb, hg, hn, hc, hs, ht⟩
  · exact absurd (List.eq_nil_of_length_eq_zero h0) hl
  · refine ⟨g, cap, rfl, hn, fun i hi => ?_, hb⟩
    rw [World.ownsRow.cellAt h i (by omega)]
    simp [hi]
theorem OW.shape (h : OW w base v l) : ∃ a c, v = .slice a l.length c := by
  rcases h.2 with ⟨rfl, h0⟩ | ⟨g, cap, cur, rfl, _⟩
  · exact ⟨none, 0, by rw [List.eq_nil_of_length_eq_zero h0]; rfl⟩
  · exact ⟨_, _, rfl⟩
theorem OW.keep {row : Option Nat} (h : OW w base v l) (hg : w.grownBy w' row) (hne : v.ownBlock = none ∨ v.ownBlock ≠ row) : OW w' base v l := World.ownsRow.kept h hg hne
theorem OW.below (h : OW w base v l) (hb : Below w.heap.size w w') : OW w' base v l := h.keep (gb_below hb none) (by rcases v.ownBlock with _ | x <;> simp)
theorem OW.lt (h : OW w base v l) : ∀ x, v.ownBlock = some x → base ≤ x ∧ x < w.heap.size := World.ownsRow.lt h
end
theorem wpList_appW {w : World} {ops : Array Oper} {rest : List Oper} {x : Oper} {a : Act} {Q : Exit → Act → World → Prop} (hgd : x.guard = none) (s y : Operand)
    (ho : x.op = .call { callee := .builtin .append, args := #[s, y], argTypes := #[55, 55] })
    {base : Nat} (v : Value) (l : List (List UInt8)) (hs : a.eval s = v) (h : OW w base v l) (g c : Nat) (m : List UInt8) (hx : a.eval y = .slice (some ⟨g, 0, none⟩) 1 c) (hrow : w.cell? ⟨g, 0, none⟩ = some (.string ⟨m.toArray⟩))
    (hlen : l.length ≤ 8796093022206) (hbase : base ≤ w.heap.size)
    (hk : ∀ v' w', OW w' base v' (l ++ [m]) → w.grownBy w' v.ownBlock → wpList Tryz.prog ops Q rest (a.put x.dst v') w') : wpList Tryz.prog ops Q (x :: rest) a w := by
  obtain ⟨i, hi, hz0, hz1, hz2⟩ := G.info_of infoS
  have hrow' : ∀ j u, [Value.string ⟨m.toArray⟩][j]? = some u → w.cell? ((⟨g, 0, none⟩ : Addr).add j) = some u := by
    intro j u hj
    rcases j with _ | j
    · cases hj
      rw [show (⟨g, 0, none⟩ : Addr).add 0 = ⟨g, 0, none⟩ by unfold Addr.add; rfl]
      exact hrow
    · simp at hj
  obtain ⟨v', w', hr, ho', hg, _, _⟩ := run_append_own_at (P := Tryz.prog) w base 55 x.type 9 i _ 1 16 Tryz.underlying55 hi hz0 hz1 hz2 rfl (by omega) v _ _ h ⟨g, 0, none⟩ 1 c [Value.string ⟨m.toArray⟩] rfl hrow'
      (fun u hu => by rw [List.mem_singleton.1 hu]; rfl) (by unfold maxLen; omega) (by omega) hbase
  refine wpList_plain hgd fun K hK => ?_
  unfold Oper.wp execOp
  simp only [ho, resolve, invoke, builtin, Sem.run_bind, Sem.run_pure, Result.andThen_ok, List.map_toArray, List.map_cons, List.map_nil, hs, hx, hr]
  refine hK _ _ (hk v' w' ?_ hg)
  unfold OW
  rw [List.length_append, List.map_append]
  exact ho'

theorem ext_part (l : List UInt8) (f i : Nat) : (⟨l.toArray⟩ : ByteArray).extract f i = ⟨((l.drop f).take (i - f)).toArray⟩ := ba_ext (by rw [Lib.extract_data])
/-- Up to where the words are read: these, and where the next one begins. -/
def WInv (l : List UInt8) (ws : List (List UInt8)) (f i : Nat) : Prop :=
  (i ≤ l.length ∧ f ≤ i ∧ wordsL l = ws ++ wordsL (l.drop f) ∧ (32 : UInt8) ∉ (l.drop f).take (i - f)) ∨ (i = l.length + 1 ∧ wordsL l = ws)
theorem WInv.start (l : List UInt8) : WInv l [] 0 0 := .inl ⟨Nat.zero_le _, Nat.le_refl _, rfl, by simp⟩
theorem WInv.stop {l : List UInt8} {ws : List (List UInt8)} {f : Nat} (h : WInv l ws f l.length) : WInv l (ws ++ [(l.drop f).take (l.length - f)]) (l.length + 1) (l.length + 1) := by
  rcases h with ⟨h1, h2, h3, h4⟩ | ⟨h1, _⟩
  · right
    have e : (l.drop f).take (l.length - f) = l.drop f := List.take_of_length_le (by rw [List.length_drop]; exact Nat.le_refl _)
    rw [e] at h4 ⊢
    exact ⟨rfl, by rw [h3, words_one _ h4]⟩
  · omega
theorem WInv.space {l : List UInt8} {ws : List (List UInt8)} {f i : Nat} (h : WInv l ws f i) (hi : i < l.length) (hc : l[i] = 32) : WInv l (ws ++ [(l.drop f).take (i - f)]) (i + 1) (i + 1) := by
  rcases h with ⟨h1, h2, h3, h4⟩ | ⟨h1, _⟩
  · left
    refine ⟨by omega, Nat.le_refl _, ?_, by simp⟩
    have e : l.drop f = (l.drop f).take (i - f) ++ 32 :: l.drop (i + 1) := by
      conv => lhs; rw [← List.take_append_drop (i - f) (l.drop f)]
      rw [List.drop_drop, show f + (i - f) = i by omega, List.drop_eq_getElem_cons hi, hc]
    rw [h3]
    conv => lhs; rw [e]
    rw [words_app _ _ h4, List.append_assoc]
    rfl
  · omega
theorem WInv.go {l : List UInt8} {ws : List (List UInt8)} {f i : Nat} (h : WInv l ws f i) (hi : i < l.length) (hc : l[i] ≠ 32) : WInv l ws f (i + 1) := by
  rcases h with ⟨h1, h2, h3, h4⟩ | ⟨h1, _⟩
  · left
    refine ⟨by omega, by omega, h3, ?_⟩
    rw [show i + 1 - f = (i - f) + 1 by omega, List.take_succ_eq_append_getElem (by rw [List.length_drop]; omega)]
    intro hm
    rcases List.mem_append.1 hm with hm | hm
    · exact h4 hm
    · have := List.mem_singleton.1 hm
      rw [List.getElem_drop] at this
      have e2 : f + (i - f) = i := by omega
      simp only [e2] at this
      exact hc this.symm
  · omega
theorem WInv.len {l : List UInt8} {ws : List (List UInt8)} {f i : Nat} (h : WInv l ws f i) : ws.length ≤ l.length + 1 := by
  have := words_len l
  rcases h with ⟨-, -, h3, -⟩ | ⟨-, h3⟩
  · rw [h3, List.length_append] at this; omega
  · rw [h3] at this; exact this

set_option maxRecDepth 100000 in
set_option maxHeartbeats 4000000 in
theorem words_ref (l : List UInt8) (w : World) (hl : l.length ≤ 1000000) :
    Calls Tryz.prog 39 #[.string ⟨l.toArray⟩] w fun e w' => ∃ g c, e = .returned (.slice (some ⟨g, 0, none⟩) (wordsL l).length c) ∧ (wordsL l).length ≤ c ∧ RowW w' g (wordsL l) ∧ w.heap.size ≤ g ∧ Below w.heap.size w w' := by
  have hsz := ba_size l
  have HX := Lib.hid (fun f i => ext_part l f i)
  have HIx := Lib.hid (fun k hk => D.idx_str l k hk .i64)
  have hli : (l.length : Int) ≤ 1000000 := by omega
  have HL := Lib.hid hl
  clear hl
  generalize hS : (⟨l.toArray⟩ : ByteArray) = S at *
  have HS := Lib.hid hS
  clear hS
  go_enter Tryz.func39, Tryz.ntmps39
  go_wp2_with fail
  go_loopw [3, 4, 5] (fun o s4 s5 wr => ∃ (ws : List (List UInt8)) (f i : Nat), f ≤ l.length + 1 ∧ i ≤ l.length + 1 ∧ s4 = .int .i64 f ∧ s5 = .int .i64 i ∧ Hid (f ≤ i) ∧ Hid (WInv l ws f i) ∧ Hid (OW wr w.heap.size o ws) ∧ Hid (Below w.heap.size w wr)) (fun _ _ i _ => l.length + 1 - (intOf i).toNat)
  case atStart => exact ⟨[], 0, 0, by omega, by omega, rfl, rfl, Nat.le_refl _, WInv.start l, OW.nil _ _, Below.refl _ _⟩
  case round =>
    obtain ⟨ws, f, i, hf, hi, rfl, rfl, HF, HI, HO, HB⟩ := hrel
    obtain ⟨a, c, rfl⟩ := HO.out.shape
    have HW := Lib.hid HI.out.len
    by_cases hend : i = l.length + 1
    · have hws : wordsL l = ws := by
        rcases HI.out with ⟨h, -⟩ | ⟨-, h⟩
        · omega
        · exact h
      have hne : ¬ i ≤ S.size := by omega
      obtain ⟨g, c2, hv, hc2, hrow, hg⟩ := HO.out.row (by rw [← hws]; exact words_ne l)
      cases hv
      have HR := Lib.hid hrow
      have HE := Lib.hid hws
      have HG := Lib.hid hg
      have HC := Lib.hid hc2
      clear hws hrow hg hc2 hend
      go_wp2_with fail
      go_ret
      rw [HE.out]
      exact ⟨g, c, rfl, HC.out, HR.out, HG.out, HB.out⟩
    · have hle : i ≤ S.size := by omega
      by_cases hlast : i = l.length
      · have heq : ((i : Int) == (S.size : Int)) = true := by rw [beq_iff_eq]; omega
        have HIs := Lib.hid ((show WInv l ws f l.length by rw [← hlast]; exact HI.out).stop)
        subst hlast
        clear hend
        have hfi : f ≤ l.length := HF.out
        have hx := HX.out f l.length
        have hb := bel_box wr (.cells #[.string (S.extract f l.length)] 9)
        have HO2 := Lib.hid (HO.out.below hb)
        replace HB := bel_tr HB hb
        have HC : Hid ((wr.alloc (.cells #[.string (S.extract f l.length)] 9)).cell? ⟨wr.heap.size, 0, none⟩ = some (.string ⟨((l.drop f).take (l.length - f)).toArray⟩)) := by rw [← hx]; show _ = _; go_simp
        clear hb hx
        go_wp2_with (at_builtin; refine wpList_appW rfl _ _ rfl _ ws rfl HO2.out wr.heap.size 1 _ rfl HC.out (by have h1 := HW.out; have h2 := HL.out; omega) HB.out.size ?_)
        intro v5 w5 ho5 hg5
        have HO5 := Lib.hid ho5
        replace HB : Hid (Below w.heap.size w w5) := HB.out.grown hg5 HB.out.size fun k hk => (HO2.out.lt k hk).1
        clear ho5 hg5 HC
        go_wp2_with fail
        go_roundw
        case rel => exact ⟨_, l.length + 1, l.length + 1, by omega, by omega, by go_num, by go_num, Nat.le_refl _, HIs.out, HO5.out, HB.out⟩
        case measure => simp [intOf]
      · have heq : ((i : Int) == (S.size : Int)) = false := by rw [beq_eq_false_iff_ne]; omega
        have hlt : i < l.length := by omega
        have hix := fun w => HIx.out i hlt w (by omega)
        have hgd : l.getD i 0 = l[i] := by simp [List.getD, hlt]
        clear hend hlast
        by_cases hc : l[i] = 32
        · have HI3 := Lib.hid (HI.out.space hlt hc)
          rw [hgd, hc] at hix
          have HLt := Lib.hid hlt
          clear hgd hc
          have hfi : f ≤ i := HF.out
          have hx := HX.out f i
          have hb := bel_box wr (.cells #[.string (S.extract f i)] 9)
          have HO2 := Lib.hid (HO.out.below hb)
          replace HB := bel_tr HB hb
          have HC : Hid ((wr.alloc (.cells #[.string (S.extract f i)] 9)).cell? ⟨wr.heap.size, 0, none⟩ = some (.string ⟨((l.drop f).take (i - f)).toArray⟩)) := by rw [← hx]; show _ = _; go_simp
          clear hb hx
          go_wp2_with (at_builtin; refine wpList_appW rfl _ _ rfl _ ws rfl HO2.out wr.heap.size 1 _ rfl HC.out (by have h1 := HW.out; have h2 := HL.out; omega) HB.out.size ?_)
          intro v5 w5 ho5 hg5
          have HO5 := Lib.hid ho5
          replace HB : Hid (Below w.heap.size w w5) := HB.out.grown hg5 HB.out.size fun k hk => (HO2.out.lt k hk).1
          clear ho5 hg5 HC
          have HI2 := Lib.hid (HI3.out)
          go_wp2_with fail
          go_roundw
          case rel => exact ⟨_, i + 1, i + 1, by omega, by omega, by go_num, by go_num, Nat.le_refl _, HI2.out, HO5.out, HB.out⟩
          case measure => simp [intOf]; omega
        · have HI3 := Lib.hid (HI.out.go hlt hc)
          have h8 : (((l.getD i 0).toNat : Int) == 32) = false := by
            rw [beq_eq_false_iff_ne, hgd]
            intro h
            exact hc (by apply UInt8.toNat_inj.1; show _ = 32; omega)
          have hm8 : ((l.getD i 0).toNat : Int) < 256 := by have := (l.getD i 0).toNat_lt; omega
          generalize (l.getD i 0).toNat = b at *
          have HF2 : Hid (f ≤ i + 1) := by have := HF.out; show _ ≤ _; omega
          clear hgd hc
          go_wp2_with fail
          go_roundw
          case rel => exact ⟨ws, f, i + 1, by omega, by omega, rfl, by go_num, HF2.out, HI3.out, HO.out, HB.out⟩
          case measure => simp [intOf]; omega
end Go.Proofs.YtmmcnpcijeahcabGreatDoor.Nd
