/-
  Rows of bytes that a call has made itself, and what is appended to them.
-/
import Derived.Test.YtfmlenhakejefaaRows
import Derived.Test.YtfmlenhakejefaaVMem
import Derived.Laws.AppendOwnNone
namespace Go.Proofs.Ytfmlenhakejefaa.V
set_option linter.unusedVariables false
open Go.RowKit

def cells8 (l : List UInt8) : List Value := l.map fun c => .int .u8 (c.toNat : Int)
theorem cells8_length (l : List UInt8) : (cells8 l).length = l.length := by simp [cells8]
theorem cells8_append (l m : List UInt8) : cells8 (l ++ m) = cells8 l ++ cells8 m := by simp [cells8]

/-- v is a row of the call's own that holds the bytes l. -/
def O8 (w : World) (base : Nat) (v : Value) (l : List UInt8) : Prop := w.ownsRow base 5 1 v l.length (cells8 l)

theorem info8 : (Try.prog.info? 5).map (fun i => (i.zero, i.size, i.bytes)) = some (some (.int .u8 0), 1, 1) := by kernel_rfl

theorem O8.nil (w : World) (base : Nat) : O8 w base (.slice none 0 0) [] := World.ownsRow_nil w base _ 1

theorem O8.row {w : World} {base : Nat} {v : Value} {l : List UInt8} (h : O8 w base v l) : ∃ a c, v = .slice a l.length c ∧ Row8 w a l ∧ (a = none → c = 0 ∧ l = []) ∧ (∀ x, a = some x → x = ⟨x.block, 0, none⟩ ∧ v.ownBlock = some x.block ∧ base ≤ x.block ∧ x.block < w.heap.size) := by
  rcases h.2 with ⟨rfl, h0⟩ | ⟨g, cap, cur, rfl, hb, hg, hn, hc, hs, ht⟩
  · have : l = [] := List.eq_nil_of_length_eq_zero h0
    subst this
    exact ⟨none, 0, rfl, .inl rfl, (fun _ => ⟨rfl, rfl⟩), (fun x hx => by cases hx)⟩
  · refine ⟨some ⟨g, 0, none⟩, cap, rfl, ?_, (fun h => by cases h), fun x hx => ?_⟩
    · by_cases hl : l = []
      · exact .inl hl
      · refine .inr ⟨g, 0, rfl, fun i hi => ?_⟩
        have hcell := World.ownsRow.cellAt h i (by omega)
        rw [Nat.zero_add, hcell]
        simp [cells8, hi]
    · cases hx
      exact ⟨rfl, rfl, hb, (Array.getElem?_eq_some_iff.1 hg).1⟩

theorem O8.shape {w : World} {base : Nat} {v : Value} {l : List UInt8} (h : O8 w base v l) : ∃ a n c, v = .slice a n c := by
  obtain ⟨a, c, e, _⟩ := h.row
  exact ⟨a, _, c, e⟩

theorem O8.keep {w w' : World} {base : Nat} {v : Value} {l : List UInt8} {row : Option Nat} (h : O8 w base v l) (hg : w.grownBy w' row) (hne : v.ownBlock = none ∨ v.ownBlock ≠ row) : O8 w' base v l := World.ownsRow.kept h hg hne
theorem O8.below {w w' : World} {base : Nat} {v : Value} {l : List UInt8} (h : O8 w base v l) (hb : Below w.heap.size w w') : O8 w' base v l := by
  refine ⟨h.1, ?_⟩
  rcases h.2 with hn | ⟨g, cap, cur, rfl, hbg, hgg, rest⟩
  · exact .inl hn
  · refine .inr ⟨g, cap, cur, rfl, hbg, ?_, rest⟩
    rw [hb.block g (Array.getElem?_eq_some_iff.1 hgg).1]
    exact hgg
theorem O8.mono {w : World} {base base' : Nat} {v : Value} {l : List UInt8} (h : O8 w base v l) (hb : ∀ k, v.ownBlock = some k → base' ≤ k) : O8 w base' v l := by
  refine ⟨h.1, ?_⟩
  rcases h.2 with hn | ⟨g, cap, cur, rfl, hbg, rest⟩
  · exact .inl hn
  · exact .inr ⟨g, cap, cur, rfl, hb g rfl, rest⟩
theorem O8.lt {w : World} {base : Nat} {v : Value} {l : List UInt8} (h : O8 w base v l) : ∀ k, v.ownBlock = some k → base ≤ k ∧ k < w.heap.size := World.ownsRow.lt h

/-- The row that an append leaves: the one that was there, or a new one. -/
def Grew (w : World) (v v' : Value) : Prop := v'.ownBlock = v.ownBlock ∨ ∃ k, v'.ownBlock = some k ∧ w.heap.size ≤ k

theorem Grew.refl (w : World) (v : Value) : Grew w v v := .inl rfl
theorem Grew.trans {w a : World} {v x y : Value} (h : Grew w v x) (hs : w.heap.size ≤ a.heap.size) (k : Grew a x y) : Grew w v y := by
  rcases k with k | ⟨g, hg, hge⟩
  · rcases h with h | ⟨g, hg, hge⟩
    · exact .inl (k.trans h)
    · exact .inr ⟨g, k.trans hg, hge⟩
  · exact .inr ⟨g, hg, Nat.le_trans hs hge⟩
theorem gb_grew {w a b : World} {v x : Value} (h : w.grownBy a v.ownBlock) (hx : Grew w v x) (k : a.grownBy b x.ownBlock) : w.grownBy b v.ownBlock := by
  refine ⟨k.os.trans h.os, k.tape.trans h.tape, k.output.trans h.output, Nat.le_trans h.size k.size, fun i hi hr => (k.block i (Nat.lt_of_lt_of_le hi h.size) ?_).trans (h.block i hi hr)⟩
  rcases hx with hx | ⟨g, hg, hge⟩
  · rw [hx]; exact hr
  · rw [hg]; intro e; cases e; omega

theorem run_app8 {w : World} {base : Nat} {v : Value} {l : List UInt8} (h : O8 w base v l) (ty : TypeId) (a : Option Addr) (m : List UInt8) (c : Nat) (hrow : Row8 w a m) (hnil : a = none → c = 0)
    (hlen : l.length + m.length ≤ 70368744177664) (hbase : base ≤ w.heap.size) :
    ∃ v' w', (Builtin.append_ #[24, 24] ty #[v, .slice a m.length c]).run Try.prog w = .ok v' w' ∧ O8 w' base v' (l ++ m) ∧ w.grownBy w' v.ownBlock ∧ Grew w v v' := by
  obtain ⟨i, hi, hz0, hz1, hz2⟩ := info_parts info8
  rcases a with _ | ad
  · have hm : m = [] := by
      rcases hrow with hm | ⟨_, _, e, _⟩
      · exact hm
      · cases e
    subst hm
    obtain rfl := hnil rfl
    refine ⟨v, w, run_append_owned_none w base _ ty _ i 1 Try.underlying24 hi v _ _ h, by simpa using h, gb_refl _ _, .inl rfl⟩
  · have hnews : ∀ j u, (cells8 m)[j]? = some u → w.cell? (ad.add j) = some u := by
      intro j u hj
      have hjl : j < m.length := by
        have := (List.getElem?_eq_some_iff.1 hj).1
        rwa [cells8_length] at this
      have hm : m ≠ [] := by intro e; subst e; simp at hjl
      obtain ⟨b, o, e, hc⟩ := hrow.resolve_left hm
      cases e
      have e2 : (⟨b, o, none⟩ : Addr).add j = ⟨b, o + j, none⟩ := by unfold Addr.add; split <;> simp_all
      rw [e2, hc j hjl]
      simp [cells8, hjl] at hj
      rw [hj]
    have h1 : ∀ u ∈ cells8 m, u.oneCell' = true := by
      intro u hu
      simp only [cells8, List.mem_map] at hu
      obtain ⟨x, _, rfl⟩ := hu
      rfl
    have hl : (cells8 m).length = m.length * 1 := by rw [cells8_length]; omega
    obtain ⟨v', w', hr, ho, hg, hiff⟩ := run_append_own (P := Try.prog) w base _ ty _ i _ 1 1 Try.underlying24 hi hz0 hz1 hz2 rfl (by omega) v _ _ h ad m.length c (cells8 m) hl hnews h1 (by unfold maxLen; omega) (by omega) hbase
    refine ⟨v', w', hr, ?_, hg, ?_⟩
    · unfold O8
      rw [List.length_append, cells8_append]
      exact ho
    · rcases h.2 with ⟨rfl, h0⟩ | ⟨g, cap, cur, rfl, hb, hgg, hn, hcm, hs, ht⟩
      · rcases Nat.eq_zero_or_pos m.length with hm0 | hm0
        · rcases ho.2 with ⟨e, _⟩ | ⟨g, cap, cur, e, hb, hgg, hn, hcm, hs, ht⟩
          · left; rw [e]
          · right
            subst e
            refine ⟨g, rfl, ?_⟩
            rcases Nat.lt_or_ge g w.heap.size with hlt | hge
            · exfalso
              have := hiff.2 ⟨rfl, hm0⟩
              cases this
            · exact hge
        · have hr2 := run_append_nil (P := Try.prog) w 24 ty _ i _ Try.underlying24 hi hz0 ad m.length c (cells8 m) (by rw [hz1]; exact hl) hnews hm0 (by omega) (by rw [hz2]; omega)
          rw [hr] at hr2
          injection hr2 with e1 _
          right
          exact ⟨w.heap.size, by rw [e1]; rfl, Nat.le_refl _⟩
      · by_cases hroom : l.length + m.length ≤ cap
        · have hr2 := run_append_room (P := Try.prog) w 24 ty _ i Try.underlying24 hi g l.length cap cur hgg ad m.length c (cells8 m) (by rw [hz1]; exact hl) hnews h1 hroom (by rw [hz1, hs, hl]; omega)
          rw [hr] at hr2
          injection hr2 with e1 _
          left
          rw [e1]; rfl
        · have holds : ∀ j u, (cells8 l)[j]? = some u → w.cell? ((⟨g, 0, none⟩ : Addr).add j) = some u := World.ownsRow.cells h (g := g) rfl
          have hr2 := run_append_grow (P := Try.prog) w 24 ty _ i _ Try.underlying24 hi hz0 ⟨g, 0, none⟩ l.length cap (cells8 l) (by rw [hz1, cells8_length]; omega) holds ad m.length c (cells8 m) (by rw [hz1]; exact hl) hnews (by omega) (by omega) (growslice_fits (by omega) (by rw [hz2]; omega))
          rw [hr] at hr2
          injection hr2 with e1 _
          right
          exact ⟨w.heap.size, by rw [e1]; rfl, Nat.le_refl _⟩

theorem wpList_app8 {w : World} {ops : Array Oper} {rest : List Oper} {o : Oper} {a : Act} {Q : Exit → Act → World → Prop} (hgd : o.guard = none) (s x : Operand)
    (ho : o.op = .call { callee := .builtin .append, args := #[s, x], argTypes := #[24, 24] })
    (base : Nat) (v : Value) (l : List UInt8) (hs : a.eval s = v) (h : O8 w base v l) (ad : Option Addr) (m : List UInt8) (c : Nat) (hx : a.eval x = .slice ad m.length c) (hrow : Row8 w ad m) (hnil : ad = none → c = 0)
    (hlen : l.length + m.length ≤ 70368744177664) (hbase : base ≤ w.heap.size)
    (hk : ∀ v' w', O8 w' base v' (l ++ m) → w.grownBy w' v.ownBlock → Grew w v v' → wpList Try.prog ops Q rest (a.put o.dst v') w') : wpList Try.prog ops Q (o :: rest) a w := by
  obtain ⟨v', w', hr, h2, h3, h4⟩ := run_app8 h o.type ad m c hrow hnil hlen hbase
  refine wpList_plain hgd fun K hK => ?_
  unfold Oper.wp execOp
  simp only [ho, resolve, invoke, builtin, Sem.run_bind, Sem.run_pure, Result.andThen_ok, List.map_toArray, List.map_cons, List.map_nil, hs, hx, hr]
  exact hK _ _ (hk v' w' h2 h3 h4)

/-- One new byte. -/
theorem row_one (w : World) (c : UInt8) (t : TypeId) : Row8 (w.alloc (.cells #[.int .u8 (c.toNat : Int)] t)) (some ⟨w.heap.size, 0, none⟩) [c] := by
  refine .inr ⟨_, _, rfl, fun i hi => ?_⟩
  have : i = 0 := by simpa using hi
  subst this
  simp

theorem own_one (w : World) (c : UInt8) (base : Nat) (hb : base ≤ w.heap.size) : O8 (w.alloc (.cells #[.int .u8 (c.toNat : Int)] 5)) base (.slice (some ⟨w.heap.size, 0, none⟩) 1 1) [c] := by
  refine ⟨rfl, .inr ⟨w.heap.size, 1, #[.int .u8 (c.toNat : Int)], rfl, hb, ?_, Nat.le_refl _, by unfold maxLen; omega, rfl, rfl⟩⟩
  show (w.heap.push _)[w.heap.size]? = _
  simp

end Go.Proofs.Ytfmlenhakejefaa.V
