/-
  slices.Reverse of the end of a row of nodes with depths.
-/
import Derived.Test.YtkcbekebleodaaaGreatMWTree
import Derived.Test.YtkcbekebleodaaaGreatRevLay

section
namespace Go.Proofs.YtkcbekebleodaaaGreat.Un
set_option linter.unusedVariables false
open Go.RowKit V Go.Sort Go.Shelf D Nd Qs Wk

abbrev EA : TypeId := 161
def encA (x : At) : List Value := [.int .i64 (x.1 : Int), .int .i64 x.2.1.1, .int .i64 x.2.1.2, .int .i64 x.2.2.1.1, .int .i64 x.2.2.1.2, .int .i64 x.2.2.2.1, .int .i32 x.2.2.2.2]
instance : Inhabited At := ⟨(0, zeroN)⟩
theorem enc_nca (x : At) (j : Nat) (hj : j < 7) : (nca x)[j]? = (encA x)[j]? := by
  match j, hj with
  | 0, _ => rfl
  | 1, _ => rfl
  | 2, _ => rfl
  | 3, _ => rfl
  | 4, _ => rfl
  | 5, _ => rfl
  | 6, _ => rfl
theorem enc_at (x : At) (j : Nat) (hj : j < 7) : (encA x)[j]? = some (encA x)[j]! := by
  rw [List.getElem?_eq_getElem (by simp [encA]; omega), getElem!_pos (encA x) j (by simp [encA]; omega)]
/-- A row of the call's own, by its cells. -/
theorem own_mk {w : World} {base g n cap : Nat} {l : List At} {cur : Array Value} (hb : base ≤ g) (hg : w.heap[g]? = some (.cells cur EA (0, 0))) (hn : n = l.length) (hc : n ≤ cap) (hm : cap ≤ maxLen) (hs : cur.size = cap * 7) (h : ∀ i (hi : i < l.length) (j : Nat), j < 7 → cur[i * 7 + j]? = (nca l[i])[j]?) : OA w base EA (.slice (some ⟨g, 0, none⟩) n cap) l := by
  subst hn
  refine ⟨cellsA_length l, .inr ⟨g, cap, cur, rfl, hb, hg, hc, hm, hs, ?_⟩⟩
  refine List.ext_getElem? fun t => ?_
  have hcl := cellsA_length l
  by_cases ht : t < l.length * 7
  · rw [List.getElem?_take_of_lt ht, Array.getElem?_toList]
    have e : t / 7 * 7 + t % 7 = t := by omega
    have h1 := h (t / 7) (by omega) (t % 7) (by omega)
    have h2 := cellsA_at l (t / 7) (by omega) (t % 7) (by omega)
    rw [e] at h1 h2
    rw [h1, h2]
  · rw [List.getElem?_eq_none (by rw [List.length_take]; omega), List.getElem?_eq_none (by omega)]
theorem isAggA : ∀ w, (isAgg 161).run Tryz.prog w = .ok true w := Tryz.isAgg161
theorem sizeA : ∀ w, (Go.sizeOf 161).run Tryz.prog w = .ok 7 w := Tryz.sizeOf161
theorem holds_own {w : World} {base g n cap : Nat} {l : List At} (h : OA w base EA (.slice (some ⟨g, 0, none⟩) n cap) l) (k : Nat) (hk : k ≤ l.length) : HoldsK encA 7 w g (k * 7) (l.drop k).toArray := by
  intro j hj
  rw [size_flatK] at hj
  simp only [List.size_toArray, List.length_drop] at hj
  obtain rfl := h.r.2.1
  have c1 := World.ownsRow.cellAt h (k * 7 + j) (by omega)
  have c2 := World.ownsRow.frozenAt h (k * 7 + j)
  have e : k * 7 + j = (k + j / 7) * 7 + j % 7 := by omega
  have c3 := cellsA_at l (k + j / 7) (by omega) (j % 7) (by omega)
  rw [← e, ← c1, enc_nca _ _ (by omega), enc_at _ _ (by omega)] at c3
  refine ⟨?_, c2⟩
  rw [c3, get_flatK _ _ _ _ (by simp only [List.size_toArray, List.length_drop]; omega)]
  congr 2
  rw [getElem!_pos _ _ (by simp only [List.size_toArray, List.length_drop]; omega)]
  simp
theorem rev_own {w : World} {base g n cap : Nat} {l : List At} (h : OA w base EA (.slice (some ⟨g, 0, none⟩) n cap) l) (k q : Nat) (hk : k ≤ l.length) :
    OA (putRowK encA 7 (Sort.ahead w q) g (k * 7) (l.drop k).toArray.reverse) base EA (.slice (some ⟨g, 0, none⟩) n cap) (l.take k ++ (l.drop k).reverse) ∧ w.grownBy (putRowK encA 7 (Sort.ahead w q) g (k * 7) (l.drop k).toArray.reverse) (some g) := by
  have hH := holds_own h k hk
  obtain rfl := h.r.2.1
  have hrow := h.r.1
  have hx := h
  rcases h.2 with ⟨h1, -⟩ | ⟨g', cap', cur, h1, h2, h3, h4, h5, h6, h7⟩
  · cases h1
  · simp only [Value.slice.injEq, Option.some.injEq, Addr.mk.injEq, and_true, true_and] at h1
    obtain ⟨rfl, rfl⟩ := h1
    obtain ⟨W, hW⟩ : ∃ W, W = putRowK encA 7 (Sort.ahead w q) g (k * 7) (l.drop k).toArray.reverse := ⟨_, rfl⟩
    rw [← hW]
    have hHW : HoldsK encA 7 W g (k * 7) (l.drop k).toArray.reverse := by rw [hW]; exact holdsK_putRowK encA 7 _ g _ _ _ hH (by simp)
    obtain ⟨cur', hg', hs'⟩ : ∃ cur', W.heap[g]? = some (.cells cur' EA (0, 0)) ∧ cur'.size = cur.size := by
      rw [hW]
      unfold putRowK putRow mapBlock
      show ∃ cur', (w.heap.modify g _)[g]? = _ ∧ _
      rw [Array.getElem?_modify, if_pos rfl, h3]
      exact ⟨_, rfl, by simp [putCells]⟩
    have hcell : ∀ t, W.cell? ⟨g, t, none⟩ = cur'[t]? := fun t => by simp only [World.cell?, hg']; rfl
    refine ⟨own_mk h2 hg' (by simp; omega) h4 h5 (by rw [hs', h6]) fun i hi j hj => ?_, ?_⟩
    · rw [List.length_append, List.length_take, List.length_reverse, List.length_drop] at hi
      rw [← hcell]
      by_cases hik : i < k
      · have e1 : W.cell? ⟨g, i * 7 + j, none⟩ = w.cell? ⟨g, i * 7 + j, none⟩ := by
          rw [hW]
          unfold putRowK
          rw [cell?_putRow_other _ _ _ _ _ _ (.inr (.inl (by show i * 7 + j < k * 7; omega)))]
          rfl
        rw [e1, World.ownsRow.cellAt hx (i * 7 + j) (by omega), cellsA_at l i (by omega) j hj, List.getElem_append_left (by rw [List.length_take]; omega), List.getElem_take]
      · have hc := HoldsK.cell hHW (i := i - k) (c := j) (by simp; omega) hj
        have e2 : k * 7 + (i - k) * 7 + j = i * 7 + j := by omega
        rw [e2] at hc
        rw [hc.1, enc_nca _ _ hj, enc_at _ _ hj]
        congr 2
        rw [getElem!_pos _ _ (by simp; omega)]
        rw [List.getElem_append_right (by rw [List.length_take]; omega)]
        simp only [List.length_take, Nat.min_eq_left hk]
        simp
    · rw [hW]
      refine ⟨rfl, rfl, rfl, ?_, fun b hb hbg => ?_⟩
      · rw [putRowK, size_putRow]; exact Nat.le_refl _
      · unfold putRowK putRow mapBlock
        show (w.heap.modify g _)[b]? = _
        rw [Array.getElem?_modify, if_neg (fun e => hbg (by rw [e]))]
theorem rev_any {w : World} {base : Nat} {v : Value} {l : List At} (h : OA w base EA v l) (k : Nat) (hk : k ≤ l.length) (hl : l.length ≤ 1000000) (ad : Option Addr) (c : Nat) (had : k < l.length → ∃ g, v.ownBlock = some g ∧ ad = some ⟨g, k * 7, none⟩) (z : Nat) (hz : z = l.length - k) :
    Calls Tryz.prog 136 #[.slice ad z c] w fun e w' => e = .returned (.tuple #[]) ∧ OA w' base EA v (l.take k ++ (l.drop k).reverse) ∧ w.grownBy w' v.ownBlock := by
  subst hz
  rcases Nat.lt_or_ge k l.length with h1 | h1
  · obtain ⟨g, hg, rfl⟩ := had h1
    obtain ⟨a, cap, rfl, hr, h0, hc, hx⟩ := h.row
    have : a = some ⟨g, 0, none⟩ := by
      rcases a with _ | x
      · cases hg
      · have := (hx x rfl).1
        rw [this]
        cases hg
        rfl
    subst this
    have hcon := AnyQ.slices_Reverse Tryz.revA 7 isAggA sizeA encA (fun _ => rfl) (fun x v hv => by simp [encA] at hv; rcases hv with rfl | rfl | rfl | rfl | rfl | rfl | rfl <;> rfl) g (k * 7) c (l.drop k).toArray w (holds_own h k hk) (by simp; omega)
    change Calls Tryz.prog 136 _ _ _ at hcon
    rw [List.size_toArray, List.length_drop] at hcon
    refine hcon.mono ?_
    rintro e w' ⟨rfl, q, rfl⟩
    exact ⟨rfl, rev_own h k q hk⟩
  · have e : l.length - k = 0 := by omega
    rw [e]
    have hcon := AnyQ.slices_Reverse_empty Tryz.revA ad c w
    change Calls Tryz.prog 136 _ _ _ at hcon
    refine hcon.mono ?_
    rintro e w' ⟨rfl, rfl⟩
    refine ⟨rfl, ?_, gb_refl _ _⟩
    rw [List.take_of_length_le h1, List.drop_eq_nil_of_le h1]
    simpa using h
end Go.Proofs.YtkcbekebleodaaaGreat.Un
end

/-
  What holds between the rounds of ranges: boxes, rows of nodes with depths, the tree; how functions that range return.
-/
section
namespace Go.Proofs.YtkcbekebleodaaaGreat.Un
set_option linter.unusedVariables false
open Go.RowKit V Go.Shelf D Nd Qs Wk
attribute [local go_sem] Oper.semAt_some

/-- A box, wholly. -/
def Bx (w : World) (b : Nat) (v : Value) (t : TypeId) : Prop := w.heap[b]? = some (.cells #[v] t (0, 0))
section
variable {w w' : World} {b : Nat} {v : Value} {t : TypeId}
theorem Bx.lt (h : Bx w b v t) : b < w.heap.size := (Array.getElem?_eq_some_iff.1 h).1
theorem Bx.cell (h : Bx w b v t) : w.cell? ⟨b, 0, none⟩ = some v := by unfold Bx at h; simp only [World.cell?, h]; rfl
theorem Bx.free (h : Bx w b v t) : w.frozen? ⟨b, 0, none⟩ = false := by unfold Bx at h; simp [World.frozen?, h]
theorem Bx.keep (h : Bx w b v t) (hb : Below w.heap.size w w') : Bx w' b v t := (hb.block b h.lt).trans h
theorem Bx.gb {g : Option Nat} (h : Bx w b v t) (hg : w.grownBy w' g) (hne : some b ≠ g) : Bx w' b v t := (hg.block b h.lt hne).trans h
theorem Bx.set (h : Bx w b v t) (u : Value) : Bx (w.setCell ⟨b, 0, none⟩ u) b u t := by
  unfold Bx at *
  simp [World.setCell, Array.getElem?_modify, h]
theorem bx_new (w : World) (v : Value) (t : TypeId) : Bx (w.alloc (.cells #[v] t)) w.heap.size v t := heap_new w _
theorem Bx.abF {tys : List TypeId} {B : Nat} (ht : t ∉ tys) : AbF tys B (fun A => Bx A b v t) := AbF.block ht
end
/-- A box with a dot, wholly. -/
def Bd (w : World) (b : Nat) (d : Dt) : Prop := w.heap[b]? = some (.cells #[.int .i64 d.1, .int .i64 d.2] 25 (0, 0))
theorem Bd.lt {w : World} {b : Nat} {d : Dt} (h : Bd w b d) : b < w.heap.size := (Array.getElem?_eq_some_iff.1 h).1
theorem Bd.c0 {w : World} {b : Nat} {d : Dt} (h : Bd w b d) : w.cell? ⟨b, 0, none⟩ = some (.int .i64 d.1) := by unfold Bd at h; simp only [World.cell?, h]; rfl
theorem Bd.c1 {w : World} {b : Nat} {d : Dt} (h : Bd w b d) : w.cell? ⟨b, 1, none⟩ = some (.int .i64 d.2) := by unfold Bd at h; simp only [World.cell?, h]; rfl
theorem Bd.keep {w w' : World} {b : Nat} {d : Dt} (h : Bd w b d) (hb : Below w.heap.size w w') : Bd w' b d := (hb.block b h.lt).trans h
theorem bd_new (w : World) (d : Dt) : Bd (w.alloc (.cells #[.int .i64 d.1, .int .i64 d.2] 25)) w.heap.size d := heap_new w _
theorem Bd.abF {tys : List TypeId} {B b : Nat} {d : Dt} (ht : 25 ∉ tys) : AbF tys B (fun A => Bd A b d) := AbF.block ht
section
variable {w w1 w2 : World} {g : Nat} {row : Option Nat}
theorem bel_none (hg : w.grownBy w1 none) : Below w.heap.size w w1 := ⟨hg.os, hg.tape, hg.output, hg.size, fun b hb => hg.block b hb (by simp)⟩
/-- What turns further on lies beyond all that was. -/
theorem gb_low {r : Option Nat} (h : w.grownBy w1 r) (k : w1.grownBy w2 row) (hr : ∀ x, row = some x → w.heap.size ≤ x) : w.grownBy w2 r :=
  ⟨k.os.trans h.os, k.tape.trans h.tape, k.output.trans h.output, Nat.le_trans h.size k.size, fun b hb hn => (k.block b (Nat.lt_of_lt_of_le hb h.size) fun e => by have := hr b e.symm; omega).trans (h.block b hb hn)⟩
/-- What turns further on is the same, or lies beyond all that was. -/
theorem gb_more {r : Option Nat} (h : w.grownBy w1 r) (k : w1.grownBy w2 row) (hr : row = r ∨ ∀ x, row = some x → w.heap.size ≤ x) : w.grownBy w2 r :=
  ⟨k.os.trans h.os, k.tape.trans h.tape, k.output.trans h.output, Nat.le_trans h.size k.size, fun b hb hn => (k.block b (Nat.lt_of_lt_of_le hb h.size) fun e => by
    rcases hr with rfl | hr
    · exact hn e
    · have := hr b e.symm; omega).trans (h.block b hb hn)⟩
theorem bel_low (h : Below w.heap.size w w1) (k : w1.grownBy w2 row) (hr : ∀ x, row = some x → w.heap.size ≤ x) : Below w.heap.size w w2 := bel_none (gb_low (gb_below h none) k hr)
end
theorem grown_abF {tys : List TypeId} {w : World} {r : Option Nat} {B : Nat} (hB : w.heap.size ≤ B) : AbF tys B (fun A => w.grownBy A r) := fun A A' row ha hg hr => gb_low ha hg fun x e => Nat.le_trans hB (hr x e).1
theorem below_abF {tys : List TypeId} {w : World} {B : Nat} (hB : w.heap.size ≤ B) : AbF tys B (fun A => Below w.heap.size w A) := fun A A' row ha hg hr => bel_low ha hg fun x e => Nat.le_trans hB (hr x e).1
/-- Rows of a call's own, of another kind, stay. -/
theorem own_abF {tys : List TypeId} {B base size n : Nat} {E : TypeId} {v : Value} {xs : List Value} (ht : E ∉ tys) : AbF tys B (fun A => A.ownsRow base E size v n xs) := fun A A' row ha hg hr => World.ownsRow.kept ha hg (by
  rcases ha.2 with ⟨rfl, -⟩ | ⟨g, cap, cur, rfl, hb, hgg, -⟩
  · exact .inl rfl
  · refine .inr fun e => ?_
    obtain ⟨_, o, h1, h2⟩ := hr g e.symm
    rw [hgg] at h1
    cases h1
    rcases h2 with h2 | ⟨vs, t, fr, h3, h4⟩
    · cases h2
    · cases h3; exact ht h4)
theorem tree_abF {tys : List TypeId} {B : Nat} {T : Tr} (ht : 156 ∉ tys) : AbF tys B (fun A => T.In A) := fun A A' row ha hg hr => by
  rcases row with _ | r
  · exact ha.keep (bel_none hg)
  · obtain ⟨_, o, h1, h2⟩ := hr r rfl
    refine ha.turn hg h1 fun vs t fr e => ?_
    subst e
    rcases h2 with h2 | ⟨vs', t', fr', h3, h4⟩
    · cases h2
    · cases h3; exact fun e => ht (by rw [← e]; exact h4)
/-- The tree of a store stays, but where its map's block turns. -/
theorem Fo.turn {w w' : World} {m : Nat} {l : List Nt} {row : Option Nat} (h : Fo w m l) (hg : w.grownBy w' row) (hm : row ≠ some m) (ho : ∀ r, row = some r → ∃ o, w.heap[r]? = some o ∧ ∀ vs t fr, o = .cells vs t fr → t ≠ 148 ∧ t ≠ 156) : Fo w' m l := by
  obtain ⟨f, h1, h2⟩ := h
  refine ⟨f, h1.kept hg (fun e => hm e.symm), fun d hd => ?_⟩
  have := h2 d hd
  rcases hx : at? f d with _ | g
  · rw [hx] at this; exact this
  · rw [hx] at this
    rcases row with _ | r
    · exact Mp.keep this (bel_none hg)
    · obtain ⟨o, k1, k2⟩ := ho r rfl
      exact Mp.turn this hg k1 k2
theorem Fo.abF {tys : List TypeId} {B m : Nat} {l : List Nt} (hm : m < B) (h1 : 148 ∉ tys) (h2 : 156 ∉ tys) : AbF tys B (fun A => Fo A m l) := fun A A' row ha hg hr => by
  refine ha.turn hg (fun e => by have := (hr m e).1; omega) fun r e => ?_
  obtain ⟨_, o, k1, k2⟩ := hr r e
  refine ⟨o, k1, fun vs t fr e2 => ?_⟩
  subst e2
  rcases k2 with k2 | ⟨vs', t', fr', h3, h4⟩
  · cases k2
  · cases h3; exact ⟨fun e => h1 (by rw [← e]; exact h4), fun e => h2 (by rw [← e]; exact h4)⟩
theorem Fo.lt {w : World} {m : Nat} {l : List Nt} (h : Fo w m l) : m < w.heap.size := by
  obtain ⟨f, h1, -⟩ := h
  exact h1.lt
/-- A row of the call's own turns. -/
theorem Kp.own {ks : List TypeId} {C base size n : Nat} {E : TypeId} {A A' : World} {v : Value} {xs : List Value} (ho : A.ownsRow base E size v n xs) (hE : E ∉ ks) (hg : A.grownBy A' v.ownBlock) : Kp ks C A A' := by
  rcases ho.2 with ⟨rfl, -⟩ | ⟨g, cap, cur, rfl, hb, hgg, -⟩
  · exact Kp.bel (bel_none hg)
  · exact Kp.gb hg hgg hE
theorem wpListIn_appA {F : Fence} {n : Nat} {P : Program} {w : World} {ops : Array Oper} {rest : List Oper} {x : Oper} {a : Act} {Q : Exit → Act → World → Prop} (hgd : x.guard = none) (s y : Operand) (T : TypeId)
    (ho : x.op = .call { callee := .builtin .append, args := #[s, y], argTypes := #[T, T] })
    {base : Nat} {E : TypeId} (hT : P.underlying T = some (.slice E)) (hinfo : (P.info? E).map (fun i => (i.zero, i.size, i.bytes)) = some (some zeroAv, 7, 56))
    (v : Value) (l : List At) (hs : a.eval s = v) (h : OA w base E v l) (ad : Option Addr) (m : List At) (c n' : Nat) (hn : n' = m.length) (hx : a.eval y = .slice ad n' c) (hrow : RowA w ad m) (hnil : ad = none → c = 0)
    (hlen : l.length + m.length ≤ 1000000000000) (hbase : base ≤ w.heap.size)
    (hk : ∀ v' w', OA w' base E v' (l ++ m) → w.grownBy w' v.ownBlock → G.Grew w v v' → wpListIn F n P ops Q rest (a.put x.dst v') w') : wpListIn F n P ops Q (x :: rest) a w := by
  subst hn
  obtain ⟨v', w', hr, h2, h3, h4⟩ := run_appA hT hinfo h x.type ad m c hrow hnil hlen hbase
  refine wpListIn_plain hgd fun K hK => ?_
  unfold Oper.wpIn
  refine ⟨by simp [Oper.about, ho, resolve, Target.leads, Sem.run_pure], ?_⟩
  rw [Oper.semAt_plain F _ _ (by rw [ho]; intro c hc'; cases hc')]
  simp [execOp, ho, resolve, invoke, builtin, hs, hx, hr, Result.andThen]
  exact hK _ _ (hk v' w' h2 h3 h4)
theorem infoA : (Tryz.prog.info? EA).map (fun i => (i.zero, i.size, i.bytes)) = some (some zeroAv, 7, 56) := by kernel_rfl
section
variable {F : Fence} {n : Nat} {P : Program} {fn : Func} {R : Ending → World → Prop} {a : Act} {w : World} {v : Value}
theorem retM (hr : (results fn a.tmps).run P w = .ok v w) (hd : a.defers = []) (hR : R (.returned v) w) : bodyPostM F n P fn R .ret a w := by
  show LeavesInM F n P fn a.tmps R a.defers .returning w
  rw [hd]
  exact ⟨v, hr, hR⟩
theorem retM1 {D : Nat} (hd : a.defers = [{ target := .collected D, args := #[] }]) (hK : w.heap[D]? = some (.deferred (some []))) (hr : (results fn a.tmps).run P (w.putObj D (.deferred none)) = .ok v (w.putObj D (.deferred none))) (hR : R (.returned v) (w.putObj D (.deferred none))) :
    bodyPostM F n P fn R .ret a w := by
  show LeavesInM F n P fn a.tmps R a.defers .returning w
  rw [hd]
  exact ⟨by simp, .inl ⟨_, _, rfl, run_takeDeferred hK, ⟨v, hr, hR⟩⟩⟩
end
end Go.Proofs.YtkcbekebleodaaaGreat.Un
end

/-
  before: the children of a dot are laid behind what is still to come.
-/
section
namespace Go.Proofs.YtkcbekebleodaaaGreat.Un
set_option linter.unusedVariables false
open Go.RowKit V Go.Shelf D Nd Qs Wk
attribute [local go_sem] Oper.semAt_some

abbrev TS : TypeId := 158
abbrev TI : TypeId := 3
/-- The boxes of before: the list, the dot, the depth. -/
structure Bb (w : World) (G : Nat) (v : Value) (d : Dt) (k : Nat) : Prop where
  b0 : Bx w G v TS
  b1 : Bd w (G + 1) d
  b2 : Bx w (G + 1 + 1) (.int .i64 (k : Int)) TI
abbrev boxes (w : World) (v : Value) (d : Dt) (k : Nat) : World := ((w.alloc (.cells #[v] 158)).alloc (.cells #[.int .i64 d.1, .int .i64 d.2] 25)).alloc (.cells #[.int .i64 (k : Int)] 3)
theorem bb_new (w : World) (v : Value) (d : Dt) (k : Nat) : Bb (boxes w v d k) w.heap.size v d k ∧ Below w.heap.size w (boxes w v d k) ∧ (boxes w v d k).heap.size = w.heap.size + 1 + 1 + 1 := by
  have h1 : (w.alloc (.cells #[v] 158)).heap.size = w.heap.size + 1 := by simp
  have h2 : ((w.alloc (.cells #[v] 158)).alloc (.cells #[.int .i64 d.1, .int .i64 d.2] 25)).heap.size = w.heap.size + 1 + 1 := by simp
  have k1 := bd_new (w.alloc (.cells #[v] 158)) d
  rw [h1] at k1
  have k2 := bx_new ((w.alloc (.cells #[v] 158)).alloc (.cells #[.int .i64 d.1, .int .i64 d.2] 25)) (.int .i64 (k : Int)) 3
  rw [h2] at k2
  exact ⟨⟨((bx_new w v _).keep (bel_box _ _)).keep (bel_box _ _), k1.keep (bel_box _ _), k2⟩, ((bel_box _ _).alloc (by simp) _).alloc (by simp; omega) _, by simp⟩
/-- While the children come. -/
structure Jb (w : World) (base k : Nat) (T : Tr) (v : Value) (st : List At) (pre : List Nt) (A : World) : Prop where
  gw : w.grownBy A v.ownBlock
  tr : T.In A
  bk : Bx A (w.heap.size + 1 + 1) (.int .i64 (k : Int)) TI
  row : ∃ v1, Bx A w.heap.size v1 TS ∧ OA A base EA v1 (st ++ pre.map fun x => (k, x)) ∧ (v1.ownBlock = v.ownBlock ∨ ∀ x, v1.ownBlock = some x → w.heap.size ≤ x)
theorem Jb.abF {w : World} {base k B : Nat} {T : Tr} {v : Value} {st : List At} {pre : List Nt} (hB : w.heap.size ≤ B) : AbF [] B (Jb w base k T v st pre) := fun A A' row ha hg hr => by
  obtain ⟨v1, h1, h2, h3⟩ := ha.row
  exact ⟨grown_abF hB A A' row ha.gw hg hr, tree_abF (by simp) A A' row ha.tr hg hr, Bx.abF (by simp) A A' row ha.bk hg hr, v1, Bx.abF (by simp) A A' row h1 hg hr, own_abF (by simp) A A' row h2 hg hr, h3⟩
theorem own_ne {A : World} {base b : Nat} {v u : Value} {l : List At} {t : TypeId} (h : OA A base EA v l) (hb : Bx A b u t) (ht : t ≠ EA) : some b ≠ v.ownBlock := fun e => by
  obtain ⟨vs, h1⟩ := h.obj b e.symm
  unfold Bx at hb
  rw [h1] at hb
  cases hb
  exact ht rfl
theorem Jb.step {w A A2 : World} {base k C : Nat} {T : Tr} {v v1 v2 : Value} {st : List At} {pre : List Nt} {x : Nt} {o : Obj} {m1 : List At} (h : Jb w base k T v st pre A) (h1 : Bx A w.heap.size v1 TS) (hm : m1 = st ++ pre.map fun x => (k, x)) (h2 : OA A base EA v1 m1) (h3 : v1.ownBlock = v.ownBlock ∨ ∀ x, v1.ownBlock = some x → w.heap.size ≤ x)
    (hg : (A.alloc o).grownBy A2 v1.ownBlock) {m2 : List At} (hm2 : m2 = m1 ++ [(k, x)]) (ho : OA A2 base EA v2 m2) (hgr : G.Grew (A.alloc o) v1 v2) :
    Jb w base k T v st (pre ++ [x]) (A2.setCell ⟨w.heap.size, 0, none⟩ v2) ∧ Kp tyF C A (A2.setCell ⟨w.heap.size, 0, none⟩ v2) ∧ Bx A2 w.heap.size v1 TS := by
  subst hm2
  have hba := bel_box A o
  have h1a := h1.keep hba
  have h2a : OA (A.alloc o) base EA v1 m1 := h2.below hba
  have e1 : st ++ (pre ++ [x]).map (fun x => (k, x)) = m1 ++ [(k, x)] := by rw [hm]; simp
  have hne := own_ne h2a h1a (by decide)
  have hx : Bx A2 w.heap.size v1 TS := h1a.gb hg hne
  have hk := own_ne h2a (h.bk.keep hba) (by decide)
  have hbk : Bx A2 (w.heap.size + 1 + 1) (.int .i64 (k : Int)) TI := (h.bk.keep hba).gb hg hk
  have hs := gb_setCell A2 w.heap.size 0 v2
  have hne2 := own_ne ho hx (by decide)
  have htr : T.In A2 := by
    have h0 := h.tr.keep hba
    rcases hv : v1.ownBlock with _ | r
    · rw [hv] at hg; exact h0.keep (bel_none hg)
    · rw [hv] at hg
      obtain ⟨vs, hr⟩ := h2a.obj r hv
      exact h0.turn hg hr fun vs t fr e => by cases e; decide
  have hle := h.gw.size
  have ho2 : OA (A2.setCell ⟨w.heap.size, 0, none⟩ v2) base EA v2 (m1 ++ [(k, x)]) := OA.keep ho hs (by
    rcases hv : v2.ownBlock with _ | y
    · exact .inl rfl
    · rw [hv] at hne2; exact .inr fun e => hne2 e.symm)
  refine ⟨⟨?_, htr.turn hs hx fun vs t fr e => by cases e; decide, hbk.gb hs (by simp; omega), v2, hx.set v2, by rw [e1]; exact ho2, ?_⟩, ((Kp.bel hba).trans (Kp.own h2a (by decide) hg)).trans (Kp.gb hs hx (by decide)), hx⟩
  · refine gb_low (gb_more (gb_low h.gw (gb_below hba none) (fun x e => by cases e)) hg ?_) hs (fun x e => by cases e; exact Nat.le_refl _)
    rcases h3 with h3 | h3
    · exact .inl h3
    · exact .inr h3
  · rcases hgr with e | e
    · rw [e]; exact h3
    · right
      intro y hy
      rw [e] at hy
      cases hy
      have := hba.size
      omega

set_option maxRecDepth 100000 in
set_option maxHeartbeats 4000000 in
theorem before_any (l : List Nt) (hv : validS l = true) (m : Nat) (st : List At) (v : Value) (d : Dt) (k : Nat) (base : Nat) (w : World) (hF : Fo w m l) (h : OA w base EA v st) (hd : fitD d) (hb : base ≤ w.heap.size) (hl : st.length + l.length ≤ 900000) (hk : k ≤ 1000000) :
    Calls Tryz.prog 118 #[.map (some m), v, dv d, .int .i64 (k : Int)] w fun e w' => ∃ v', e = .returned v' ∧ OA w' base EA v' (st ++ (kidsS l d k).reverse) ∧ w.grownBy w' v.ownBlock ∧ (v'.ownBlock = v.ownBlock ∨ ∀ x, v'.ownBlock = some x → w.heap.size ≤ x) := by
  obtain ⟨b0, b1, b2⟩ := bb_new w v d k
  have HN := Lib.hid b0
  have HB := Lib.hid b1
  have HSz := Lib.hid b2
  obtain ⟨f, hf1, hf2⟩ := hF.keep b1
  have hlk := Dm.lookT hf1 hd
  have HA := Lib.hid (All_any (at? f d) (childS l d) _ (hf2 d hd))
  have HO : Hid (OA (boxes w v d k) base EA v st) := h.keep (gb_below b1 none) (by rcases v.ownBlock with _ | x <;> simp)
  have HH := Lib.hid h
  obtain ⟨a, c, rfl, -, -, hc, -⟩ := h.row
  have HCl := Lib.hid (child_len l d)
  have HL := Lib.hid hl
  have hki : (k : Int) ≤ 1000000 := by omega
  have c1 := b0.b0.cell
  have c2 := b0.b1.c0
  have c3 := b0.b1.c1
  have hst : (st.length : Int) ≤ 900000 := by omega
  clear b0 b1 b2 hF h hf1 hf2 hv hl hk
  generalize at? f d = ga at *
  refine (callsIn_wide (n := 3)).1 ?_
  refine callsIn_of_wp_marks Tryz.func118 rfl trivial ?_ rfl
  simp only [Tryz.ntmps118, List.size_toArray, List.length_cons, List.length_nil, Nat.reduceAdd, Nat.reduceSub, Array.replicate_succ, Array.replicate_zero, List.push_toArray, List.append_toArray, List.nil_append, List.cons_append]
  gi_wp2
  have HA2 := Lib.hid ((callsIn_wide (n := 2)).2 HA.out)
  generalize boxes w (.slice a st.length c) d k = w1 at *
  clear HA hlk
  refine ⟨trivial, HA2.out.mono ?_⟩
  rintro e w2 ⟨q1, q2, T, rfl, hT, hL, hb2, hseq⟩
  have HJ0 : Hid (Jb w base k T (.slice a st.length c) st [] w2) := ⟨gb_below (bel_tr HB.out hb2) _, hT, HN.out.b2.keep hb2, _, HN.out.b0.keep hb2, by rw [List.map_nil, List.append_nil]; exact HO.out.below hb2, .inl rfl⟩
  have HSQ := Lib.hid hseq
  have HW := Lib.hid (bel_tr HB.out hb2).size
  clear hT hL hb2 hseq HA2 c1 c2 c3
  gi_wp2
  refine range_own (by decide) rfl enters_from rfl (childS l d) (fun A => T.In A) HSQ.out (fun _ => rfl) (fun pre A => Jb w base k T (.slice a st.length c) st pre A) (fun c A => False)
    (fun pre => Jb.abF HW.out) (fun c => AbF.const _) (fun pre A h => h.tr) (fun c A h => h.elim) HJ0.out ?a1 (fun x A => A.alloc (.cells (nc x) 53)) (fun x b W => Nb W b x) (fun x W => ⟨bel_box _ _, Nb.new W x⟩) nb_row ?assign ?body ?done ?stop
  case assign =>
    intro l' y A K g hg hK
    gi_wp2
    rw [← hg]
    exact hK
  case body =>
    rintro l' pre y b A hj ⟨k0, k1, k2, k3, k4, k5⟩ hbl hpre
    obtain ⟨v1, h1, h2, h3⟩ := hj.row
    have hpl := hpre.length_le
    rw [List.length_append] at hpl
    have c0 := h1.cell
    have c2 := hj.bk.cell
    obtain ⟨a1, cc1, rfl, -, -, -, -⟩ := h2.row
    have HJ := Lib.hid hj
    have H1 := Lib.hid h1
    have H2 := Lib.hid h2
    have H3 := Lib.hid h3
    have HPL : Hid (pre.length + 1 ≤ (childS l d).length) := by show _ ≤ _; simpa using hpl
    obtain ⟨m1, hm1⟩ : ∃ m1, m1 = st ++ pre.map fun x => (k, x) := ⟨_, rfl⟩
    have HM := Lib.hid hm1
    have hml : Hid (m1.length ≤ 900000) := by have := HCl.out; have := HL.out; have := HPL.out; show _ ≤ _; rw [hm1, List.length_append, List.length_map]; omega
    rw [← hm1] at H2 c0 H1 H3
    obtain ⟨m2, hm2⟩ : ∃ m2, m2 = m1 ++ [(k, y)] := ⟨_, rfl⟩
    have HM2 := Lib.hid hm2
    clear hj h1 h2 h3 hpl hpre hm1 hm2
    gi_wp2_with (
      gi_at_builtin
      refine wpListIn_appA rfl _ _ _ rfl Tryz.underlying158 infoA _ _ rfl (H2.out.below (bel_box _ _)) (some ⟨A.heap.size, 0, none⟩) [(k, y)] 1 1 rfl rfl (RowA.lit A [(k, y)] _ _ _ rfl) (fun h => by cases h) (by have := hml.out; simp only [List.length_cons, List.length_nil]; omega) (by have := HJ.out.gw.size; have := bel_box A; simp; omega) ?_
      intro v5 W5 ho5 hg5 hgr
      rw [← HM2.out] at ho5
      obtain ⟨g1, g2, g3⟩ := Jb.step (C := w2.heap.size) HJ.out H1.out HM.out H2.out H3.out hg5 HM2.out ho5 hgr
      obtain ⟨a5, c5, rfl, -, -, -, -⟩ := ho5.row
      have G1 := Lib.hid g1
      have G2 := Lib.hid g2
      have c3 := g3.cell
      have f3 := g3.free
      clear g1 g2 g3 c0 ho5 hg5 hgr H1 H2 HJ)
    exact ⟨G2.out, G1.out⟩
  case stop =>
    rintro D c A hD hf hK
    exact hf.elim
  case done =>
    rintro D A hD hj hK
    obtain ⟨v1, h1, h2, h3⟩ := hj.row
    obtain ⟨m1, hm1⟩ : ∃ m1, m1 = st ++ (childS l d).map fun x => (k, x) := ⟨_, rfl⟩
    rw [← hm1] at h2
    have hml : m1.length = st.length + (childS l d).length := by rw [hm1]; simp
    have hm2 : (m1.length : Int) ≤ 900000 := by have := HCl.out; have := HL.out; omega
    have hm3 : (st.length : Int) ≤ (m1.length : Int) := by omega
    obtain ⟨a1, cc1, rfl, -, -, hcc, -⟩ := h2.row
    have c0 := h1.cell
    have hcc2 : (m1.length : Int) ≤ (cc1 : Int) := by omega
    have HRv := Lib.hid (fun (ad : Option Addr) (c : Nat) had (z : Nat) hz => (callsIn_wide (n := 2)).2 (rev_any h2 st.length (by omega) (by omega) ad c had z hz))
    have HM := Lib.hid hm1
    have HML := Lib.hid hml
    have HJ := Lib.hid hj
    have H1 := Lib.hid h1
    have H2 := Lib.hid h2
    have H3 := Lib.hid h3
    have HKD := Lib.hid hK
    clear hj h1 h2 h3 hm1 hml hcc hK
    have HAD : Hid (st.length < m1.length → ∃ g, (Value.slice a1 m1.length cc1).ownBlock = some g ∧ Option.map (fun x => Addr.add x (st.length * 7)) a1 = some ⟨g, st.length * 7, none⟩) := fun hlt => by
      obtain ⟨a', c', e, hr, hn, -, hx⟩ := H2.out.row
      simp only [Value.slice.injEq] at e
      obtain ⟨rfl, -, rfl⟩ := e
      rcases a1 with _ | x
      · have := (hn rfl).2
        rw [this] at hlt
        cases hlt
      · obtain ⟨e1, e2, -⟩ := hx x rfl
        refine ⟨x.block, e2, ?_⟩
        rw [e1]
        simp [Addr.add]
        omega
    gi_wp2
    · obtain rfl : cc1 = st.length := by omega
      refine ⟨trivial, (HRv.out a1 0 (fun h => by omega) (m1.length - st.length) rfl).mono ?_⟩
      rintro e w5 ⟨rfl, ho, hg⟩
      have hx5 := H1.out.gb hg (own_ne H2.out H1.out (by decide))
      have c5 := hx5.cell
      have hk5 : w5.heap[D]? = some (.deferred (some [])) := (hg.block D (Array.getElem?_eq_some_iff.1 HKD.out).1 fun e => by
        obtain ⟨vs, hr⟩ := H2.out.obj D e.symm
        rw [HKD.out] at hr
        cases hr).trans HKD.out
      have HK5 := Lib.hid hk5
      have hgw : w.grownBy w5 (Value.slice a st.length c).ownBlock := gb_more HJ.out.gw hg (by
        rcases H3.out with h3 | h3
        · exact .inl h3
        · exact .inr h3)
      have HG5 := Lib.hid hgw
      have HO5 : Hid (OA w5 base EA (.slice a1 m1.length st.length) (st ++ (kidsS l d k).reverse)) := by
        have e1 : m1.take st.length ++ (m1.drop st.length).reverse = st ++ (kidsS l d k).reverse := by rw [HM.out, List.take_left, List.drop_left]; rfl
        rw [e1] at ho
        exact ho
      have HDl : Hid (w.heap.size ≤ D) := Nat.le_trans HW.out hD
      have F1 : Hid (OA (w5.putObj D (.deferred none)) base EA (.slice a1 m1.length st.length) (st ++ (kidsS l d k).reverse)) := (own_abF (tys := []) (B := 0) (by simp)).put _ HO5.out (Nat.zero_le _) HK5.out rfl
      have F2 : Hid (w.grownBy (w5.putObj D (.deferred none)) (Value.slice a st.length c).ownBlock) := (grown_abF (tys := []) (Nat.le_refl _)).put _ HG5.out HDl.out HK5.out rfl
      clear ho hg hx5 hk5 hgw HRv
      gi_wp2
      refine ⟨by simp, .inl ⟨_, _, rfl, run_takeDeferred HK5.out, ?_⟩⟩
      exact ⟨_, results_tmp rfl _ _ _, .slice a1 m1.length st.length, rfl, F1.out, F2.out, H3.out⟩
    · skip
      refine ⟨trivial, (HRv.out (Option.map (fun x => Addr.add x (st.length * 7)) a1) (cc1 - st.length) HAD.out (m1.length - st.length) rfl).mono ?_⟩
      rintro e w5 ⟨rfl, ho, hg⟩
      have hx5 := H1.out.gb hg (own_ne H2.out H1.out (by decide))
      have c5 := hx5.cell
      have hk5 : w5.heap[D]? = some (.deferred (some [])) := (hg.block D (Array.getElem?_eq_some_iff.1 HKD.out).1 fun e => by
        obtain ⟨vs, hr⟩ := H2.out.obj D e.symm
        rw [HKD.out] at hr
        cases hr).trans HKD.out
      have HK5 := Lib.hid hk5
      have hgw : w.grownBy w5 (Value.slice a st.length c).ownBlock := gb_more HJ.out.gw hg (by
        rcases H3.out with h3 | h3
        · exact .inl h3
        · exact .inr h3)
      have HG5 := Lib.hid hgw
      have HO5 : Hid (OA w5 base EA (.slice a1 m1.length cc1) (st ++ (kidsS l d k).reverse)) := by
        have e1 : m1.take st.length ++ (m1.drop st.length).reverse = st ++ (kidsS l d k).reverse := by rw [HM.out, List.take_left, List.drop_left]; rfl
        rw [e1] at ho
        exact ho
      have HDl : Hid (w.heap.size ≤ D) := Nat.le_trans HW.out hD
      have F1 : Hid (OA (w5.putObj D (.deferred none)) base EA (.slice a1 m1.length cc1) (st ++ (kidsS l d k).reverse)) := (own_abF (tys := []) (B := 0) (by simp)).put _ HO5.out (Nat.zero_le _) HK5.out rfl
      have F2 : Hid (w.grownBy (w5.putObj D (.deferred none)) (Value.slice a st.length c).ownBlock) := (grown_abF (tys := []) (Nat.le_refl _)).put _ HG5.out HDl.out HK5.out rfl
      clear ho hg hx5 hk5 hgw HRv
      gi_wp2
      refine ⟨by simp, .inl ⟨_, _, rfl, run_takeDeferred HK5.out, ?_⟩⟩
      exact ⟨_, results_tmp rfl _ _ _, .slice a1 m1.length cc1, rfl, F1.out, F2.out, H3.out⟩
end Go.Proofs.YtkcbekebleodaaaGreat.Un
end
