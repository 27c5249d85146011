/-
  Small laws that many texts share.
-/
import Derived.Test.YtfmlenhakejefaaVMem
import Derived.WalkSmall
import Derived.Laws.IdiomStrings
import Derived.Laws.RangeAny
import Derived.Laws.MakeOwn
import Derived.Laws.OwnMore
import Derived.Maps.AppendAt
import Derived.Test.YtfmlenhakejefaaDPure

section
namespace Go.Proofs.Ytfmlenhakejefaa.G
set_option linter.unusedVariables false
open Go.RowKit V

theorem ret1 {v v' : Value} (h : v = v') : Ending.returned v = Ending.returned v' := by rw [h]
theorem ret2 {v v' x x' : Value} (h : v = v') (hx : x = x') : Ending.returned (.tuple #[v, x]) = Ending.returned (.tuple #[v', x']) := by rw [h, hx]
theorem str_app (l m : List UInt8) : (⟨l.toArray⟩ ++ ⟨m.toArray⟩ : ByteArray) = ⟨(l ++ m).toArray⟩ := by
  apply ByteArray.ext
  simp

/-- What a conversion of a slice of bytes to a string gives. -/
theorem conv_row {P : Program} {w : World} {a : Option Addr} {l : List UInt8} (h : Row8 w a l) (n : Nat) (hn : n = l.length) (c : Nat) (src dst e : TypeId) (hs : P.underlying src = some (.slice e)) (he : P.underlying e = some (.int .u8)) (hd : P.underlying dst = some .string) :
    (convert src dst (.slice a n c)).run P w = .ok (.string ⟨l.toArray⟩) w := by
  subst hn
  by_cases hl : l = []
  · subst hl
    rcases a with _ | a
    · exact run_convert_bytes_nil w src e hs he _ _ dst hd
    · exact run_convert_bytes_back w src dst e a c [] hs he hd (fun j hj => by simp at hj)
  · obtain ⟨b, o, rfl, hc⟩ := h.resolve_left hl
    refine run_convert_bytes_back w src dst e ⟨b, o, none⟩ c l hs he hd (fun j hj => ?_)
    have := hc j hj
    rcases Nat.eq_zero_or_pos j with rfl | hj0
    · simpa [Addr.add] using this
    · simpa [Addr.add, Nat.ne_of_gt hj0] using this

/-- '[]byte(s)': a new row of the string's bytes. -/
theorem str_bytes {P : Program} (w : World) (src dst e : TypeId) (l : List UInt8) (hs : P.underlying src = some .string) (hd : P.underlying dst = some (.slice e)) (he : P.underlying e = some (.int .u8)) :
    ∃ g c w1, (convert src dst (.string ⟨l.toArray⟩)).run P w = .ok (.slice (some ⟨g, 0, none⟩) l.length c) w1 ∧ Row8 w1 (some ⟨g, 0, none⟩) l ∧ Below w.heap.size w w1 ∧ g = w.heap.size ∧ g < w1.heap.size := by
  refine ⟨w.heap.size, _, _, run_bytes_of_string w src dst e ⟨l.toArray⟩ hs hd he, ?_, ?_, rfl, ?_⟩
  · by_cases hl : l = []
    · exact .inl hl
    · refine .inr ⟨_, _, rfl, fun i hi => ?_⟩
      have h1 : ∀ (C : Array Value) (f : Nat × Nat), (w.drew.alloc (.cells C e f)).cell? ⟨w.heap.size, 0 + i, none⟩ = C[i]? := fun C f => by
        have : (w.drew.alloc (.cells C e f)).heap[w.heap.size]? = some (.cells C e f) := by
          show (w.heap.push (.cells C e f))[w.heap.size]? = _
          simp
        unfold World.cell?
        rw [show (⟨w.heap.size, 0 + i, none⟩ : Addr).block = w.heap.size from rfl, this]
        simp
      rw [h1]
      simp [bytesRow, Array.getElem?_append, hi]
  · exact ((Below.refl _ _).drew).alloc (Nat.le_refl _) _
  · show w.heap.size < (w.heap.push _).size
    simp

/-- A row of numbers of one kind. -/
def RowI (k : IntKind) (w : World) (a : Option Addr) (l : List Int) : Prop :=
  l = [] ∨ ∃ b o, a = some ⟨b, o, none⟩ ∧ ∀ i (h : i < l.length), w.cell? ⟨b, o + i, none⟩ = some (.int k l[i])
theorem RowI.keep {k : IntKind} {w w' : World} {a : Option Addr} {l : List Int} {B : Nat} (h : RowI k w a l) (hb : Below B w w') (hB : w.heap.size ≤ B) : RowI k w' a l := by
  rcases h with h | ⟨b, o, rfl, h⟩
  · exact .inl h
  · refine .inr ⟨b, o, rfl, fun i hi => ?_⟩
    have := h i hi
    rw [hb.cell (p := ⟨b, o + i, none⟩) (Nat.lt_of_lt_of_le (lt_of_cell this) hB)]
    exact this
theorem RowI.of_heap {k : IntKind} {w w' : World} {a : Option Addr} {l : List Int} (h : RowI k w a l) (hh : ∀ b, (∃ o, a = some ⟨b, o, none⟩) → b < w.heap.size → w'.heap[b]? = w.heap[b]?) : RowI k w' a l := by
  rcases h with h | ⟨b, o, rfl, h⟩
  · exact .inl h
  · refine .inr ⟨b, o, rfl, fun i hi => ?_⟩
    have h' := h i hi
    rw [World.cell?_of_block (w := w) (hh b ⟨o, rfl⟩ (lt_of_cell h'))]
    exact h'
theorem RowI.part {k : IntKind} {w : World} {b o : Nat} {l : List Int} (h : RowI k w (some ⟨b, o, none⟩) l) (i n : Nat) (hn : i + n ≤ l.length) : RowI k w (some ⟨b, o + i, none⟩) ((l.drop i).take n) := by
  rcases h with rfl | ⟨b', o', e, h⟩
  · exact .inl (by simp)
  · simp only [Option.some.injEq, Addr.mk.injEq] at e
    obtain ⟨rfl, rfl, _⟩ := e
    refine .inr ⟨b, o + i, rfl, fun j hj => ?_⟩
    have hj' : j < n := by
      rw [List.length_take, List.length_drop] at hj
      omega
    rw [Nat.add_assoc, h (i + j) (by omega)]
    simp
/-- A new row of numbers that are written out. -/
theorem RowI.lit (k : IntKind) (w : World) (g : Nat) (hg : g = w.heap.size) (l : List Int) (C : Array Value) (t : TypeId) (hC : C.toList = l.map (.int k)) : RowI k (w.alloc (.cells C t)) (some ⟨g, 0, none⟩) l := by
  subst hg
  by_cases hl : l = []
  · exact .inl hl
  refine .inr ⟨_, _, rfl, fun i hi => ?_⟩
  rw [Nat.zero_add, World.cell?_alloc_new w C t i]
  rw [← Array.getElem?_toList, hC]
  simp [hi]


/-! ### Rows of numbers that a call has made itself -/
def OI (w : World) (base : Nat) (E : TypeId) (k : IntKind) (v : Value) (l : List Int) : Prop := w.ownsRow base E 1 v l.length (l.map (.int k))
section
variable {w w' : World} {base : Nat} {E : TypeId} {k : IntKind} {v : Value} {l : List Int}
theorem OI.nil (w : World) (base : Nat) (E : TypeId) (k : IntKind) : OI w base E k (.slice none 0 0) [] := World.ownsRow_nil w base _ 1
theorem OI.row (h : OI w base E k v l) : ∃ a c, v = .slice a l.length c ∧ RowI k w a l ∧ (a = none → c = 0 ∧ l = []) := by
  rcases h.2 with ⟨rfl, h0⟩ | ⟨g, cap, cur, rfl, hb, hg, hn, hc, hs, ht⟩
  · have : l = [] := List.eq_nil_of_length_eq_zero h0
    subst this
    exact ⟨none, 0, rfl, .inl rfl, fun _ => ⟨rfl, rfl⟩⟩
  · refine ⟨some ⟨g, 0, none⟩, cap, rfl, ?_, fun h => by cases h⟩
    by_cases hl : l = []
    · exact .inl hl
    · refine .inr ⟨g, 0, rfl, fun i hi => ?_⟩
      have hcell := World.ownsRow.cellAt h i (by omega)
      rw [Nat.zero_add, hcell]
      simp [hi]
theorem OI.row2 (h : OI w base E k v l) : ∃ a c, v = .slice a l.length c ∧ RowI k w a l ∧ (a = none → c = 0 ∧ l = []) ∧ l.length ≤ c ∧ (∀ x, a = some x → x = ⟨x.block, 0, none⟩ ∧ base ≤ x.block ∧ x.block < w.heap.size) := by
  obtain ⟨a, c, rfl, hr, hn⟩ := h.row
  refine ⟨a, c, rfl, hr, hn, ?_, ?_⟩
  · rcases h.2 with ⟨e, h0⟩ | ⟨g, cap, cur, e, hb, hg, hnn, hc, hs, ht⟩
    · simp only [Value.slice.injEq] at e; omega
    · simp only [Value.slice.injEq] at e; omega
  · intro x hx
    rcases h.2 with ⟨e, h0⟩ | ⟨g, cap, cur, e, hb, hg, hnn, hc, hs, ht⟩
    · simp only [Value.slice.injEq] at e; rw [e.1] at hx; cases hx
    · simp only [Value.slice.injEq] at e; rw [e.1] at hx; cases hx; exact ⟨rfl, hb, (Array.getElem?_eq_some_iff.1 hg).1⟩
theorem OI.keep {row : Option Nat} (h : OI w base E k v l) (hg : w.grownBy w' row) (hne : v.ownBlock = none ∨ v.ownBlock ≠ row) : OI w' base E k v l := World.ownsRow.kept h hg hne
theorem OI.below (h : OI w base E k v l) (hb : Below w.heap.size w w') : OI w' base E k v l := h.keep (gb_below hb none) (by rcases v.ownBlock with _ | x <;> simp)
theorem OI.lt (h : OI w base E k v l) : ∀ x, v.ownBlock = some x → base ≤ x ∧ x < w.heap.size := World.ownsRow.lt h
theorem OI.mono {base' : Nat} (h : OI w base E k v l) (hb : base' ≤ base) : OI w base' E k v l := by
  refine ⟨h.1, ?_⟩
  rcases h.2 with hn | ⟨g, cap, cur, rfl, hbg, rest⟩
  · exact .inl hn
  · exact .inr ⟨g, cap, cur, rfl, Nat.le_trans hb hbg, rest⟩
end
/-- The row that an append leaves: the one that was there, or a new one. -/
def Grew (w : World) (v v' : Value) : Prop := v'.ownBlock = v.ownBlock ∨ v'.ownBlock = some w.heap.size

theorem info_of {P : Program} {E : TypeId} {z : Value} {S B : Nat} (h : (P.info? E).map (fun i => (i.zero, i.size, i.bytes)) = some (some z, S, B)) :
    ∃ i, P.info? E = some i ∧ i.zero = some z ∧ i.size = S ∧ i.bytes = B := by
  rcases hi : P.info? E with _ | i
  · rw [hi] at h; cases h
  · rw [hi] at h
    simp only [Option.map_some, Option.some.injEq, Prod.mk.injEq] at h
    exact ⟨i, rfl, h.1, h.2.1, h.2.2⟩

theorem rowI_news {k : IntKind} {w : World} {b o : Nat} {m : List Int} (h : RowI k w (some ⟨b, o, none⟩) m) : ∀ j u, (m.map (Value.int k))[j]? = some u → w.cell? ((⟨b, o, none⟩ : Addr).add j) = some u := by
  intro j u hj
  have hjl : j < m.length := by
    have := (List.getElem?_eq_some_iff.1 hj).1
    rwa [List.length_map] at this
  rcases h with rfl | ⟨b', o', e, hc⟩
  · simp at hjl
  · cases e
    have e2 : (⟨b, o, none⟩ : Addr).add j = ⟨b, o + j, none⟩ := by unfold Addr.add; split <;> simp_all
    rw [e2, hc j hjl]
    simp [hjl] at hj
    rw [hj]

/-- append of numbers to a row of the call's own. -/
theorem run_appI {P : Program} {w : World} {base : Nat} {T E : TypeId} {k : IntKind} {B : Nat} (hT : P.underlying T = some (.slice E)) (hinfo : (P.info? E).map (fun i => (i.zero, i.size, i.bytes)) = some (some (.int k 0), 1, B))
    {v : Value} {l : List Int} (h : OI w base E k v l) (ty : TypeId) (b o c : Nat) (m : List Int) (hrow : RowI k w (some ⟨b, o, none⟩) m)
    (hlen : l.length + m.length ≤ 8796093022208) (hB : B ≤ 16) (hbase : base ≤ w.heap.size) :
    ∃ v' w', (Builtin.append_ #[T, T] ty #[v, .slice (some ⟨b, o, none⟩) m.length c]).run P w = .ok v' w' ∧ OI w' base E k v' (l ++ m) ∧ w.grownBy w' v.ownBlock ∧ Grew w v v' := by
  obtain ⟨i, hi, hz0, hz1, hz2⟩ := info_of hinfo
  have hb : (l.length + m.length) * B ≤ 140737488355328 := by
    have := Nat.mul_le_mul hlen hB
    omega
  obtain ⟨v', w', hr, ho, hg, _, hgr⟩ := run_append_own_at (P := P) w base T ty E i (.int k 0) 1 B hT hi hz0 hz1 hz2 rfl (by omega) v _ _ h ⟨b, o, none⟩ m.length c (m.map (.int k)) (by simp) (rowI_news hrow)
    (by intro u hu; simp only [List.mem_map] at hu; obtain ⟨x, _, rfl⟩ := hu; rfl) (by unfold maxLen; omega) hb hbase
  refine ⟨v', w', hr, ?_, hg, hgr⟩
  unfold OI
  rw [List.length_append, List.map_append]
  exact ho
theorem wpList_appI {P : Program} {w : World} {ops : Array Oper} {rest : List Oper} {x : Oper} {a : Act} {Q : Exit → Act → World → Prop} (hgd : x.guard = none) (s y : Operand) (T : TypeId)
    (ho : x.op = .call { callee := .builtin .append, args := #[s, y], argTypes := #[T, T] })
    {base : Nat} {E : TypeId} {k : IntKind} {B : Nat} (hT : P.underlying T = some (.slice E)) (hinfo : (P.info? E).map (fun i => (i.zero, i.size, i.bytes)) = some (some (.int k 0), 1, B))
    (v : Value) (l : List Int) (hs : a.eval s = v) (h : OI w base E k v l) (b o c n : Nat) (m : List Int) (hn : n = m.length) (hx : a.eval y = .slice (some ⟨b, o, none⟩) n c) (hrow : RowI k w (some ⟨b, o, none⟩) m)
    (hlen : l.length + m.length ≤ 8796093022208) (hB : B ≤ 16) (hbase : base ≤ w.heap.size)
    (hk : ∀ v' w', OI w' base E k v' (l ++ m) → w.grownBy w' v.ownBlock → Grew w v v' → wpList P ops Q rest (a.put x.dst v') w') : wpList P ops Q (x :: rest) a w := by
  subst hn
  obtain ⟨v', w', hr, h2, h3, h4⟩ := run_appI hT hinfo h x.type b o c m hrow hlen hB hbase
  refine wpList_plain hgd fun K hK => ?_
  unfold Oper.wp execOp
  simp only [ho, resolve, invoke, builtin, Sem.run_bind, Sem.run_pure, Result.andThen_ok, List.map_toArray, List.map_cons, List.map_nil, hs, hx, hr]
  exact hK _ _ (hk v' w' h2 h3 h4)

/-- make of a row of numbers without elements. -/
theorem run_mkI {P : Program} (w : World) (base : Nat) {T E : TypeId} {k : IntKind} {B : Nat} (hT : P.underlying T = some (.slice E)) (hinfo : (P.info? E).map (fun i => (i.zero, i.size, i.bytes)) = some (some (.int k 0), 1, B))
    (c : Nat) (hc : c ≤ 8796093022208) (hB : B ≤ 16) (hbase : base ≤ w.heap.size) :
    ∃ w' v, (Instr.makeSlice T (.int .i64 0) (.int .i64 (c : Int))).run P w = .ok v w' ∧ OI w' base E k v [] ∧ Below w.heap.size w w' := by
  obtain ⟨i, hi, hz0, hz1, hz2⟩ := info_of hinfo
  have hb : i.bytes * c ≤ 281474976710656 := by
    rw [hz2]
    have := Nat.mul_le_mul hB hc
    omega
  obtain ⟨w', hr, ho, hg⟩ := run_make_own (P := P) w base T E i (.int k 0) 1 hT hi hz0 hz1 .i64 .i64 c hb (by unfold maxLen; omega) hbase
  exact ⟨w', _, hr, ho, (Below.refl _ _).grown hg (Nat.le_refl _) (fun k hk => by cases hk)⟩

/-- A part of a row of numbers. -/
theorem slice_int {P : Program} {T E : TypeId} {z : Value} {B : Nat} (hT : P.underlying T = some (.slice E)) (hinfo : (P.info? E).map (fun i => (i.zero, i.size, i.bytes)) = some (some z, 1, B))
    (a : Option Addr) (len cap m n : Nat) (hmn : m ≤ n) (hnl : n ≤ len) (hlc : len ≤ cap) :
    ∃ a', (∀ wx, (Instr.slice T (.slice a len cap) (some (.int .i64 (m : Int))) (some (.int .i64 (n : Int))) none).run P wx = .ok (.slice a' (n - m) (cap - m)) wx) ∧
      ∀ (k : IntKind) (w : World) (l : List Int), l.length = len → RowI k w a l → RowI k w a' ((l.drop m).take (n - m)) := by
  obtain ⟨i, hi, hz0, hz1, hz2⟩ := info_of hinfo
  refine ⟨if cap = m then a else a.map (·.add (m * 1)), ?_, ?_⟩
  · intro wx
    have h1 : (Instr.sliceBound (.int .i64 (n : Int)) cap .sliceAcap).run P wx = .ok n wx := by
      rw [run_sliceBound _ _ _ _ _ (by omega) (by omega)]; rfl
    have h2 : (Instr.sliceBound (.int .i64 (m : Int)) n .sliceB).run P wx = .ok m wx := by
      rw [run_sliceBound _ _ _ _ _ (by omega) (by omega)]; rfl
    simp [Instr.slice, run_underlying hT, Instr.sliceBounds, h1, h2, Result.andThen, sizeOf, typeInfo, hi, hz1]
  · intro k w l hl hr
    by_cases hcm : cap = m
    · rw [if_pos hcm]
      have : n - m = 0 := by omega
      rw [this]
      exact .inl (by simp)
    · rw [if_neg hcm]
      rcases hr with rfl | ⟨b, o, rfl, hc⟩
      · exact .inl (by simp)
      · have e : (⟨b, o, none⟩ : Addr).add (m * 1) = ⟨b, o + m, none⟩ := by unfold Addr.add; split <;> simp_all
        rw [Option.map_some, e]
        exact RowI.part (.inr ⟨b, o, rfl, hc⟩) m (n - m) (by omega)

/-! ### A range over a string -/
def setIter (w : World) (g : Nat) (s : ByteArray) (p : Nat) : World := { w with heap := w.heap.setIfInBounds g (.stringIter s p) }
theorem next_at {P : Program} (w : World) (g : Nat) (s : ByteArray) (pos : Nat) (hh : w.heap[g]? = some (.stringIter s pos)) (h : pos < s.size) : ∀ ty,
    (Instr.next (.pointer (some ⟨g, 0, none⟩)) true ty).run P w = .ok (.tuple #[.bool true, .int .i64 pos, .int .i32 (Utf8.decode s pos).1]) (setIter w g s (pos + (Utf8.decode s pos).2)) := by
  intro ty
  simp only [Instr.next, getObj, setObj, Sem.run_bind, Sem.run, hh, Result.andThen, h, if_true]
  simp [goInt, setIter]
theorem next_end {P : Program} (w : World) (g : Nat) (s : ByteArray) (pos : Nat) (hh : w.heap[g]? = some (.stringIter s pos)) (h : ¬ pos < s.size) : ∀ ty,
    (Instr.next (.pointer (some ⟨g, 0, none⟩)) true ty).run P w = .ok (.tuple #[.bool false]) w := by
  intro ty
  simp [Instr.next, getObj, Sem.run, hh, h]
theorem setIter_heap {w : World} {g : Nat} {s s' : ByteArray} {p q : Nat} (hh : w.heap[g]? = some (.stringIter s' q)) : (setIter w g s p).heap[g]? = some (.stringIter s p) := by
  have := (Array.getElem?_eq_some_iff.1 hh).1
  simp [setIter, this]
theorem setIter_grown (w : World) (g : Nat) (s : ByteArray) (p : Nat) : w.grownBy (setIter w g s p) (some g) :=
  ⟨rfl, rfl, rfl, by simp [setIter], fun k hk hne => by simp only [setIter]; rw [Array.getElem?_setIfInBounds_ne (fun e => hne (by rw [e]))]⟩
theorem setIter_size (w : World) (g : Nat) (s : ByteArray) (p : Nat) : (setIter w g s p).heap.size = w.heap.size := by simp [setIter]
theorem iterPos_of {w : World} {g : Nat} {s : ByteArray} {p : Nat} (h : w.heap[g]? = some (.stringIter s p)) : w.iterPos g = p := by simp [World.iterPos, h]

end Go.Proofs.Ytfmlenhakejefaa.G
end

/-
  Rows of records of two numbers: what a slice reads as, what a call has made itself, append, parts.
-/
section
namespace Go.Proofs.Ytfmlenhakejefaa.D
set_option linter.unusedVariables false
open Go.RowKit V

/-- The two cells of each dot, one behind the other. -/
def cellsD : List Dt → List Value
  | [] => []
  | d :: t => .int .i64 d.1 :: .int .i64 d.2 :: cellsD t
theorem cellsD_length : ∀ l : List Dt, (cellsD l).length = l.length * 2
  | [] => rfl
  | d :: t => by rw [cellsD, List.length_cons, List.length_cons, cellsD_length t, List.length_cons]; omega
theorem cellsD_append : ∀ l m : List Dt, cellsD (l ++ m) = cellsD l ++ cellsD m
  | [], m => rfl
  | d :: t, m => by rw [List.cons_append, cellsD, cellsD, cellsD_append t m]; rfl
theorem cellsD_at : ∀ (l : List Dt) (i : Nat) (h : i < l.length), (cellsD l)[i * 2]? = some (.int .i64 l[i].1) ∧ (cellsD l)[i * 2 + 1]? = some (.int .i64 l[i].2)
  | d :: t, 0, h => ⟨rfl, rfl⟩
  | d :: t, i + 1, h => by
    have := cellsD_at t i (by simpa using h)
    rw [show (i + 1) * 2 = i * 2 + 2 by omega, show i * 2 + 2 + 1 = (i * 2 + 1) + 2 by omega]
    exact this
theorem cellsD_one {l : List Dt} {u : Value} (h : u ∈ cellsD l) : u.oneCell' = true := by
  induction l with
  | nil => simp [cellsD] at h
  | cons d t ih =>
    rw [cellsD, List.mem_cons, List.mem_cons] at h
    rcases h with rfl | rfl | h
    · rfl
    · rfl
    · exact ih h
theorem cellsD_take : ∀ (l : List Dt) (k : Nat), (cellsD l).take (k * 2) = cellsD (l.take k)
  | [], k => by simp [cellsD]
  | d :: t, 0 => by simp [cellsD]
  | d :: t, k + 1 => by
    rw [show (k + 1) * 2 = k * 2 + 1 + 1 by omega, cellsD, List.take_succ_cons, List.take_succ_cons, cellsD_take t k, List.take_succ_cons]
    rfl

/-- The cells behind an address hold the dots l. -/
def RowD (w : World) (a : Option Addr) (l : List Dt) : Prop :=
  l = [] ∨ ∃ b o, a = some ⟨b, o, none⟩ ∧ ∀ i (h : i < l.length), w.cell? ⟨b, o + i * 2, none⟩ = some (.int .i64 l[i].1) ∧ w.cell? ⟨b, o + (i * 2 + 1), none⟩ = some (.int .i64 l[i].2)
theorem RowD.nil (w : World) (a : Option Addr) : RowD w a [] := .inl rfl
theorem RowD.of_heap {w w' : World} {a : Option Addr} {l : List Dt} (h : RowD w a l) (hh : ∀ b, (∃ o, a = some ⟨b, o, none⟩) → b < w.heap.size → w'.heap[b]? = w.heap[b]?) : RowD w' a l := by
  rcases h with h | ⟨b, o, rfl, h⟩
  · exact .inl h
  · refine .inr ⟨b, o, rfl, fun i hi => ?_⟩
    obtain ⟨h1, h2⟩ := h i hi
    have e := hh b ⟨o, rfl⟩ (lt_of_cell h1)
    exact ⟨by rw [World.cell?_of_block (w := w) e]; exact h1, by rw [World.cell?_of_block (w := w) e]; exact h2⟩
theorem RowD.keep {w w' : World} {a : Option Addr} {l : List Dt} (h : RowD w a l) (hb : Below w.heap.size w w') : RowD w' a l := h.of_heap fun b _ hl => hb.block b hl
theorem RowD.keepB {w w' : World} {a : Option Addr} {l : List Dt} {B : Nat} (h : RowD w a l) (hb : Below B w w') (hB : w.heap.size ≤ B) : RowD w' a l := h.of_heap fun b _ hl => hb.block b (Nat.lt_of_lt_of_le hl hB)
theorem RowD.drew {w : World} {a : Option Addr} {l : List Dt} (h : RowD w a l) : RowD w.drew a l := h.of_heap fun _ _ _ => rfl
theorem RowD.drewN {w : World} {a : Option Addr} {l : List Dt} (h : RowD w a l) (n : Nat) : RowD (w.drewN n) a l := h.of_heap fun _ _ _ => rfl
theorem RowD.gb {w w' : World} {a : Option Addr} {l : List Dt} {r : Option Nat} (h : RowD w a l) (hg : w.grownBy w' r) (hne : ∀ b o, a = some ⟨b, o, none⟩ → some b ≠ r) : RowD w' a l :=
  h.of_heap fun b ⟨o, e⟩ hl => hg.block b hl (hne b o e)
theorem RowD.take {w : World} {a : Option Addr} {l : List Dt} (h : RowD w a l) (n : Nat) : RowD w a (l.take n) := by
  rcases h with rfl | ⟨b, o, rfl, hc⟩
  · exact .inl (by simp)
  · refine .inr ⟨b, o, rfl, fun i hi => ?_⟩
    rw [List.length_take] at hi
    have := hc i (by omega)
    simpa using this
theorem RowD.drop {w : World} {b o : Nat} {l : List Dt} (h : RowD w (some ⟨b, o, none⟩) l) (n : Nat) (hn : n ≤ l.length) : RowD w (some ⟨b, o + n * 2, none⟩) (l.drop n) := by
  rcases h with rfl | ⟨b', o', e, hc⟩
  · exact .inl (by simp)
  · cases e
    refine .inr ⟨b, o + n * 2, rfl, fun i hi => ?_⟩
    rw [List.length_drop] at hi
    obtain ⟨h1, h2⟩ := hc (n + i) (by omega)
    rw [List.getElem_drop, show o + n * 2 + i * 2 = o + (n + i) * 2 by omega, show o + n * 2 + (i * 2 + 1) = o + ((n + i) * 2 + 1) by omega]
    exact ⟨h1, h2⟩
theorem rowD_news {w : World} {b o : Nat} {m : List Dt} (h : RowD w (some ⟨b, o, none⟩) m) : ∀ j u, (cellsD m)[j]? = some u → w.cell? ((⟨b, o, none⟩ : Addr).add j) = some u := by
  intro j u hj
  have hjl : j < m.length * 2 := by
    have := (List.getElem?_eq_some_iff.1 hj).1
    rwa [cellsD_length] at this
  have hm : m ≠ [] := by rintro rfl; simp at hjl
  obtain ⟨b', o', e, hc⟩ := h.resolve_left hm
  cases e
  have e2 : (⟨b, o, none⟩ : Addr).add j = ⟨b, o + j, none⟩ := by unfold Addr.add; split <;> simp_all
  rw [e2]
  have hi : j / 2 < m.length := by omega
  obtain ⟨h1, h2⟩ := hc (j / 2) hi
  obtain ⟨k1, k2⟩ := cellsD_at m (j / 2) hi
  rcases Nat.mod_two_eq_zero_or_one j with hj0 | hj1
  · have ej : j / 2 * 2 = j := by omega
    rw [ej] at h1 k1
    rw [h1, ← k1, hj]
  · have ej : j / 2 * 2 + 1 = j := by omega
    rw [ej] at h2 k2
    rw [h2, ← k2, hj]

/-! ### Rows that a call has made itself -/
def OD (w : World) (base : Nat) (E : TypeId) (v : Value) (l : List Dt) : Prop := w.ownsRow base E 2 v l.length (cellsD l)
section
variable {w w' : World} {base : Nat} {E : TypeId} {v : Value} {l : List Dt}
theorem OD.nil (w : World) (base : Nat) (E : TypeId) : OD w base E (.slice none 0 0) [] := World.ownsRow_nil w base _ 2
theorem OD.row (h : OD w base E v l) : ∃ a c, v = .slice a l.length c ∧ RowD w a l ∧ (a = none → c = 0 ∧ l = []) ∧ l.length ≤ c ∧ (∀ x, a = some x → x = ⟨x.block, 0, none⟩ ∧ v.ownBlock = some x.block ∧ base ≤ x.block ∧ x.block < w.heap.size) := by
  rcases h.2 with ⟨rfl, h0⟩ | ⟨g, cap, cur, rfl, hb, hg, hn, hc, hs, ht⟩
  · have : l = [] := List.eq_nil_of_length_eq_zero h0
    subst this
    exact ⟨none, 0, rfl, .inl rfl, fun _ => ⟨rfl, rfl⟩, Nat.le_refl _, fun x hx => by cases hx⟩
  · refine ⟨some ⟨g, 0, none⟩, cap, rfl, ?_, (fun h => by cases h), hn, fun x hx => ?_⟩
    · by_cases hl : l = []
      · exact .inl hl
      · refine .inr ⟨g, 0, rfl, fun i hi => ?_⟩
        have c1 := World.ownsRow.cellAt h (i * 2) (by omega)
        have c2 := World.ownsRow.cellAt h (i * 2 + 1) (by omega)
        obtain ⟨k1, k2⟩ := cellsD_at l i hi
        rw [Nat.zero_add, Nat.zero_add, c1, c2]
        exact ⟨k1, k2⟩
    · cases hx
      exact ⟨rfl, rfl, hb, (Array.getElem?_eq_some_iff.1 hg).1⟩
theorem OD.keep {row : Option Nat} (h : OD w base E v l) (hg : w.grownBy w' row) (hne : v.ownBlock = none ∨ v.ownBlock ≠ row) : OD w' base E v l := World.ownsRow.kept h hg hne
theorem OD.below (h : OD w base E v l) (hb : Below w.heap.size w w') : OD w' base E v l := h.keep (gb_below hb none) (by rcases v.ownBlock with _ | x <;> simp)
theorem OD.lt (h : OD w base E v l) : ∀ x, v.ownBlock = some x → base ≤ x ∧ x < w.heap.size := World.ownsRow.lt h
theorem OD.mono {base' : Nat} (h : OD w base E v l) (hb : ∀ k, v.ownBlock = some k → base' ≤ k) : OD w base' E v l := by
  refine ⟨h.1, ?_⟩
  rcases h.2 with hn | ⟨g, cap, cur, rfl, hbg, rest⟩
  · exact .inl hn
  · exact .inr ⟨g, cap, cur, rfl, hb g rfl, rest⟩
theorem OD.r {a : Option Addr} {n c : Nat} (h : OD w base E (.slice a n c) l) : RowD w a l ∧ n = l.length ∧ n ≤ c ∧ (a = none → c = 0) := by
  obtain ⟨a', c', e, hr, hn, hc, -⟩ := h.row
  simp only [Value.slice.injEq] at e
  obtain ⟨rfl, rfl, rfl⟩ := e
  exact ⟨hr, rfl, hc, fun h => (hn h).1⟩
end

/-- append of dots to a row of the call's own; from nil, or from any address. -/
theorem run_appD {P : Program} {w : World} {base : Nat} {T E : TypeId} (hT : P.underlying T = some (.slice E)) (hinfo : (P.info? E).map (fun i => (i.zero, i.size, i.bytes)) = some (some (.agg #[.int .i64 0, .int .i64 0]), 2, 16))
    {v : Value} {l : List Dt} (h : OD w base E v l) (ty : TypeId) (a : Option Addr) (m : List Dt) (c : Nat) (hrow : RowD w a m) (hnil : a = none → c = 0)
    (hlen : l.length + m.length ≤ 8796093022208) (hbase : base ≤ w.heap.size) :
    ∃ v' w', (Builtin.append_ #[T, T] ty #[v, .slice a m.length c]).run P w = .ok v' w' ∧ OD w' base E v' (l ++ m) ∧ w.grownBy w' v.ownBlock ∧ G.Grew w v v' := by
  obtain ⟨i, hi, hz0, hz1, hz2⟩ := G.info_of hinfo
  rcases a with _ | ad
  · have hm : m = [] := by
      rcases hrow with hm | ⟨_, _, e, _⟩
      · exact hm
      · cases e
    subst hm
    obtain rfl := hnil rfl
    exact ⟨v, w, run_append_owned_none w base _ ty _ i 2 hT hi v _ _ h, by simpa using h, gb_refl _ _, .inl rfl⟩
  · have hrow' : ∀ j u, (cellsD m)[j]? = some u → w.cell? (ad.add j) = some u := by
      rcases hrow with rfl | ⟨b, o, e, hc⟩
      · intro j u hj; simp [cellsD] at hj
      · cases e
        exact rowD_news (.inr ⟨b, o, rfl, hc⟩)
    obtain ⟨v', w', hr, ho, hg, _, hgr⟩ := run_append_own_at (P := P) w base T ty E i _ 2 16 hT hi hz0 hz1 hz2 rfl (by omega) v _ _ h ad m.length c (cellsD m) (cellsD_length m) hrow'
      (fun u hu => cellsD_one hu) (by unfold maxLen; omega) (by omega) hbase
    refine ⟨v', w', hr, ?_, hg, hgr⟩
    unfold OD
    rw [List.length_append, cellsD_append]
    exact ho
theorem wpList_appD {P : Program} {w : World} {ops : Array Oper} {rest : List Oper} {x : Oper} {a : Act} {Q : Exit → Act → World → Prop} (hgd : x.guard = none) (s y : Operand) (T : TypeId)
    (ho : x.op = .call { callee := .builtin .append, args := #[s, y], argTypes := #[T, T] })
    {base : Nat} {E : TypeId} (hT : P.underlying T = some (.slice E)) (hinfo : (P.info? E).map (fun i => (i.zero, i.size, i.bytes)) = some (some (.agg #[.int .i64 0, .int .i64 0]), 2, 16))
    (v : Value) (l : List Dt) (hs : a.eval s = v) (h : OD w base E v l) (ad : Option Addr) (m : List Dt) (c : Nat) (hx : a.eval y = .slice ad m.length c) (hrow : RowD w ad m) (hnil : ad = none → c = 0)
    (hlen : l.length + m.length ≤ 8796093022208) (hbase : base ≤ w.heap.size)
    (hk : ∀ v' w', OD w' base E v' (l ++ m) → w.grownBy w' v.ownBlock → G.Grew w v v' → wpList P ops Q rest (a.put x.dst v') w') : wpList P ops Q (x :: rest) a w := by
  obtain ⟨v', w', hr, h2, h3, h4⟩ := run_appD hT hinfo h x.type ad m c hrow hnil hlen hbase
  refine wpList_plain hgd fun K hK => ?_
  unfold Oper.wp execOp
  simp only [ho, resolve, invoke, builtin, Sem.run_bind, Sem.run_pure, Result.andThen_ok, List.map_toArray, List.map_cons, List.map_nil, hs, hx, hr]
  exact hK _ _ (hk v' w' h2 h3 h4)
/-- Some new dots that are written out. -/
theorem RowD.lit (w : World) (l : List Dt) (C : Array Value) (t : TypeId) (fr : Nat × Nat) (hC : C.toList = cellsD l) : RowD (w.alloc (.cells C t fr)) (some ⟨w.heap.size, 0, none⟩) l := by
  by_cases hl : l = []
  · exact .inl hl
  have hh : (w.alloc (.cells C t fr)).heap[w.heap.size]? = some (.cells C t fr) := by show (w.heap.push _)[w.heap.size]? = _; simp
  have hcell : ∀ j, (w.alloc (.cells C t fr)).cell? ⟨w.heap.size, j, none⟩ = C[j]? := fun j => by
    simp only [World.cell?, hh]
    rw [if_neg (by simp)]
  refine .inr ⟨_, _, rfl, fun i hi => ?_⟩
  obtain ⟨k1, k2⟩ := cellsD_at l i hi
  rw [Nat.zero_add, Nat.zero_add, hcell, hcell, ← Array.getElem?_toList, ← Array.getElem?_toList, hC]
  exact ⟨k1, k2⟩
end Go.Proofs.Ytfmlenhakejefaa.D
end
