/-
  Small laws that many texts share.
-/
import Derived.Test.YtmmcnpcijeahcaaVMem
import Derived.WalkSmall
import Derived.Laws.IdiomStrings
import Derived.Laws.RangeAny
import Derived.Laws.MakeOwn
import Derived.Laws.OwnMore
import Derived.Maps.AppendAt
namespace Go.Proofs.Ytmmcnpcijeahcaa.G
set_option linter.unusedVariables false
open Go.RowKit V

theorem ret1 {v v' : Value} (h : v = v') : Ending.returned v = Ending.returned v' := by rw [h]
theorem ret2 {v v' x x' : Value} (h : v = v') (hx : x = x') : Ending.returned (.tuple #[v, x]) = Ending.returned (.tuple #[v', x']) := by rw [h, hx]
theorem str_app (l m : List UInt8) : (⟨l.toArray⟩ ++ ⟨m.toArray⟩ : ByteArray) = ⟨(l ++ m).toArray⟩ := by
  apply ByteArray.ext
  simp

/-- What a conversion of a slice of bytes to a string gives. -/
theorem conv_row {P : Program} {w : World} {a : Option Addr} {l : List UInt8} (h : Row8 w a l) (n : Nat) (hn : n = l.length) (c : Nat) (src dst e : TypeId) (hs : P.underlying src = some (.slice e)) (he : P.underlying e = some (.int .u8)) (hd : P.underlying dst = some .string) :
    (convert src dst (.slice a n c)).run P w = .ok (.string ⟨l.toArray⟩) w := by
  subst hn
  by_cases hl : l = []
  · subst hl
    rcases a with _ | a
    · exact run_convert_bytes_nil w src e hs he _ _ dst hd
    · exact run_convert_bytes_back w src dst e a c [] hs he hd (fun j hj => by simp at hj)
  · obtain ⟨b, o, rfl, hc⟩ := h.resolve_left hl
    refine run_convert_bytes_back w src dst e ⟨b, o, none⟩ c l hs he hd (fun j hj => ?_)
    have := hc j hj
    rcases Nat.eq_zero_or_pos j with rfl | hj0
    · simpa [Addr.add] using this
    · simpa [Addr.add, Nat.ne_of_gt hj0] using this

/-- '[]byte(s)': a new row of the string's bytes. -/
theorem str_bytes {P : Program} (w : World) (src dst e : TypeId) (l : List UInt8) (hs : P.underlying src = some .string) (hd : P.underlying dst = some (.slice e)) (he : P.underlying e = some (.int .u8)) :
    ∃ g c w1, (convert src dst (.string ⟨l.toArray⟩)).run P w = .ok (.slice (some ⟨g, 0, none⟩) l.length c) w1 ∧ Row8 w1 (some ⟨g, 0, none⟩) l ∧ Below w.heap.size w w1 ∧ g = w.heap.size ∧ g < w1.heap.size := by
  refine ⟨w.heap.size, _, _, run_bytes_of_string w src dst e ⟨l.toArray⟩ hs hd he, ?_, ?_, rfl, ?_⟩
  · by_cases hl : l = []
    · exact .inl hl
    · refine .inr ⟨_, _, rfl, fun i hi => ?_⟩
      have h1 : ∀ (C : Array Value) (f : Nat × Nat), (w.drew.alloc (.cells C e f)).cell? ⟨w.heap.size, 0 + i, none⟩ = C[i]? := fun C f => by
        have : (w.drew.alloc (.cells C e f)).heap[w.heap.size]? = some (.cells C e f) := by
          show (w.heap.push (.cells C e f))[w.heap.size]? = _
          simp
        unfold World.cell?
        rw [show (⟨w.heap.size, 0 + i, none⟩ : Addr).block = w.heap.size from rfl, this]
        simp
      rw [h1]
      simp [bytesRow, Array.getElem?_append, hi]
  · exact ((Below.refl _ _).drew).alloc (Nat.le_refl _) _
  · show w.heap.size < (w.heap.push _).size
    simp

/-- A row of numbers of one kind. -/
def RowI (k : IntKind) (w : World) (a : Option Addr) (l : List Int) : Prop :=
  l = [] ∨ ∃ b o, a = some ⟨b, o, none⟩ ∧ ∀ i (h : i < l.length), w.cell? ⟨b, o + i, none⟩ = some (.int k l[i])
theorem RowI.keep {k : IntKind} {w w' : World} {a : Option Addr} {l : List Int} {B : Nat} (h : RowI k w a l) (hb : Below B w w') (hB : w.heap.size ≤ B) : RowI k w' a l := by
  rcases h with h | ⟨b, o, rfl, h⟩
  · exact .inl h
  · refine .inr ⟨b, o, rfl, fun i hi => ?_⟩
    have := h i hi
    rw [hb.cell (p := ⟨b, o + i, none⟩) (Nat.lt_of_lt_of_le (lt_of_cell this) hB)]
    exact this
theorem RowI.of_heap {k : IntKind} {w w' : World} {a : Option Addr} {l : List Int} (h : RowI k w a l) (hh : ∀ b, (∃ o, a = some ⟨b, o, none⟩) → b < w.heap.size → w'.heap[b]? = w.heap[b]?) : RowI k w' a l := by
  rcases h with h | ⟨b, o, rfl, h⟩
  · exact .inl h
  · refine .inr ⟨b, o, rfl, fun i hi => ?_⟩
    have h' := h i hi
    rw [World.cell?_of_block (w := w) (hh b ⟨o, rfl⟩ (lt_of_cell h'))]
    exact h'
theorem RowI.part {k : IntKind} {w : World} {b o : Nat} {l : List Int} (h : RowI k w (some ⟨b, o, none⟩) l) (i n : Nat) (hn : i + n ≤ l.length) : RowI k w (some ⟨b, o + i, none⟩) ((l.drop i).take n) := by
  rcases h with rfl | ⟨b', o', e, h⟩
  · exact .inl (by simp)
  · simp only [Option.some.injEq, Addr.mk.injEq] at e
    obtain ⟨rfl, rfl, _⟩ := e
    refine .inr ⟨b, o + i, rfl, fun j hj => ?_⟩
    have hj' : j < n := by
      rw [List.length_take, List.length_drop] at hj
      omega
    rw [Nat.add_assoc, h (i + j) (by omega)]
    simp
/-- A new row of numbers that are written out. -/
theorem RowI.lit (k : IntKind) (w : World) (g : Nat) (hg : g = w.heap.size) (l : List Int) (C : Array Value) (t : TypeId) (hC : C.toList = l.map (.int k)) : RowI k (w.alloc (.cells C t)) (some ⟨g, 0, none⟩) l := by
  subst hg
  by_cases hl : l = []
  · exact .inl hl
  refine .inr ⟨_, _, rfl, fun i hi => ?_⟩
  rw [Nat.zero_add, World.cell?_alloc_new w C t i]
  rw [← Array.getElem?_toList, hC]
  simp [hi]


/-! ### Rows of numbers that a call has made itself -/
def OI (w : World) (base : Nat) (E : TypeId) (k : IntKind) (v : Value) (l : List Int) : Prop := w.ownsRow base E 1 v l.length (l.map (.int k))
section
variable {w w' : World} {base : Nat} {E : TypeId} {k : IntKind} {v : Value} {l : List Int}
theorem OI.nil (w : World) (base : Nat) (E : TypeId) (k : IntKind) : OI w base E k (.slice none 0 0) [] := World.ownsRow_nil w base _ 1
theorem OI.row (h : OI w base E k v l) : ∃ a c, v = .slice a l.length c ∧ RowI k w a l ∧ (a = none → c = 0 ∧ l = []) := by
  rcases h.2 with ⟨rfl, h0⟩ | ⟨g, cap, cur, rfl, hb, hg, hn, hc, hs, ht⟩
  · have : l = [] := List.eq_nil_of_length_eq_zero h0
    subst this
    exact ⟨none, 0, rfl, .inl rfl, fun _ => ⟨rfl, rfl⟩⟩
  · refine ⟨some ⟨g, 0, none⟩, cap, rfl, ?_, fun h => by cases h⟩
    by_cases hl : l = []
    · exact .inl hl
    · refine .inr ⟨g, 0, rfl, fun i hi => ?_⟩
      have hcell := World.ownsRow.cellAt h i (by omega)
      rw [Nat.zero_add, hcell]
      simp [hi]
theorem OI.row2 (h : OI w base E k v l) : ∃ a c, v = .slice a l.length c ∧ RowI k w a l ∧ (a = none → c = 0 ∧ l = []) ∧ l.length ≤ c ∧ (∀ x, a = some x → x = ⟨x.block, 0, none⟩ ∧ base ≤ x.block ∧ x.block < w.heap.size) := by
  obtain ⟨a, c, rfl, hr, hn⟩ := h.row
  refine ⟨a, c, rfl, hr, hn, ?_, ?_⟩
  · rcases h.2 with ⟨e, h0⟩ | ⟨g, cap, cur, e, hb, hg, hnn, hc, hs, ht⟩
    · simp only [Value.slice.injEq] at e; omega
    · simp only [Value.slice.injEq] at e; omega
  · intro x hx
    rcases h.2 with ⟨e, h0⟩ | ⟨g, cap, cur, e, hb, hg, hnn, hc, hs, ht⟩
    · simp only [Value.slice.injEq] at e; rw [e.1] at hx; cases hx
    · simp only [Value.slice.injEq] at e; rw [e.1] at hx; cases hx; exact ⟨rfl, hb, (Array.getElem?_eq_some_iff.1 hg).1⟩
theorem OI.keep {row : Option Nat} (h : OI w base E k v l) (hg : w.grownBy w' row) (hne : v.ownBlock = none ∨ v.ownBlock ≠ row) : OI w' base E k v l := World.ownsRow.kept h hg hne
theorem OI.below (h : OI w base E k v l) (hb : Below w.heap.size w w') : OI w' base E k v l := h.keep (gb_below hb none) (by rcases v.ownBlock with _ | x <;> simp)
theorem OI.lt (h : OI w base E k v l) : ∀ x, v.ownBlock = some x → base ≤ x ∧ x < w.heap.size := World.ownsRow.lt h
theorem OI.mono {base' : Nat} (h : OI w base E k v l) (hb : base' ≤ base) : OI w base' E k v l := by
  refine ⟨h.1, ?_⟩
  rcases h.2 with hn | ⟨g, cap, cur, rfl, hbg, rest⟩
  · exact .inl hn
  · exact .inr ⟨g, cap, cur, rfl, Nat.le_trans hb hbg, rest⟩
end
/-- The row that an append leaves: the one that was there, or a new one. -/
def Grew (w : World) (v v' : Value) : Prop := v'.ownBlock = v.ownBlock ∨ v'.ownBlock = some w.heap.size

theorem info_of {P : Program} {E : TypeId} {z : Value} {S B : Nat} (h : (P.info? E).map (fun i => (i.zero, i.size, i.bytes)) = some (some z, S, B)) :
    ∃ i, P.info? E = some i ∧ i.zero = some z ∧ i.size = S ∧ i.bytes = B := by
  rcases hi : P.info? E with _ | i
  · rw [hi] at h; cases h
  · rw [hi] at h
    simp only [Option.map_some, Option.some.injEq, Prod.mk.injEq] at h
    exact ⟨i, rfl, h.1, h.2.1, h.2.2⟩

theorem rowI_news {k : IntKind} {w : World} {b o : Nat} {m : List Int} (h : RowI k w (some ⟨b, o, none⟩) m) : ∀ j u, (m.map (Value.int k))[j]? = some u → w.cell? ((⟨b, o, none⟩ : Addr).add j) = some u := by
  intro j u hj
  have hjl : j < m.length := by
    have := (List.getElem?_eq_some_iff.1 hj).1
    rwa [List.length_map] at this
  rcases h with rfl | ⟨b', o', e, hc⟩
  · simp at hjl
  · cases e
    have e2 : (⟨b, o, none⟩ : Addr).add j = ⟨b, o + j, none⟩ := by unfold Addr.add; split <;> simp_all
    rw [e2, hc j hjl]
    simp [hjl] at hj
    rw [hj]

/-- append of numbers to a row of the call's own. -/
theorem run_appI {P : Program} {w : World} {base : Nat} {T E : TypeId} {k : IntKind} {B : Nat} (hT : P.underlying T = some (.slice E)) (hinfo : (P.info? E).map (fun i => (i.zero, i.size, i.bytes)) = some (some (.int k 0), 1, B))
    {v : Value} {l : List Int} (h : OI w base E k v l) (ty : TypeId) (b o c : Nat) (m : List Int) (hrow : RowI k w (some ⟨b, o, none⟩) m)
    (hlen : l.length + m.length ≤ 8796093022208) (hB : B ≤ 16) (hbase : base ≤ w.heap.size) :
    ∃ v' w', (Builtin.append_ #[T, T] ty #[v, .slice (some ⟨b, o, none⟩) m.length c]).run P w = .ok v' w' ∧ OI w' base E k v' (l ++ m) ∧ w.grownBy w' v.ownBlock ∧ Grew w v v' := by
  obtain ⟨i, hi, hz0, hz1, hz2⟩ := info_of hinfo
  have hb : (l.length + m.length) * B ≤ 140737488355328 := by
    have := Nat.mul_le_mul hlen hB
    omega
  obtain ⟨v', w', hr, ho, hg, _, hgr⟩ := run_append_own_at (P := P) w base T ty E i (.int k 0) 1 B hT hi hz0 hz1 hz2 rfl (by omega) v _ _ h ⟨b, o, none⟩ m.length c (m.map (.int k)) (by simp) (rowI_news hrow)
    (by intro u hu; simp only [List.mem_map] at hu; obtain ⟨x, _, rfl⟩ := hu; rfl) (by unfold maxLen; omega) hb hbase
  refine ⟨v', w', hr, ?_, hg, hgr⟩
  unfold OI
  rw [List.length_append, List.map_append]
  exact ho
theorem wpList_appI {P : Program} {w : World} {ops : Array Oper} {rest : List Oper} {x : Oper} {a : Act} {Q : Exit → Act → World → Prop} (hgd : x.guard = none) (s y : Operand) (T : TypeId)
    (ho : x.op = .call { callee := .builtin .append, args := #[s, y], argTypes := #[T, T] })
    {base : Nat} {E : TypeId} {k : IntKind} {B : Nat} (hT : P.underlying T = some (.slice E)) (hinfo : (P.info? E).map (fun i => (i.zero, i.size, i.bytes)) = some (some (.int k 0), 1, B))
    (v : Value) (l : List Int) (hs : a.eval s = v) (h : OI w base E k v l) (b o c n : Nat) (m : List Int) (hn : n = m.length) (hx : a.eval y = .slice (some ⟨b, o, none⟩) n c) (hrow : RowI k w (some ⟨b, o, none⟩) m)
    (hlen : l.length + m.length ≤ 8796093022208) (hB : B ≤ 16) (hbase : base ≤ w.heap.size)
    (hk : ∀ v' w', OI w' base E k v' (l ++ m) → w.grownBy w' v.ownBlock → Grew w v v' → wpList P ops Q rest (a.put x.dst v') w') : wpList P ops Q (x :: rest) a w := by
  subst hn
  obtain ⟨v', w', hr, h2, h3, h4⟩ := run_appI hT hinfo h x.type b o c m hrow hlen hB hbase
  refine wpList_plain hgd fun K hK => ?_
  unfold Oper.wp execOp
  simp only [ho, resolve, invoke, builtin, Sem.run_bind, Sem.run_pure, Result.andThen_ok, List.map_toArray, List.map_cons, List.map_nil, hs, hx, hr]
  exact hK _ _ (hk v' w' h2 h3 h4)

/-- make of a row of numbers without elements. -/
theorem run_mkI {P : Program} (w : World) (base : Nat) {T E : TypeId} {k : IntKind} {B : Nat} (hT : P.underlying T = some (.slice E)) (hinfo : (P.info? E).map (fun i => (i.zero, i.size, i.bytes)) = some (some (.int k 0), 1, B))
    (c : Nat) (hc : c ≤ 8796093022208) (hB : B ≤ 16) (hbase : base ≤ w.heap.size) :
    ∃ w' v, (Instr.makeSlice T (.int .i64 0) (.int .i64 (c : Int))).run P w = .ok v w' ∧ OI w' base E k v [] ∧ Below w.heap.size w w' := by
  obtain ⟨i, hi, hz0, hz1, hz2⟩ := info_of hinfo
  have hb : i.bytes * c ≤ 281474976710656 := by
    rw [hz2]
    have := Nat.mul_le_mul hB hc
    omega
  obtain ⟨w', hr, ho, hg⟩ := run_make_own (P := P) w base T E i (.int k 0) 1 hT hi hz0 hz1 .i64 .i64 c hb (by unfold maxLen; omega) hbase
  exact ⟨w', _, hr, ho, (Below.refl _ _).grown hg (Nat.le_refl _) (fun k hk => by cases hk)⟩

/-- A part of a row of numbers. -/
theorem slice_int {P : Program} {T E : TypeId} {z : Value} {B : Nat} (hT : P.underlying T = some (.slice E)) (hinfo : (P.info? E).map (fun i => (i.zero, i.size, i.bytes)) = some (some z, 1, B))
    (a : Option Addr) (len cap m n : Nat) (hmn : m ≤ n) (hnl : n ≤ len) (hlc : len ≤ cap) :
    ∃ a', (∀ wx, (Instr.slice T (.slice a len cap) (some (.int .i64 (m : Int))) (some (.int .i64 (n : Int))) none).run P wx = .ok (.slice a' (n - m) (cap - m)) wx) ∧
      ∀ (k : IntKind) (w : World) (l : List Int), l.length = len → RowI k w a l → RowI k w a' ((l.drop m).take (n - m)) := by
  obtain ⟨i, hi, hz0, hz1, hz2⟩ := info_of hinfo
  refine ⟨if cap = m then a else a.map (·.add (m * 1)), ?_, ?_⟩
  · intro wx
    have h1 : (Instr.sliceBound (.int .i64 (n : Int)) cap .sliceAcap).run P wx = .ok n wx := by
      rw [run_sliceBound _ _ _ _ _ (by omega) (by omega)]; rfl
    have h2 : (Instr.sliceBound (.int .i64 (m : Int)) n .sliceB).run P wx = .ok m wx := by
      rw [run_sliceBound _ _ _ _ _ (by omega) (by omega)]; rfl
    simp [Instr.slice, run_underlying hT, Instr.sliceBounds, h1, h2, Result.andThen, sizeOf, typeInfo, hi, hz1]
  · intro k w l hl hr
    by_cases hcm : cap = m
    · rw [if_pos hcm]
      have : n - m = 0 := by omega
      rw [this]
      exact .inl (by simp)
    · rw [if_neg hcm]
      rcases hr with rfl | ⟨b, o, rfl, hc⟩
      · exact .inl (by simp)
      · have e : (⟨b, o, none⟩ : Addr).add (m * 1) = ⟨b, o + m, none⟩ := by unfold Addr.add; split <;> simp_all
        rw [Option.map_some, e]
        exact RowI.part (.inr ⟨b, o, rfl, hc⟩) m (n - m) (by omega)

/-! ### A range over a string -/
def setIter (w : World) (g : Nat) (s : ByteArray) (p : Nat) : World := { w with heap := w.heap.setIfInBounds g (.stringIter s p) }
theorem next_at {P : Program} (w : World) (g : Nat) (s : ByteArray) (pos : Nat) (hh : w.heap[g]? = some (.stringIter s pos)) (h : pos < s.size) : ∀ ty,
    (Instr.next (.pointer (some ⟨g, 0, none⟩)) true ty).run P w = .ok (.tuple #[.bool true, .int .i64 pos, .int .i32 (Utf8.decode s pos).1]) (setIter w g s (pos + (Utf8.decode s pos).2)) := by
  intro ty
  simp only [Instr.next, getObj, setObj, Sem.run_bind, Sem.run, hh, Result.andThen, h, if_true]
  simp [goInt, setIter]
theorem next_end {P : Program} (w : World) (g : Nat) (s : ByteArray) (pos : Nat) (hh : w.heap[g]? = some (.stringIter s pos)) (h : ¬ pos < s.size) : ∀ ty,
    (Instr.next (.pointer (some ⟨g, 0, none⟩)) true ty).run P w = .ok (.tuple #[.bool false]) w := by
  intro ty
  simp [Instr.next, getObj, Sem.run, hh, h]
theorem setIter_heap {w : World} {g : Nat} {s s' : ByteArray} {p q : Nat} (hh : w.heap[g]? = some (.stringIter s' q)) : (setIter w g s p).heap[g]? = some (.stringIter s p) := by
  have := (Array.getElem?_eq_some_iff.1 hh).1
  simp [setIter, this]
theorem setIter_grown (w : World) (g : Nat) (s : ByteArray) (p : Nat) : w.grownBy (setIter w g s p) (some g) :=
  ⟨rfl, rfl, rfl, by simp [setIter], fun k hk hne => by simp only [setIter]; rw [Array.getElem?_setIfInBounds_ne (fun e => hne (by rw [e]))]⟩
theorem setIter_size (w : World) (g : Nat) (s : ByteArray) (p : Nat) : (setIter w g s p).heap.size = w.heap.size := by simp [setIter]
theorem iterPos_of {w : World} {g : Nat} {s : ByteArray} {p : Nat} (h : w.heap[g]? = some (.stringIter s p)) : w.iterPos g = p := by simp [World.iterPos, h]

end Go.Proofs.Ytmmcnpcijeahcaa.G
