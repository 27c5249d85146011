/-
  A node in memory; '==' of nodes; which nodes are valid, dead, what is killed.
-/
import Derived.Test.YtkcbekebleodaaaGreatMNPure
import Derived.Test.YtkcbekebleodaaaGreatDVal
import Derived.Test.YtkcbekebleodaaaGreatMDRefB
import Derived.Test.YtkcbekebleodaaaGreatMSched
import Derived.Test.YtkcbekebleodaaaGreatRows
import Derived.Test.YtkcbekebleodaaaGreatVMem
import Derived.Deep.RegionWith
import Derived.RegionTactic
import Derived.KernelRfl

section
namespace Go.Proofs.YtkcbekebleodaaaGreat.Nd
set_option linter.unusedVariables false
open Go.RowKit V Go.Sort D

abbrev nc (n : Nt) : Array Value := #[.int .i64 n.1.1, .int .i64 n.1.2, .int .i64 n.2.1.1, .int .i64 n.2.1.2, .int .i64 n.2.2.1, .int .i32 n.2.2.2]
abbrev nv (n : Nt) : Value := .agg (nc n)
/-- A box with a node. -/
def Nb (w : World) (g : Nat) (n : Nt) : Prop :=
  w.cell? ⟨g, 0, none⟩ = some (.int .i64 n.1.1) ∧ w.cell? ⟨g, 1, none⟩ = some (.int .i64 n.1.2) ∧ w.cell? ⟨g, 2, none⟩ = some (.int .i64 n.2.1.1) ∧ w.cell? ⟨g, 3, none⟩ = some (.int .i64 n.2.1.2) ∧
  w.cell? ⟨g, 4, none⟩ = some (.int .i64 n.2.2.1) ∧ w.cell? ⟨g, 5, none⟩ = some (.int .i32 n.2.2.2)
theorem Nb.lt {w : World} {g : Nat} {n : Nt} (h : Nb w g n) : g < w.heap.size := lt_of_cell h.1
theorem Nb.keep {w w' : World} {g : Nat} {n : Nt} (h : Nb w g n) (hb : Below w.heap.size w w') : Nb w' g n := by
  have hl := h.lt
  obtain ⟨h0, h1, h2, h3, h4, h5⟩ := h
  exact ⟨(hb.cell (p := ⟨g, 0, none⟩) hl).trans h0, (hb.cell (p := ⟨g, 1, none⟩) hl).trans h1, (hb.cell (p := ⟨g, 2, none⟩) hl).trans h2, (hb.cell (p := ⟨g, 3, none⟩) hl).trans h3, (hb.cell (p := ⟨g, 4, none⟩) hl).trans h4, (hb.cell (p := ⟨g, 5, none⟩) hl).trans h5⟩
theorem Nb.new (w : World) (n : Nt) : Nb (w.alloc (.cells (nc n) 53)) w.heap.size n := by
  refine ⟨?_, ?_, ?_, ?_, ?_, ?_⟩ <;> go_simp
theorem Nb.load {w : World} {g : Nat} {n : Nt} (h : Nb w g n) : (Instr.loadAt 53 (.pointer (some ⟨g, 0, none⟩))).run Tryz.prog w = .ok (nv n) w := by
  obtain ⟨h0, h1, h2, h3, h4, h5⟩ := h
  go_simp
theorem Nb.loadD {w : World} {g : Nat} {n : Nt} (h : Nb w g n) : (Instr.loadAt 25 (.pointer (some ⟨g, 0, none⟩))).run Tryz.prog w = .ok (dv n.1) w := by
  obtain ⟨h0, h1, h2, h3, h4, h5⟩ := h
  go_simp
theorem Nb.loadP {w : World} {g : Nat} {n : Nt} (h : Nb w g n) : (Instr.loadAt 25 (.pointer (some ⟨g, 2, none⟩))).run Tryz.prog w = .ok (dv n.2.1) w := by
  obtain ⟨h0, h1, h2, h3, h4, h5⟩ := h
  go_simp
theorem Nb.loadT {w : World} {g : Nat} {n : Nt} (h : Nb w g n) : (Instr.loadAt 3 (.pointer (some ⟨g, 4, none⟩))).run Tryz.prog w = .ok (.int .i64 n.2.2.1) w := by
  obtain ⟨h0, h1, h2, h3, h4, h5⟩ := h
  go_simp
theorem Nb.loadR {w : World} {g : Nat} {n : Nt} (h : Nb w g n) : (Instr.loadAt 21 (.pointer (some ⟨g, 5, none⟩))).run Tryz.prog w = .ok (.int .i32 n.2.2.2) w := by
  obtain ⟨h0, h1, h2, h3, h4, h5⟩ := h
  go_simp
theorem fieldsN : (Tryz.prog.underlying 53) = some (.struct (Tryz.prog.fieldsOf 53)) := by kernel_rfl
theorem dotS : Tryz.prog.underlying 25 = some (.struct (Tryz.prog.fieldsOf 25)) := by kernel_rfl
theorem eq_in_dot (x y : Dt) (w : World) : (Op.equalIn 9999 25 (.agg #[.int .i64 x.1, .int .i64 x.2]) (.agg #[.int .i64 y.1, .int .i64 y.2])).run Tryz.prog w = .ok (decide (x = y)) w := by
  have u3 := Tryz.underlying3
  have a3 := Tryz.isAgg3
  have z3 := Tryz.sizeOf3
  rw [show (9999 : Nat) = 9998 + 1 from rfl, run_equalIn_agg w 9998 25 _ _ dotS (by kernel_rfl)]
  simp only [Program.fieldsOf, Tryz.underlying25]
  go_simp
  obtain ⟨x1, x2⟩ := x
  obtain ⟨y1, y2⟩ := y
  by_cases h1 : x1 = y1 <;> by_cases h2 : x2 = y2 <;> simp [h1, h2]
theorem eq_node (x y : Nt) (w : World) : (Op.equalIn 10000 53 (nv x) (nv y)).run Tryz.prog w = .ok (decide (x = y)) w := by
  have u3 := Tryz.underlying3
  have a3 := Tryz.isAgg3
  have z3 := Tryz.sizeOf3
  have u4 := Tryz.underlying21
  have a4 := Tryz.isAgg21
  have z4 := Tryz.sizeOf21
  have uD := Tryz.isAgg25
  have zD := Tryz.sizeOf25
  have e1 := eq_in_dot x.1 y.1
  have e2 := eq_in_dot x.2.1 y.2.1
  rw [show (10000 : Nat) = 9999 + 1 from rfl, run_equalIn_agg w 9999 53 _ _ fieldsN (by kernel_rfl)]
  simp only [Program.fieldsOf, Tryz.underlying53]
  go_simp
  obtain ⟨x1, x2, x3, x4⟩ := x
  obtain ⟨y1, y2, y3, y4⟩ := y
  by_cases h1 : x1 = y1 <;> by_cases h2 : x2 = y2 <;> by_cases h3 : x3 = y3 <;> by_cases h4 : x4 = y4 <;> simp [h1, h2, h3, h4]
theorem eql_node (x y : Nt) (w : World) : Sem.run Tryz.prog (binOp .eql 53 (nv x) (nv y)) w = .ok (.bool (decide (x = y))) w := by
  rw [run_eql_struct, eq_node]
  rfl
theorem neq_node (x y : Nt) (w : World) : Sem.run Tryz.prog (binOp .neq 53 (nv x) (nv y)) w = .ok (.bool (!decide (x = y))) w := by
  rw [run_neq_struct, eq_node]
  rfl
end Go.Proofs.YtkcbekebleodaaaGreat.Nd
end

/-
  Trees of nodes in memory: what never changes once it is made; len, weight, over.
-/
section
namespace Go.Proofs.YtkcbekebleodaaaGreat.Un
set_option linter.unusedVariables false
open Go.RowKit V D Nd Qs Wk

theorem bel_box (w : World) (o : Obj) : Below w.heap.size w (w.alloc o) := (Below.refl _ _).alloc (Nat.le_refl _) _
theorem bel_tr {w w1 w2 : World} (h : Below w.heap.size w w1) (hb : Below w1.heap.size w1 w2) : Below w.heap.size w w2 := h.trans (hb.mono h.size)
theorem keep_cell {w w' : World} {b o : Nat} {v : Value} (h : w.cell? ⟨b, o, none⟩ = some v) (hb : Below w.heap.size w w') : w'.cell? ⟨b, o, none⟩ = some v := (hb.cell (p := ⟨b, o, none⟩) (lt_of_cell h)).trans h

/-- A tree of entries; of each node its block. -/
inductive Tr where
  | nil
  | node (b : Nat) (k : Nt) (l r : Tr)
def Tr.ad : Tr → Option Addr
  | .nil => none
  | .node b _ _ _ => some ⟨b, 0, none⟩
def Tr.list : Tr → List Nt
  | .nil => []
  | .node _ k l r => l.list ++ k :: r.list
def Tr.len (t : Tr) : Nat := t.list.length
theorem Tr.ad_node (b : Nat) (k : Nt) (l r : Tr) : (Tr.node b k l r).ad = some ⟨b, 0, none⟩ := rfl
theorem Tr.len_nil : Tr.nil.len = 0 := rfl
theorem Tr.len_node (b : Nat) (k : Nt) (l r : Tr) : (Tr.node b k l r).len = l.len + 1 + r.len := by
  unfold Tr.len
  rw [Tr.list, List.length_append, List.length_cons]
  omega
/-- The block of a node. -/
abbrev tc (k : Nt) (l r : Option Addr) (n : Int) : Array Value := #[.int .i64 k.1.1, .int .i64 k.1.2, .int .i64 k.2.1.1, .int .i64 k.2.1.2, .int .i64 k.2.2.1, .int .i32 k.2.2.2, .pointer l, .pointer r, .int .i64 n]
def Nn (w : World) (b : Nat) (k : Nt) (l r : Option Addr) (n : Nat) : Prop := w.heap[b]? = some (.cells (tc k l r (n : Int)) 156 (0, 0))
theorem Nn.c {w : World} {b : Nat} {k : Nt} {l r : Option Addr} {n : Nat} (h : Nn w b k l r n) (j : Nat) : w.cell? ⟨b, j, none⟩ = (tc k l r (n : Int))[j]? := by
  unfold Nn at h
  simp only [World.cell?, h]
  rfl
theorem Nn.lt {w : World} {b : Nat} {k : Nt} {l r : Option Addr} {n : Nat} (h : Nn w b k l r n) : b < w.heap.size := (Array.getElem?_eq_some_iff.1 h).1
theorem Nn.nb {w : World} {b : Nat} {k : Nt} {l r : Option Addr} {n : Nat} (h : Nn w b k l r n) : Nb w b k := ⟨h.c 0, h.c 1, h.c 2, h.c 3, h.c 4, h.c 5⟩
theorem Nn.cl {w : World} {b : Nat} {k : Nt} {l r : Option Addr} {n : Nat} (h : Nn w b k l r n) : w.cell? ⟨b, 6, none⟩ = some (.pointer l) := h.c 6
theorem Nn.cr {w : World} {b : Nat} {k : Nt} {l r : Option Addr} {n : Nat} (h : Nn w b k l r n) : w.cell? ⟨b, 7, none⟩ = some (.pointer r) := h.c 7
theorem Nn.cs {w : World} {b : Nat} {k : Nt} {l r : Option Addr} {n : Nat} (h : Nn w b k l r n) : w.cell? ⟨b, 8, none⟩ = some (.int .i64 (n : Int)) := h.c 8
def Tr.In (w : World) : Tr → Prop
  | .nil => True
  | .node b k l r => Nn w b k l.ad r.ad (l.len + 1 + r.len) ∧ l.In w ∧ r.In w
theorem Nn.of_heap {w w' : World} {b : Nat} {k : Nt} {l r : Option Addr} {n : Nat} (h : Nn w b k l r n) (e : b < w.heap.size → w'.heap[b]? = w.heap[b]?) : Nn w' b k l r n := (e h.lt).trans h
/-- A tree stays where its blocks stay. -/
def Tr.on (p : Nat → Prop) : Tr → Prop
  | .nil => True
  | .node b _ l r => p b ∧ l.on p ∧ r.on p
theorem Tr.In.of_heap {w w' : World} : ∀ {t : Tr}, t.In w → (t.on fun b => b < w.heap.size → w'.heap[b]? = w.heap[b]?) → t.In w'
  | .nil, _, _ => trivial
  | .node b k l r, h, e => ⟨h.1.of_heap e.1, Tr.In.of_heap h.2.1 e.2.1, Tr.In.of_heap h.2.2 e.2.2⟩
theorem Tr.on_all {p : Nat → Prop} (h : ∀ b, p b) : ∀ t : Tr, t.on p
  | .nil => trivial
  | .node b _ l r => ⟨h b, Tr.on_all h l, Tr.on_all h r⟩
theorem Tr.In.keep {w w' : World} {t : Tr} (h : t.In w) (hb : Below w.heap.size w w') : t.In w' := h.of_heap (Tr.on_all (fun b hl => hb.block b hl) t)
theorem Tr.In.drew {w : World} {t : Tr} (h : t.In w) : t.In w.drew := h.of_heap (Tr.on_all (fun _ _ => rfl) t)
theorem Tr.In.gb {w w' : World} {t : Tr} {g : Nat} (h : t.In w) (hg : w.grownBy w' (some g)) (hne : t.on fun b => b ≠ g) : t.In w' := by
  have go : ∀ t : Tr, (t.on fun b => b ≠ g) → t.on fun b => b < w.heap.size → w'.heap[b]? = w.heap[b]? := by
    intro t
    induction t with
    | nil => exact fun _ => trivial
    | node b k l r ihl ihr => exact fun h => ⟨fun hl => hg.block b hl (by simpa using h.1), ihl h.2.1, ihr h.2.2⟩
  exact h.of_heap (go t hne)
/-- A node made anew. -/
theorem nd_new (w : World) (k : Nt) (l r : Option Addr) (z : Int) (n : Nat) (hz : z = (n : Int)) : Nn (w.alloc (.cells (tc k l r z) 156)) w.heap.size k l r n := by
  subst hz
  show (w.heap.push _)[w.heap.size]? = _
  simp

theorem load_int {w : World} {b o : Nat} {z : Int} (h : w.cell? ⟨b, o, none⟩ = some (.int .i64 z)) : (Instr.loadAt 3 (.pointer (some ⟨b, o, none⟩))).run Tryz.prog w = .ok (.int .i64 z) w := by
  go_simp
theorem c9 : Tryz.prog.cellsOf 156 = 9 := by kernel_rfl
theorem b0 : byteOfCell Tryz.prog Tryz.prog.depth 156 0 = some 0 := by kernel_rfl
theorem b6 : byteOfCell Tryz.prog Tryz.prog.depth 156 6 = some 48 := by kernel_rfl
theorem byte_at (b o n : Nat) (ho : o < 9) (w : World) (vs : Array Value) (h : w.heap[b]? = some (.cells vs 156 (0, 0))) (hb : byteOfCell Tryz.prog Tryz.prog.depth 156 o = some n) :
    (byteOf ⟨b, o, none⟩).run Tryz.prog w = .ok n w := by
  have h1 : o % 9 = o := Nat.mod_eq_of_lt ho
  have h2 : o / 9 = 0 := Nat.div_eq_of_lt ho
  simp [byteOf, noView, viewAt, shape, World.shape?, Sem.run_bind, h, c9, h1, h2, hb, Result.andThen, Sem.run, program]
/-- Where a field without cells lies. -/
theorem at_unit {b : Nat} {w : World} {vs : Array Value} (h : w.heap[b]? = some (.cells vs 156 (0, 0))) : (Instr.fieldAt 156 (.pointer (some ⟨b, 0, none⟩)) 1).run Tryz.prog w = .ok (.pointer (some ⟨b, 6, none⟩)) w := by
  have h0 := byte_at b 0 0 (by decide) w vs h b0
  have h6 := byte_at b 6 48 (by decide) w vs h b6
  go_simp
  unfold partAt
  simp [Sem.run_bind, h0, h6, Result.andThen]
theorem tn_fld {P : Program} {l : List Oper} {i : Nat} {o : Oper} {r : Sch.Tn} {a : Act} {w : World} {Q : Exit → Act → World → Prop} {S : World → Prop} (t : TypeId) (x : Operand) (f : Nat) (ad v : Value) (a' : Act) (ho : Sch.nth l i = some o) (hop : o.op = .fieldAddr t x f) (hw : Region.wanted o (yielded l.toArray a.tmps) = true) (hx : a.eval x = ad)
    (hr : ∀ w, S w → (Instr.fieldAt t ad f).run P w = .ok v w) (he : a.put o.dst v = a') (h : Sch.heldN P l.toArray Q S r a' w) : Sch.heldN P l.toArray Q S (.val i r) a w := by
  subst he
  subst hx
  unfold Sch.heldN Sch.stepV
  simp only [Sch.nth_at, ho]
  rw [if_pos hw]
  refine ⟨_, fun w' hS => ?_, h⟩
  unfold execOp
  rw [hop]
  simp only [Sem.run_bind, hr w' hS, Result.andThen_ok]
  rfl
theorem load_unit (p : Addr) (w : World) : (Instr.loadAt 138 (.pointer (some p))).run Tryz.prog w = .ok (.agg #[]) w := by
  have hz : ∀ w, (Go.sizeOf 138).run Tryz.prog w = .ok 0 w := fun w => by kernel_rfl
  have ha : ∀ w, (isAgg 138).run Tryz.prog w = .ok true w := fun w => by kernel_rfl
  go_simp
theorem load_tree {w : World} {b o : Nat} {z : Option Addr} (h : w.cell? ⟨b, o, none⟩ = some (.pointer z)) : (Instr.loadAt 146 (.pointer (some ⟨b, o, none⟩))).run Tryz.prog w = .ok (.pointer z) w := by
  go_simp

set_option maxRecDepth 100000 in
set_option maxHeartbeats 1000000 in
theorem len_any (t : Tr) (w : World) (h : t.In w) : Calls Tryz.prog 132 #[.pointer t.ad] w fun e w' => e = .returned (.int .i64 (t.len : Int)) ∧ w' = w := by
  cases t with
  | nil =>
    rw [Tr.len_nil]
    simp only [Tr.ad]
    clear h
    go_enter Tryz.func132, Tryz.ntmps132
    go_wp2_with fail
    go_ret
    exact ⟨rfl, rfl⟩
  | node b k l r =>
    rw [Tr.len_node]
    simp only [Tr.ad]
    have k4 := h.1.cs
    clear h
    generalize l.len + 1 + r.len = n at *
    go_enter Tryz.func132, Tryz.ntmps132
    go_wp2_with fail
    go_ret
    exact ⟨rfl, rfl⟩
set_option maxRecDepth 100000 in
set_option maxHeartbeats 1000000 in
theorem weight_any (t : Tr) (w : World) (h : t.In w) (hs : t.len ≤ 1000000) : Calls Tryz.prog 142 #[.pointer t.ad] w fun e w' => e = .returned (.int .i64 ((t.len : Int) + 1)) ∧ w' = w := by
  have HL := Lib.hid (len_any t w h)
  clear h
  have h5 : (t.len : Int) ≤ 1000000 := by omega
  clear hs
  generalize t.len = n at *
  generalize t.ad = a at *
  go_enter Tryz.func142, Tryz.ntmps142
  go_wp2_with fail
  refine HL.out.mono ?_
  rintro e w1 ⟨rfl, rfl⟩
  go_wp2_with fail
  go_ret
  exact ⟨rfl, rfl⟩

end Go.Proofs.YtkcbekebleodaaaGreat.Un
end

/-
  Trees of entries: over, the two ways to turn a tree, balanced.
-/
section
namespace Go.Proofs.YtkcbekebleodaaaGreat.Un
set_option linter.unusedVariables false
open Go.RowKit V D Nd Qs Wk

/-- What the loads of a node's cells yield. -/
theorem nd_k {b n : Nat} {k : Nt} {l r : Option Addr} {w : World} (h : Nn w b k l r n) : (Instr.loadAt 53 (.pointer (some ⟨b, 0, none⟩))).run Tryz.prog w = .ok (nv k) w := h.nb.load
theorem nd_l {b n : Nat} {k : Nt} {l r : Option Addr} {w : World} (h : Nn w b k l r n) : (Instr.loadAt 146 (.pointer (some ⟨b, 6, none⟩))).run Tryz.prog w = .ok (.pointer l) w := load_tree h.cl
theorem nd_r {b n : Nat} {k : Nt} {l r : Option Addr} {w : World} (h : Nn w b k l r n) : (Instr.loadAt 146 (.pointer (some ⟨b, 7, none⟩))).run Tryz.prog w = .ok (.pointer r) w := load_tree h.cr
/-- A class of worlds: one tree is there. -/
def Sx (t l r : Tr) (w : World) : Prop := t.In w ∧ l.In w ∧ r.In w
theorem Sx.keep {t l r : Tr} {w w' : World} (h : Sx t l r w) (hb : Below w.heap.size w w') : Sx t l r w' := ⟨h.1.keep hb, h.2.1.keep hb, h.2.2.keep hb⟩

set_option maxRecDepth 100000 in
set_option maxHeartbeats 1000000 in
theorem over_any (b : Nat) (k : Nt) (tl tr l r : Tr) (w : World) (h : (Tr.node b k tl tr).In w) (hl : l.In w) (hr : r.In w) (hs : l.len + r.len ≤ 1000000) :
    Calls Tryz.prog 133 #[.pointer (some ⟨b, 0, none⟩), .pointer l.ad, .pointer r.ad] w fun e w' => ∃ b', e = .returned (.pointer (some ⟨b', 0, none⟩)) ∧ w.heap.size ≤ b' ∧ (Tr.node b' k l r).In w' ∧ Below w.heap.size w w' := by
  have HS : Hid (Sx (.node b k tl tr) l r w.drew) := ⟨h.drew, hl.drew, hr.drew⟩
  have HL := Lib.hid (fun (w : World) (h : l.In w) => len_any l w h)
  have HR := Lib.hid (fun (w : World) (h : r.In w) => len_any r w h)
  have HB : Hid (Below w.heap.size w w.drew) := (Below.refl _ w).drew
  have h5 : (l.len : Int) ≤ 1000000 := by omega
  have h6 : (r.len : Int) ≤ 1000000 := by omega
  clear h hl hr hs
  have HK : ∀ w, Sx (.node b k tl tr) l r w → _ := fun w h => nd_k (w := w) h.1.1
  have HV : ∀ w, Sx (.node b k tl tr) l r w → _ := fun w h => load_unit ⟨b, 6, none⟩ w
  have HU := Lib.hid (fun (w : World) (h : Sx (.node b k tl tr) l r w) => at_unit (w := w) h.1.1)
  have HK := Lib.hid HK
  have HV := Lib.hid HV
  rename_i HK0 HV0
  clear HK0 HV0
  go_enter Tryz.func133, Tryz.ntmps133
  go_wp2_with fail
  refine Sch.wp_region_tn (Sx (.node b k tl tr) l r) (.val 0 (.val 1 (.val 2 (.val 3 (.val 4 (.val 5 (.val 6 (.val 7 (.val 8 (.val 9 (.val 10 (.val 13 (.one 11 (.val 12 (.one 14 (.val 15 (.one 16 (.one 17 (.val 18 .done))))))))))))))))))) (by kernel_rfl) (by kernel_rfl) HS.out ?_
  repeat (first
    | (refine Sch.tn_q rfl rfl rfl (fun K hK => ?_); go_big_quiet_op; (first | refine hK _ ?_ | refine ⟨_, fun _ _ => rfl, hK _ ?_⟩); clear hK K)
    | (refine Sch.tn_chk _ _ _ rfl rfl rfl rfl rfl ?_; simp only [Act.put, List.setIfInBounds_toArray, List.set_cons_zero, List.set_cons_succ])
    | (refine Sch.tn_load _ _ _ _ _ rfl rfl rfl rfl (by first | exact HK.out | exact HV.out) rfl ?_; simp only [Act.put, List.setIfInBounds_toArray, List.set_cons_zero, List.set_cons_succ])
    | (refine tn_fld _ _ _ _ _ _ rfl rfl rfl rfl (by first | exact HU.out) rfl ?_; simp only [Act.put, List.setIfInBounds_toArray, List.set_cons_zero, List.set_cons_succ]))
  clear HK HV HU
  generalize w.drew = w0 at *
  refine Sch.tn_e rfl rfl (fun K hK => ?_)
  go_wp2_with fail
  refine (HL.out _ HS.out.2.1).mono ?_
  rintro e w1 ⟨rfl, rfl⟩
  refine hK _ _ HS.out ?_
  clear hK K
  repeat (first
    | (refine Sch.tn_q rfl rfl rfl (fun K hK => ?_); go_big_quiet_op; (first | refine hK _ ?_ | refine ⟨_, fun _ _ => rfl, hK _ ?_⟩); clear hK K)
    | (refine Sch.tn_chk _ _ _ rfl rfl rfl rfl rfl ?_; simp only [Act.put, List.setIfInBounds_toArray, List.set_cons_zero, List.set_cons_succ]))
  refine Sch.tn_e rfl rfl (fun K hK => ?_)
  go_wp2_with fail
  refine (HR.out _ HS.out.2.2).mono ?_
  rintro e w1 ⟨rfl, rfl⟩
  refine hK _ _ HS.out ?_
  clear hK K
  repeat (first
    | (refine Sch.tn_q rfl rfl rfl (fun K hK => ?_); go_big_quiet_op; (first | refine hK _ ?_ | refine ⟨_, fun _ _ => rfl, hK _ ?_⟩); clear hK K)
    | (refine Sch.tn_chk _ _ _ rfl rfl rfl rfl rfl ?_; simp only [Act.put, List.setIfInBounds_toArray, List.set_cons_zero, List.set_cons_succ]))
  refine Sch.tn_e rfl rfl (fun K hK => ?_)
  go_wp2_with fail
  refine hK _ _ HS.out ?_
  clear hK K
  refine Sch.tn_e rfl rfl (fun K hK => ?_)
  go_wp2_with fail
  refine hK _ _ (HS.out.keep (bel_box _ _)) ?_
  clear hK K
  repeat (first
    | (refine Sch.tn_q rfl rfl rfl (fun K hK => ?_); go_big_quiet_op; (first | refine hK _ ?_ | refine ⟨_, fun _ _ => rfl, hK _ ?_⟩); clear hK K)
    | (refine Sch.tn_chk _ _ _ rfl rfl rfl rfl rfl ?_; simp only [Act.put, List.setIfInBounds_toArray, List.set_cons_zero, List.set_cons_succ]))
  refine Sch.tn_n ?_
  go_wp2_with fail
  go_ret
  exact ⟨_, rfl, HB.out.size, ⟨nd_new w1 k l.ad r.ad _ _ (by omega), HS.out.2.1.keep (bel_box _ _), HS.out.2.2.keep (bel_box _ _)⟩, HB.out.alloc HB.out.size _⟩
/-- What a tree that is made anew is like: the entries are these, on top is one. -/
def Made (w : World) (e : Ending) (w' : World) (L : List Nt) : Prop := ∃ b k l r, e = .returned (.pointer (some ⟨b, 0, none⟩)) ∧ (Tr.node b k l r).In w' ∧ (Tr.node b k l r).list = L ∧ Below w.heap.size w w'

set_option maxRecDepth 100000 in
set_option maxHeartbeats 1000000 in
theorem leftUp_any (b : Nat) (k : Nt) (b2 : Nat) (k2 : Nt) (l2 r2 r : Tr) (w : World) (h : (Tr.node b k (.node b2 k2 l2 r2) r).In w) (hs : (Tr.node b k (.node b2 k2 l2 r2) r).len ≤ 1000000) :
    Calls Tryz.prog 143 #[.pointer (some ⟨b, 0, none⟩)] w fun e w' => Made w e w' (Tr.node b k (.node b2 k2 l2 r2) r).list := by
  have e : (Tr.node b k (.node b2 k2 l2 r2) r).list = l2.list ++ k2 :: (r2.list ++ k :: r.list) := by simp [Tr.list]
  rw [e]
  rw [Tr.len_node, Tr.len_node] at hs
  clear e
  have HS : Hid ((Tr.node b k (.node b2 k2 l2 r2) r).In w.drew) := h.drew
  have HB : Hid (Below w.heap.size w w.drew) := (Below.refl _ w).drew
  have O1 := Lib.hid (fun (w : World) (h : (Tr.node b k (.node b2 k2 l2 r2) r).In w) => over_any b k _ _ r2 r w h h.2.1.2.2 h.2.2 (by omega))
  have O2 := Lib.hid (fun (b' : Nat) (w : World) (h : (Tr.node b k (.node b2 k2 l2 r2) r).In w) (h' : (Tr.node b' k r2 r).In w) => over_any b2 k2 _ _ l2 (.node b' k r2 r) w h.2.1 h.2.1.2.1 h' (by rw [Tr.len_node]; omega))
  have L1 : ∀ w, (Tr.node b k (.node b2 k2 l2 r2) r).In w → _ := fun w h => nd_l (w := w) h.1
  have L2 : ∀ w, (Tr.node b k (.node b2 k2 l2 r2) r).In w → _ := fun w h => nd_l (w := w) h.2.1.1
  have L3 : ∀ w, (Tr.node b k (.node b2 k2 l2 r2) r).In w → _ := fun w h => nd_r (w := w) h.2.1.1
  have L4 : ∀ w, (Tr.node b k (.node b2 k2 l2 r2) r).In w → _ := fun w h => nd_r (w := w) h.1
  simp only [Tr.ad] at L1
  have M1 := Lib.hid L1
  have M2 := Lib.hid L2
  have M3 := Lib.hid L3
  have M4 := Lib.hid L4
  clear h hs L1 L2 L3 L4
  go_enter Tryz.func143, Tryz.ntmps143
  go_wp2_with fail
  refine Sch.wp_region_tn ((Tr.node b k (.node b2 k2 l2 r2) r).In) (.val 0 (.val 1 (.val 2 (.val 3 (.val 4 (.val 5 (.val 6 (.val 7 (.val 8 (.val 9 (.val 10 (.val 11 (.val 12 (.val 13 (.val 14 (.val 15 (.val 16 (.val 17 (.val 18 (.val 19 (.val 20 (.val 21 (.val 22 (.one 23 (.one 24 (.val 25 .done)))))))))))))))))))))))))) (by kernel_rfl) (by kernel_rfl) HS.out ?_
  repeat (first
    | (refine Sch.tn_q rfl rfl rfl (fun K hK => ?_); go_big_quiet_op; (first | refine hK _ ?_ | refine ⟨_, fun _ _ => rfl, hK _ ?_⟩); clear hK K)
    | (refine Sch.tn_chk _ _ _ rfl rfl rfl rfl rfl ?_; simp only [Act.put, List.setIfInBounds_toArray, List.set_cons_zero, List.set_cons_succ])
    | (refine Sch.tn_load _ _ _ _ _ rfl rfl rfl rfl (by first | exact M1.out | exact M2.out | exact M3.out | exact M4.out) rfl ?_; simp only [Act.put, List.setIfInBounds_toArray, List.set_cons_zero, List.set_cons_succ]))
  clear M1 M2 M3 M4
  generalize w.drew = w0 at *
  refine Sch.tn_e rfl rfl (fun K hK => ?_)
  go_wp2_with fail
  refine (O1.out _ HS.out).mono ?_
  rintro e w1 ⟨b', rfl, hb', hi, hbel⟩
  have HI := Lib.hid hi
  have HB1 : Hid (Below w.heap.size w w1) := HB.out.trans (hbel.mono HB.out.size)
  have HS1 : Hid ((Tr.node b k (.node b2 k2 l2 r2) r).In w1) := HS.out.keep hbel
  clear hi hbel hb' O1 HS HB
  refine hK _ _ HS1.out ?_
  clear hK K
  refine Sch.tn_e rfl rfl (fun K hK => ?_)
  go_wp2_with fail
  refine (O2.out _ _ HS1.out HI.out).mono ?_
  rintro e w2 ⟨b'', rfl, hb', hi, hbel⟩
  have HI2 := Lib.hid hi
  have HB2 : Hid (Below w.heap.size w w2) := HB1.out.trans (hbel.mono HB1.out.size)
  have HS2 : Hid ((Tr.node b k (.node b2 k2 l2 r2) r).In w2) := HS1.out.keep hbel
  clear hi hbel hb' O2
  refine hK _ _ HS2.out ?_
  clear hK K
  repeat (first
    | (refine Sch.tn_q rfl rfl rfl (fun K hK => ?_); go_big_quiet_op; (first | refine hK _ ?_ | refine ⟨_, fun _ _ => rfl, hK _ ?_⟩); clear hK K)
    | (refine Sch.tn_chk _ _ _ rfl rfl rfl rfl rfl ?_; simp only [Act.put, List.setIfInBounds_toArray, List.set_cons_zero, List.set_cons_succ]))
  refine Sch.tn_n ?_
  go_wp2_with fail
  go_ret
  exact ⟨_, _, _, _, rfl, HI2.out, rfl, HB2.out⟩

set_option maxRecDepth 100000 in
set_option maxHeartbeats 1000000 in
theorem rightUp_any (b : Nat) (k : Nt) (b2 : Nat) (k2 : Nt) (l l2 r2 : Tr) (w : World) (h : (Tr.node b k l (.node b2 k2 l2 r2)).In w) (hs : (Tr.node b k l (.node b2 k2 l2 r2)).len ≤ 1000000) :
    Calls Tryz.prog 144 #[.pointer (some ⟨b, 0, none⟩)] w fun e w' => Made w e w' (Tr.node b k l (.node b2 k2 l2 r2)).list := by
  have e : (Tr.node b k l (.node b2 k2 l2 r2)).list = (l.list ++ k :: l2.list) ++ k2 :: r2.list := by simp [Tr.list]
  rw [e]
  rw [Tr.len_node, Tr.len_node] at hs
  clear e
  have HS : Hid ((Tr.node b k l (.node b2 k2 l2 r2)).In w.drew) := h.drew
  have HB : Hid (Below w.heap.size w w.drew) := (Below.refl _ w).drew
  have O1 := Lib.hid (fun (w : World) (h : (Tr.node b k l (.node b2 k2 l2 r2)).In w) => over_any b k _ _ l l2 w h h.2.1 h.2.2.2.1 (by omega))
  have O2 := Lib.hid (fun (b' : Nat) (w : World) (h : (Tr.node b k l (.node b2 k2 l2 r2)).In w) (h' : (Tr.node b' k l l2).In w) => over_any b2 k2 _ _ (.node b' k l l2) r2 w h.2.2 h' h.2.2.2.2 (by rw [Tr.len_node]; omega))
  have L1 : ∀ w, (Tr.node b k l (.node b2 k2 l2 r2)).In w → _ := fun w h => nd_r (w := w) h.1
  have L2 : ∀ w, (Tr.node b k l (.node b2 k2 l2 r2)).In w → _ := fun w h => nd_l (w := w) h.2.2.1
  have L3 : ∀ w, (Tr.node b k l (.node b2 k2 l2 r2)).In w → _ := fun w h => nd_r (w := w) h.2.2.1
  have L4 : ∀ w, (Tr.node b k l (.node b2 k2 l2 r2)).In w → _ := fun w h => nd_l (w := w) h.1
  simp only [Tr.ad] at L1
  have M1 := Lib.hid L1
  have M2 := Lib.hid L2
  have M3 := Lib.hid L3
  have M4 := Lib.hid L4
  clear h hs L1 L2 L3 L4
  go_enter Tryz.func144, Tryz.ntmps144
  go_wp2_with fail
  refine Sch.wp_region_tn ((Tr.node b k l (.node b2 k2 l2 r2)).In) (.val 0 (.val 1 (.val 2 (.val 3 (.val 4 (.val 5 (.val 6 (.val 7 (.val 8 (.val 9 (.val 10 (.val 11 (.val 12 (.val 13 (.val 14 (.val 15 (.val 17 (.val 18 (.val 19 (.val 20 (.val 21 (.val 22 (.val 23 (.one 16 (.one 24 (.val 25 .done)))))))))))))))))))))))))) (by kernel_rfl) (by kernel_rfl) HS.out ?_
  repeat (first
    | (refine Sch.tn_q rfl rfl rfl (fun K hK => ?_); go_big_quiet_op; (first | refine hK _ ?_ | refine ⟨_, fun _ _ => rfl, hK _ ?_⟩); clear hK K)
    | (refine Sch.tn_chk _ _ _ rfl rfl rfl rfl rfl ?_; simp only [Act.put, List.setIfInBounds_toArray, List.set_cons_zero, List.set_cons_succ])
    | (refine Sch.tn_load _ _ _ _ _ rfl rfl rfl rfl (by first | exact M1.out | exact M2.out | exact M3.out | exact M4.out) rfl ?_; simp only [Act.put, List.setIfInBounds_toArray, List.set_cons_zero, List.set_cons_succ]))
  clear M1 M2 M3 M4
  generalize w.drew = w0 at *
  refine Sch.tn_e rfl rfl (fun K hK => ?_)
  go_wp2_with fail
  refine (O1.out _ HS.out).mono ?_
  rintro e w1 ⟨b', rfl, hb', hi, hbel⟩
  have HI := Lib.hid hi
  have HB1 : Hid (Below w.heap.size w w1) := HB.out.trans (hbel.mono HB.out.size)
  have HS1 : Hid ((Tr.node b k l (.node b2 k2 l2 r2)).In w1) := HS.out.keep hbel
  clear hi hbel hb' O1 HS HB
  refine hK _ _ HS1.out ?_
  clear hK K
  refine Sch.tn_e rfl rfl (fun K hK => ?_)
  go_wp2_with fail
  refine (O2.out _ _ HS1.out HI.out).mono ?_
  rintro e w2 ⟨b'', rfl, hb', hi, hbel⟩
  have HI2 := Lib.hid hi
  have HB2 : Hid (Below w.heap.size w w2) := HB1.out.trans (hbel.mono HB1.out.size)
  have HS2 : Hid ((Tr.node b k l (.node b2 k2 l2 r2)).In w2) := HS1.out.keep hbel
  clear hi hbel hb' O2
  refine hK _ _ HS2.out ?_
  clear hK K
  repeat (first
    | (refine Sch.tn_q rfl rfl rfl (fun K hK => ?_); go_big_quiet_op; (first | refine hK _ ?_ | refine ⟨_, fun _ _ => rfl, hK _ ?_⟩); clear hK K)
    | (refine Sch.tn_chk _ _ _ rfl rfl rfl rfl rfl ?_; simp only [Act.put, List.setIfInBounds_toArray, List.set_cons_zero, List.set_cons_succ]))
  refine Sch.tn_n ?_
  go_wp2_with fail
  go_ret
  exact ⟨_, _, _, _, rfl, HI2.out, rfl, HB2.out⟩
end Go.Proofs.YtkcbekebleodaaaGreat.Un
end

/-
  Trees of entries: balanced.
-/
section
namespace Go.Proofs.YtkcbekebleodaaaGreat.Un
set_option linter.unusedVariables false
open Go.RowKit V D Nd Qs Wk

theorem Made.trans {w w1 w2 : World} {e : Ending} {L : List Nt} (h : Below w.heap.size w w1) (k : Made w1 e w2 L) : Made w e w2 L := by
  obtain ⟨b, k1, l, r, he, hi, hl, hb⟩ := k
  exact ⟨b, k1, l, r, he, hi, hl, bel_tr h hb⟩
theorem Made.below {w w1 : World} {e : Ending} {L : List Nt} (h : Made w e w1 L) : Below w.heap.size w w1 := by
  obtain ⟨b, k1, l, r, he, hi, hl, hb⟩ := h
  exact hb
theorem len_eq {t u : Tr} (h : t.list = u.list) : t.len = u.len := congrArg List.length h
theorem list_node (b : Nat) (k : Nt) (l r : Tr) : (Tr.node b k l r).list = l.list ++ k :: r.list := rfl
theorem node_of_len {t : Tr} (h : 0 < t.len) : ∃ b k l r, t = .node b k l r := by
  cases t with
  | nil => simp [Tr.len_nil] at h
  | node b k l r => exact ⟨_, _, _, _, rfl⟩

set_option maxRecDepth 100000 in
set_option maxHeartbeats 2000000 in
theorem bal_no (b : Nat) (k : Nt) (l r : Tr) (w : World) (h : (Tr.node b k l r).In w) (hs : (Tr.node b k l r).len ≤ 1000000) (h1 : ¬ 3 * ((l.len : Int) + 1) < (r.len : Int) + 1) (h2 : ¬ 3 * ((r.len : Int) + 1) < (l.len : Int) + 1) :
    Calls Tryz.prog 134 #[.pointer (some ⟨b, 0, none⟩)] w fun e w' => Made w e w' (Tr.node b k l r).list := by
  have HT : Hid ((Tr.node b k l r).len ≤ 1000000) := hs
  rw [Tr.len_node] at hs
  have HS : Hid ((Tr.node b k l r).In w.drew) := h.drew
  have HB : Hid (Below w.heap.size w w.drew) := (Below.refl _ w).drew
  have L1 : ∀ w, (Tr.node b k l r).In w → _ := fun w h => nd_l (w := w) h.1
  have L2 : ∀ w, (Tr.node b k l r).In w → _ := fun w h => nd_r (w := w) h.1
  have WL := Lib.hid (fun (w : World) (h : (Tr.node b k l r).In w) => weight_any l w h.2.1 (by omega))
  have WR := Lib.hid (fun (w : World) (h : (Tr.node b k l r).In w) => weight_any r w h.2.2 (by omega))
  have s1 : ((l).len : Int) ≤ 1000000 := by omega
  have s2 : ((r).len : Int) ≤ 1000000 := by omega
  have M1 := Lib.hid L1
  have M2 := Lib.hid L2
  clear h hs L1 L2
  go_enter Tryz.func134, Tryz.ntmps134
  go_wp2_with fail
  refine Sch.wp_region_tn ((Tr.node b k l r).In) (.val 0 (.val 1 (.val 2 (.val 3 (.val 4 (.val 5 (.val 6 (.val 7 (.val 8 (.val 9 .done)))))))))) (by kernel_rfl) (by kernel_rfl) HS.out ?_
  repeat (first
    | (refine Sch.tn_q rfl rfl rfl (fun K hK => ?_); go_big_quiet_op; (first | refine hK _ ?_ | refine ⟨_, fun _ _ => rfl, hK _ ?_⟩); clear hK K)
    | (refine Sch.tn_chk _ _ _ rfl rfl rfl rfl rfl ?_; simp only [Act.put, List.setIfInBounds_toArray, List.set_cons_zero, List.set_cons_succ])
    | (refine Sch.tn_load _ _ _ _ _ rfl rfl rfl rfl (by first | exact M1.out | exact M2.out) rfl ?_; simp only [Act.put, List.setIfInBounds_toArray, List.set_cons_zero, List.set_cons_succ]))
  clear M1 M2
  generalize w.drew = w0 at *
  refine Sch.tn_n ?_
  go_wp2_with fail
  refine (WR.out _ HS.out).mono ?_
  rintro e w1 ⟨rfl, rfl⟩
  go_wp2_with fail
  refine (WL.out _ HS.out).mono ?_
  rintro e w1 ⟨rfl, rfl⟩
  go_wp2_with fail
  refine (WL.out _ HS.out).mono ?_
  rintro e w1 ⟨rfl, rfl⟩
  go_wp2_with fail
  refine (WR.out _ HS.out).mono ?_
  rintro e w1 ⟨rfl, rfl⟩
  go_wp2_with fail
  go_ret
  exact ⟨b, k, l, r, rfl, HS.out, rfl, HB.out⟩
set_option maxRecDepth 100000 in
set_option maxHeartbeats 2000000 in
theorem bal_r2 (b : Nat) (k : Nt) (b2 : Nat) (k2 : Nt) (l2 r2 l : Tr) (w : World) (h : (Tr.node b k l (Tr.node b2 k2 l2 r2)).In w) (hs : (Tr.node b k l (Tr.node b2 k2 l2 r2)).len ≤ 1000000) (h1 : 3 * ((l.len : Int) + 1) < ((Tr.node b2 k2 l2 r2).len : Int) + 1) (h2 : ¬ 2 * ((r2.len : Int) + 1) ≤ (l2.len : Int) + 1) :
    Calls Tryz.prog 134 #[.pointer (some ⟨b, 0, none⟩)] w fun e w' => Made w e w' (Tr.node b k l (Tr.node b2 k2 l2 r2)).list := by
  have HT : Hid ((Tr.node b k l (Tr.node b2 k2 l2 r2)).len ≤ 1000000) := hs
  rw [Tr.len_node] at hs
  have HS : Hid ((Tr.node b k l (Tr.node b2 k2 l2 r2)).In w.drew) := h.drew
  have HB : Hid (Below w.heap.size w w.drew) := (Below.refl _ w).drew
  have L1 : ∀ w, (Tr.node b k l (Tr.node b2 k2 l2 r2)).In w → _ := fun w h => nd_l (w := w) h.1
  have L2 : ∀ w, (Tr.node b k l (Tr.node b2 k2 l2 r2)).In w → _ := fun w h => nd_r (w := w) h.1
  have WL := Lib.hid (fun (w : World) (h : (Tr.node b k l (Tr.node b2 k2 l2 r2)).In w) => weight_any l w h.2.1 (by omega))
  have WR := Lib.hid (fun (w : World) (h : (Tr.node b k l (Tr.node b2 k2 l2 r2)).In w) => weight_any (Tr.node b2 k2 l2 r2) w h.2.2 (by omega))
  have s1 : ((l).len : Int) ≤ 1000000 := by omega
  have s2 : (((Tr.node b2 k2 l2 r2)).len : Int) ≤ 1000000 := by omega
  have s3 : (l2.len : Int) ≤ 1000000 := by rw [Tr.len_node] at s2; omega
  have s4 : (r2.len : Int) ≤ 1000000 := by rw [Tr.len_node] at s2; omega
  have L3 : ∀ w, (Tr.node b k l (Tr.node b2 k2 l2 r2)).In w → _ := fun w h => nd_l (w := w) h.2.2.1
  have L4 : ∀ w, (Tr.node b k l (Tr.node b2 k2 l2 r2)).In w → _ := fun w h => nd_r (w := w) h.2.2.1
  have WI := Lib.hid (fun (w : World) (h : (Tr.node b k l (Tr.node b2 k2 l2 r2)).In w) => weight_any l2 w h.2.2.2.1 (by omega))
  have WO := Lib.hid (fun (w : World) (h : (Tr.node b k l (Tr.node b2 k2 l2 r2)).In w) => weight_any r2 w h.2.2.2.2 (by omega))
  have RU := Lib.hid (fun (w : World) (h : (Tr.node b k l (Tr.node b2 k2 l2 r2)).In w) => rightUp_any b k b2 k2 l l2 r2 w h HT.out)
  try simp only [Tr.ad_node] at WL
  try simp only [Tr.ad_node] at WR
  try simp only [Tr.ad_node] at L1
  try simp only [Tr.ad_node] at L2
  try simp only [Tr.ad_node] at L3
  try simp only [Tr.ad_node] at L4
  try simp only [Tr.ad_node] at WI
  have M3 := Lib.hid L3
  have M4 := Lib.hid L4
  clear L3 L4
  have M1 := Lib.hid L1
  have M2 := Lib.hid L2
  clear h hs L1 L2
  go_enter Tryz.func134, Tryz.ntmps134
  go_wp2_with fail
  refine Sch.wp_region_tn ((Tr.node b k l (Tr.node b2 k2 l2 r2)).In) (.val 0 (.val 1 (.val 2 (.val 3 (.val 4 (.val 5 (.val 6 (.val 7 (.val 8 (.val 9 .done)))))))))) (by kernel_rfl) (by kernel_rfl) HS.out ?_
  repeat (first
    | (refine Sch.tn_q rfl rfl rfl (fun K hK => ?_); go_big_quiet_op; (first | refine hK _ ?_ | refine ⟨_, fun _ _ => rfl, hK _ ?_⟩); clear hK K)
    | (refine Sch.tn_chk _ _ _ rfl rfl rfl rfl rfl ?_; simp only [Act.put, List.setIfInBounds_toArray, List.set_cons_zero, List.set_cons_succ])
    | (refine Sch.tn_load _ _ _ _ _ rfl rfl rfl rfl (by first | exact M1.out | exact M2.out) rfl ?_; simp only [Act.put, List.setIfInBounds_toArray, List.set_cons_zero, List.set_cons_succ]))
  clear M1 M2
  generalize w.drew = w0 at *
  refine Sch.tn_n ?_
  go_wp2_with fail
  refine (WR.out _ HS.out).mono ?_
  rintro e w1 ⟨rfl, rfl⟩
  go_wp2_with fail
  refine (WL.out _ HS.out).mono ?_
  rintro e w1 ⟨rfl, rfl⟩
  go_wp2_with fail
  clear WL WR
  refine Sch.wp_region_tn ((Tr.node b k l (Tr.node b2 k2 l2 r2)).In) (.val 0 (.val 1 (.val 2 (.val 3 (.val 5 (.val 6 (.val 7 (.val 8 (.one 4 (.one 9 (.val 10 (.val 11 .done)))))))))))) (by kernel_rfl) (by kernel_rfl) HS.out.drew ?_
  repeat (first
    | (refine Sch.tn_q rfl rfl rfl (fun K hK => ?_); go_big_quiet_op; (first | refine hK _ ?_ | refine ⟨_, fun _ _ => rfl, hK _ ?_⟩); clear hK K)
    | (refine Sch.tn_chk _ _ _ rfl rfl rfl rfl rfl ?_; simp only [Act.put, List.setIfInBounds_toArray, List.set_cons_zero, List.set_cons_succ])
    | (refine Sch.tn_load _ _ _ _ _ rfl rfl rfl rfl (by first | exact M3.out | exact M4.out) rfl ?_; simp only [Act.put, List.setIfInBounds_toArray, List.set_cons_zero, List.set_cons_succ]))
  clear M3 M4
  replace HS : Hid ((Tr.node b k l (Tr.node b2 k2 l2 r2)).In w1.drew) := HS.out.drew
  replace HB : Hid (Below w.heap.size w w1.drew) := HB.out.drew
  generalize w1.drew = w2 at *
  refine Sch.tn_e rfl rfl (fun K hK => ?_)
  go_wp2_with fail
  refine (WI.out _ HS.out).mono ?_
  rintro e w3 ⟨rfl, rfl⟩
  refine hK _ _ HS.out ?_
  clear hK K
  refine Sch.tn_e rfl rfl (fun K hK => ?_)
  go_wp2_with fail
  refine (WO.out _ HS.out).mono ?_
  rintro e w3 ⟨rfl, rfl⟩
  refine hK _ _ HS.out ?_
  clear hK K
  repeat (first
    | (refine Sch.tn_q rfl rfl rfl (fun K hK => ?_); go_big_quiet_op; (first | refine hK _ ?_ | refine ⟨_, fun _ _ => rfl, hK _ ?_⟩); clear hK K)
    | (refine Sch.tn_chk _ _ _ rfl rfl rfl rfl rfl ?_; simp only [Act.put, List.setIfInBounds_toArray, List.set_cons_zero, List.set_cons_succ]))
  clear WI WO
  refine Sch.tn_n ?_
  go_wp2_with fail
  refine (RU.out _ HS.out).mono ?_
  rintro e w4 hm
  obtain ⟨b', k', l', r', rfl, hi, hl, hb⟩ := Made.trans HB.out hm
  have HI := Lib.hid hi
  have HL := Lib.hid hl
  have HB4 := Lib.hid hb
  clear hm hi hl hb
  go_wp2_with fail
  go_ret
  exact ⟨_, _, _, _, rfl, HI.out, HL.out, HB4.out⟩
set_option maxRecDepth 100000 in
set_option maxHeartbeats 2000000 in
theorem bal_r1 (b : Nat) (k : Nt) (b2 : Nat) (k2 : Nt) (b3 : Nat) (k3 : Nt) (l3 r3 r2 l : Tr) (w : World) (h : (Tr.node b k l (Tr.node b2 k2 (Tr.node b3 k3 l3 r3) r2)).In w) (hs : (Tr.node b k l (Tr.node b2 k2 (Tr.node b3 k3 l3 r3) r2)).len ≤ 1000000) (h1 : 3 * ((l.len : Int) + 1) < ((Tr.node b2 k2 (Tr.node b3 k3 l3 r3) r2).len : Int) + 1) (h2 : 2 * ((r2.len : Int) + 1) ≤ ((Tr.node b3 k3 l3 r3).len : Int) + 1) :
    Calls Tryz.prog 134 #[.pointer (some ⟨b, 0, none⟩)] w fun e w' => Made w e w' (Tr.node b k l (Tr.node b2 k2 (Tr.node b3 k3 l3 r3) r2)).list := by
  have HT : Hid ((Tr.node b k l (Tr.node b2 k2 (Tr.node b3 k3 l3 r3) r2)).len ≤ 1000000) := hs
  rw [Tr.len_node] at hs
  have HS : Hid ((Tr.node b k l (Tr.node b2 k2 (Tr.node b3 k3 l3 r3) r2)).In w.drew) := h.drew
  have HB : Hid (Below w.heap.size w w.drew) := (Below.refl _ w).drew
  have L1 : ∀ w, (Tr.node b k l (Tr.node b2 k2 (Tr.node b3 k3 l3 r3) r2)).In w → _ := fun w h => nd_l (w := w) h.1
  have L2 : ∀ w, (Tr.node b k l (Tr.node b2 k2 (Tr.node b3 k3 l3 r3) r2)).In w → _ := fun w h => nd_r (w := w) h.1
  have WL := Lib.hid (fun (w : World) (h : (Tr.node b k l (Tr.node b2 k2 (Tr.node b3 k3 l3 r3) r2)).In w) => weight_any l w h.2.1 (by omega))
  have WR := Lib.hid (fun (w : World) (h : (Tr.node b k l (Tr.node b2 k2 (Tr.node b3 k3 l3 r3) r2)).In w) => weight_any (Tr.node b2 k2 (Tr.node b3 k3 l3 r3) r2) w h.2.2 (by omega))
  have s1 : ((l).len : Int) ≤ 1000000 := by omega
  have s2 : (((Tr.node b2 k2 (Tr.node b3 k3 l3 r3) r2)).len : Int) ≤ 1000000 := by omega
  have s3 : ((Tr.node b3 k3 l3 r3).len : Int) ≤ 1000000 := by rw [Tr.len_node] at s2; omega
  have s4 : (r2.len : Int) ≤ 1000000 := by rw [Tr.len_node] at s2; omega
  have L3 : ∀ w, (Tr.node b k l (Tr.node b2 k2 (Tr.node b3 k3 l3 r3) r2)).In w → _ := fun w h => nd_l (w := w) h.2.2.1
  have L4 : ∀ w, (Tr.node b k l (Tr.node b2 k2 (Tr.node b3 k3 l3 r3) r2)).In w → _ := fun w h => nd_r (w := w) h.2.2.1
  have WI := Lib.hid (fun (w : World) (h : (Tr.node b k l (Tr.node b2 k2 (Tr.node b3 k3 l3 r3) r2)).In w) => weight_any (Tr.node b3 k3 l3 r3) w h.2.2.2.1 (by omega))
  have WO := Lib.hid (fun (w : World) (h : (Tr.node b k l (Tr.node b2 k2 (Tr.node b3 k3 l3 r3) r2)).In w) => weight_any r2 w h.2.2.2.2 (by omega))
  have LU := Lib.hid (fun (w : World) (h : (Tr.node b k l (Tr.node b2 k2 (Tr.node b3 k3 l3 r3) r2)).In w) => leftUp_any b2 k2 b3 k3 l3 r3 r2 w h.2.2 (by omega))
  have OV := Lib.hid (fun (c' : Nat) (ck : Nt) (cl cr : Tr) (w : World) (h : (Tr.node b k l (Tr.node b2 k2 (Tr.node b3 k3 l3 r3) r2)).In w) (hc : (Tr.node c' ck cl cr).In w) (he : (Tr.node c' ck cl cr).list = (Tr.node b2 k2 (Tr.node b3 k3 l3 r3) r2).list) =>
    over_any b k _ _ l (Tr.node c' ck cl cr) w h h.2.1 hc (by have e2 := len_eq he; omega))
  have RU := Lib.hid (fun (b' c' : Nat) (ck : Nt) (cl cr : Tr) (w : World) (h : (Tr.node b' k l (Tr.node c' ck cl cr)).In w) (he : (Tr.node c' ck cl cr).list = (Tr.node b2 k2 (Tr.node b3 k3 l3 r3) r2).list) =>
    rightUp_any b' k c' ck l cl cr w h (by have e2 := len_eq he; rw [Tr.len_node]; omega))
  try simp only [Tr.ad_node] at WL
  try simp only [Tr.ad_node] at WR
  try simp only [Tr.ad_node] at L1
  try simp only [Tr.ad_node] at L2
  try simp only [Tr.ad_node] at L3
  try simp only [Tr.ad_node] at L4
  try simp only [Tr.ad_node] at WI
  have M3 := Lib.hid L3
  have M4 := Lib.hid L4
  clear L3 L4
  have M1 := Lib.hid L1
  have M2 := Lib.hid L2
  clear h hs L1 L2
  go_enter Tryz.func134, Tryz.ntmps134
  go_wp2_with fail
  refine Sch.wp_region_tn ((Tr.node b k l (Tr.node b2 k2 (Tr.node b3 k3 l3 r3) r2)).In) (.val 0 (.val 1 (.val 2 (.val 3 (.val 4 (.val 5 (.val 6 (.val 7 (.val 8 (.val 9 .done)))))))))) (by kernel_rfl) (by kernel_rfl) HS.out ?_
  repeat (first
    | (refine Sch.tn_q rfl rfl rfl (fun K hK => ?_); go_big_quiet_op; (first | refine hK _ ?_ | refine ⟨_, fun _ _ => rfl, hK _ ?_⟩); clear hK K)
    | (refine Sch.tn_chk _ _ _ rfl rfl rfl rfl rfl ?_; simp only [Act.put, List.setIfInBounds_toArray, List.set_cons_zero, List.set_cons_succ])
    | (refine Sch.tn_load _ _ _ _ _ rfl rfl rfl rfl (by first | exact M1.out | exact M2.out) rfl ?_; simp only [Act.put, List.setIfInBounds_toArray, List.set_cons_zero, List.set_cons_succ]))
  clear M1 M2
  generalize w.drew = w0 at *
  refine Sch.tn_n ?_
  go_wp2_with fail
  refine (WR.out _ HS.out).mono ?_
  rintro e w1 ⟨rfl, rfl⟩
  go_wp2_with fail
  refine (WL.out _ HS.out).mono ?_
  rintro e w1 ⟨rfl, rfl⟩
  go_wp2_with fail
  clear WL WR
  refine Sch.wp_region_tn ((Tr.node b k l (Tr.node b2 k2 (Tr.node b3 k3 l3 r3) r2)).In) (.val 0 (.val 1 (.val 2 (.val 3 (.val 5 (.val 6 (.val 7 (.val 8 (.one 4 (.one 9 (.val 10 (.val 11 .done)))))))))))) (by kernel_rfl) (by kernel_rfl) HS.out.drew ?_
  repeat (first
    | (refine Sch.tn_q rfl rfl rfl (fun K hK => ?_); go_big_quiet_op; (first | refine hK _ ?_ | refine ⟨_, fun _ _ => rfl, hK _ ?_⟩); clear hK K)
    | (refine Sch.tn_chk _ _ _ rfl rfl rfl rfl rfl ?_; simp only [Act.put, List.setIfInBounds_toArray, List.set_cons_zero, List.set_cons_succ])
    | (refine Sch.tn_load _ _ _ _ _ rfl rfl rfl rfl (by first | exact M3.out | exact M4.out) rfl ?_; simp only [Act.put, List.setIfInBounds_toArray, List.set_cons_zero, List.set_cons_succ]))
  clear M3 M4
  replace HS : Hid ((Tr.node b k l (Tr.node b2 k2 (Tr.node b3 k3 l3 r3) r2)).In w1.drew) := HS.out.drew
  replace HB : Hid (Below w.heap.size w w1.drew) := HB.out.drew
  generalize w1.drew = w2 at *
  refine Sch.tn_e rfl rfl (fun K hK => ?_)
  go_wp2_with fail
  refine (WI.out _ HS.out).mono ?_
  rintro e w3 ⟨rfl, rfl⟩
  refine hK _ _ HS.out ?_
  clear hK K
  refine Sch.tn_e rfl rfl (fun K hK => ?_)
  go_wp2_with fail
  refine (WO.out _ HS.out).mono ?_
  rintro e w3 ⟨rfl, rfl⟩
  refine hK _ _ HS.out ?_
  clear hK K
  repeat (first
    | (refine Sch.tn_q rfl rfl rfl (fun K hK => ?_); go_big_quiet_op; (first | refine hK _ ?_ | refine ⟨_, fun _ _ => rfl, hK _ ?_⟩); clear hK K)
    | (refine Sch.tn_chk _ _ _ rfl rfl rfl rfl rfl ?_; simp only [Act.put, List.setIfInBounds_toArray, List.set_cons_zero, List.set_cons_succ]))
  clear WI WO
  refine Sch.tn_n ?_
  go_wp2_with fail
  refine (LU.out _ HS.out).mono ?_
  rintro e w4 hm
  obtain ⟨c', ck, cl, cr, rfl, hc, hl, hb⟩ := hm
  have HC := Lib.hid hc
  have HL := Lib.hid hl
  replace HB : Hid (Below w.heap.size w w4) := bel_tr HB.out hb
  replace HS : Hid ((Tr.node b k l (Tr.node b2 k2 (Tr.node b3 k3 l3 r3) r2)).In w4) := HS.out.keep hb
  clear hc hl hb LU
  have OW := Lib.hid (OV.out _ _ _ _ _ HS.out HC.out HL.out)
  try simp only [Tr.ad_node] at OW
  clear OV
  go_wp2_with fail
  refine OW.out.mono ?_
  rintro e w5 ⟨b', rfl, -, hi, hb⟩
  have HI := Lib.hid hi
  replace HB : Hid (Below w.heap.size w w5) := bel_tr HB.out hb
  clear hi hb OW HC HS
  go_wp2_with fail
  refine (RU.out _ _ _ _ _ _ HI.out HL.out).mono ?_
  rintro e w6 hm
  obtain ⟨b'', k', l', r', rfl, hi, hl, hb⟩ := Made.trans HB.out hm
  have HI := Lib.hid hi
  have HL2 := Lib.hid hl
  have HB4 := Lib.hid hb
  clear hm hi hl hb
  go_wp2_with fail
  go_ret
  refine ⟨_, _, _, _, rfl, HI.out, ?_, HB4.out⟩
  have e2 := HL.out
  rw [HL2.out, list_node b', e2, list_node b]
set_option maxRecDepth 100000 in
set_option maxHeartbeats 2000000 in
theorem bal_l2 (b : Nat) (k : Nt) (b2 : Nat) (k2 : Nt) (l2 r2 r : Tr) (w : World) (h : (Tr.node b k (Tr.node b2 k2 l2 r2) r).In w) (hs : (Tr.node b k (Tr.node b2 k2 l2 r2) r).len ≤ 1000000) (h1 : 3 * ((r.len : Int) + 1) < ((Tr.node b2 k2 l2 r2).len : Int) + 1) (h2 : ¬ 2 * ((l2.len : Int) + 1) ≤ (r2.len : Int) + 1) :
    Calls Tryz.prog 134 #[.pointer (some ⟨b, 0, none⟩)] w fun e w' => Made w e w' (Tr.node b k (Tr.node b2 k2 l2 r2) r).list := by
  have HT : Hid ((Tr.node b k (Tr.node b2 k2 l2 r2) r).len ≤ 1000000) := hs
  rw [Tr.len_node] at hs
  have HS : Hid ((Tr.node b k (Tr.node b2 k2 l2 r2) r).In w.drew) := h.drew
  have HB : Hid (Below w.heap.size w w.drew) := (Below.refl _ w).drew
  have L1 : ∀ w, (Tr.node b k (Tr.node b2 k2 l2 r2) r).In w → _ := fun w h => nd_l (w := w) h.1
  have L2 : ∀ w, (Tr.node b k (Tr.node b2 k2 l2 r2) r).In w → _ := fun w h => nd_r (w := w) h.1
  have WL := Lib.hid (fun (w : World) (h : (Tr.node b k (Tr.node b2 k2 l2 r2) r).In w) => weight_any (Tr.node b2 k2 l2 r2) w h.2.1 (by omega))
  have WR := Lib.hid (fun (w : World) (h : (Tr.node b k (Tr.node b2 k2 l2 r2) r).In w) => weight_any r w h.2.2 (by omega))
  have s1 : (((Tr.node b2 k2 l2 r2)).len : Int) ≤ 1000000 := by omega
  have s2 : ((r).len : Int) ≤ 1000000 := by omega
  have s3 : (r2.len : Int) ≤ 1000000 := by rw [Tr.len_node] at s1; omega
  have s4 : (l2.len : Int) ≤ 1000000 := by rw [Tr.len_node] at s1; omega
  have L3 : ∀ w, (Tr.node b k (Tr.node b2 k2 l2 r2) r).In w → _ := fun w h => nd_l (w := w) h.2.1.1
  have L4 : ∀ w, (Tr.node b k (Tr.node b2 k2 l2 r2) r).In w → _ := fun w h => nd_r (w := w) h.2.1.1
  have WI := Lib.hid (fun (w : World) (h : (Tr.node b k (Tr.node b2 k2 l2 r2) r).In w) => weight_any r2 w h.2.1.2.2 (by omega))
  have WO := Lib.hid (fun (w : World) (h : (Tr.node b k (Tr.node b2 k2 l2 r2) r).In w) => weight_any l2 w h.2.1.2.1 (by omega))
  have RU := Lib.hid (fun (w : World) (h : (Tr.node b k (Tr.node b2 k2 l2 r2) r).In w) => leftUp_any b k b2 k2 l2 r2 r w h HT.out)
  try simp only [Tr.ad_node] at WL
  try simp only [Tr.ad_node] at WR
  try simp only [Tr.ad_node] at L1
  try simp only [Tr.ad_node] at L2
  try simp only [Tr.ad_node] at L3
  try simp only [Tr.ad_node] at L4
  try simp only [Tr.ad_node] at WI
  have M3 := Lib.hid L3
  have M4 := Lib.hid L4
  clear L3 L4
  have M1 := Lib.hid L1
  have M2 := Lib.hid L2
  clear h hs L1 L2
  go_enter Tryz.func134, Tryz.ntmps134
  go_wp2_with fail
  refine Sch.wp_region_tn ((Tr.node b k (Tr.node b2 k2 l2 r2) r).In) (.val 0 (.val 1 (.val 2 (.val 3 (.val 4 (.val 5 (.val 6 (.val 7 (.val 8 (.val 9 .done)))))))))) (by kernel_rfl) (by kernel_rfl) HS.out ?_
  repeat (first
    | (refine Sch.tn_q rfl rfl rfl (fun K hK => ?_); go_big_quiet_op; (first | refine hK _ ?_ | refine ⟨_, fun _ _ => rfl, hK _ ?_⟩); clear hK K)
    | (refine Sch.tn_chk _ _ _ rfl rfl rfl rfl rfl ?_; simp only [Act.put, List.setIfInBounds_toArray, List.set_cons_zero, List.set_cons_succ])
    | (refine Sch.tn_load _ _ _ _ _ rfl rfl rfl rfl (by first | exact M1.out | exact M2.out) rfl ?_; simp only [Act.put, List.setIfInBounds_toArray, List.set_cons_zero, List.set_cons_succ]))
  clear M1 M2
  generalize w.drew = w0 at *
  refine Sch.tn_n ?_
  go_wp2_with fail
  refine (WR.out _ HS.out).mono ?_
  rintro e w1 ⟨rfl, rfl⟩
  go_wp2_with fail
  refine (WL.out _ HS.out).mono ?_
  rintro e w1 ⟨rfl, rfl⟩
  go_wp2_with fail
  refine (WL.out _ HS.out).mono ?_
  rintro e w1 ⟨rfl, rfl⟩
  go_wp2_with fail
  refine (WR.out _ HS.out).mono ?_
  rintro e w1 ⟨rfl, rfl⟩
  go_wp2_with fail
  clear WL WR
  refine Sch.wp_region_tn ((Tr.node b k (Tr.node b2 k2 l2 r2) r).In) (.val 0 (.val 1 (.val 2 (.val 3 (.val 5 (.val 6 (.val 7 (.val 8 (.one 4 (.one 9 (.val 10 (.val 11 .done)))))))))))) (by kernel_rfl) (by kernel_rfl) HS.out.drew ?_
  repeat (first
    | (refine Sch.tn_q rfl rfl rfl (fun K hK => ?_); go_big_quiet_op; (first | refine hK _ ?_ | refine ⟨_, fun _ _ => rfl, hK _ ?_⟩); clear hK K)
    | (refine Sch.tn_chk _ _ _ rfl rfl rfl rfl rfl ?_; simp only [Act.put, List.setIfInBounds_toArray, List.set_cons_zero, List.set_cons_succ])
    | (refine Sch.tn_load _ _ _ _ _ rfl rfl rfl rfl (by first | exact M3.out | exact M4.out) rfl ?_; simp only [Act.put, List.setIfInBounds_toArray, List.set_cons_zero, List.set_cons_succ]))
  clear M3 M4
  replace HS : Hid ((Tr.node b k (Tr.node b2 k2 l2 r2) r).In w1.drew) := HS.out.drew
  replace HB : Hid (Below w.heap.size w w1.drew) := HB.out.drew
  generalize w1.drew = w2 at *
  refine Sch.tn_e rfl rfl (fun K hK => ?_)
  go_wp2_with fail
  refine (WI.out _ HS.out).mono ?_
  rintro e w3 ⟨rfl, rfl⟩
  refine hK _ _ HS.out ?_
  clear hK K
  refine Sch.tn_e rfl rfl (fun K hK => ?_)
  go_wp2_with fail
  refine (WO.out _ HS.out).mono ?_
  rintro e w3 ⟨rfl, rfl⟩
  refine hK _ _ HS.out ?_
  clear hK K
  repeat (first
    | (refine Sch.tn_q rfl rfl rfl (fun K hK => ?_); go_big_quiet_op; (first | refine hK _ ?_ | refine ⟨_, fun _ _ => rfl, hK _ ?_⟩); clear hK K)
    | (refine Sch.tn_chk _ _ _ rfl rfl rfl rfl rfl ?_; simp only [Act.put, List.setIfInBounds_toArray, List.set_cons_zero, List.set_cons_succ]))
  clear WI WO
  refine Sch.tn_n ?_
  go_wp2_with fail
  refine (RU.out _ HS.out).mono ?_
  rintro e w4 hm
  obtain ⟨b', k', l', r', rfl, hi, hl, hb⟩ := Made.trans HB.out hm
  have HI := Lib.hid hi
  have HL := Lib.hid hl
  have HB4 := Lib.hid hb
  clear hm hi hl hb
  go_wp2_with fail
  go_ret
  exact ⟨_, _, _, _, rfl, HI.out, HL.out, HB4.out⟩
set_option maxRecDepth 100000 in
set_option maxHeartbeats 2000000 in
theorem bal_l1 (b : Nat) (k : Nt) (b2 : Nat) (k2 : Nt) (b3 : Nat) (k3 : Nt) (l3 r3 l2 r : Tr) (w : World) (h : (Tr.node b k (Tr.node b2 k2 l2 (Tr.node b3 k3 l3 r3)) r).In w) (hs : (Tr.node b k (Tr.node b2 k2 l2 (Tr.node b3 k3 l3 r3)) r).len ≤ 1000000) (h1 : 3 * ((r.len : Int) + 1) < ((Tr.node b2 k2 l2 (Tr.node b3 k3 l3 r3)).len : Int) + 1) (h2 : 2 * ((l2.len : Int) + 1) ≤ ((Tr.node b3 k3 l3 r3).len : Int) + 1) :
    Calls Tryz.prog 134 #[.pointer (some ⟨b, 0, none⟩)] w fun e w' => Made w e w' (Tr.node b k (Tr.node b2 k2 l2 (Tr.node b3 k3 l3 r3)) r).list := by
  have HT : Hid ((Tr.node b k (Tr.node b2 k2 l2 (Tr.node b3 k3 l3 r3)) r).len ≤ 1000000) := hs
  rw [Tr.len_node] at hs
  have HS : Hid ((Tr.node b k (Tr.node b2 k2 l2 (Tr.node b3 k3 l3 r3)) r).In w.drew) := h.drew
  have HB : Hid (Below w.heap.size w w.drew) := (Below.refl _ w).drew
  have L1 : ∀ w, (Tr.node b k (Tr.node b2 k2 l2 (Tr.node b3 k3 l3 r3)) r).In w → _ := fun w h => nd_l (w := w) h.1
  have L2 : ∀ w, (Tr.node b k (Tr.node b2 k2 l2 (Tr.node b3 k3 l3 r3)) r).In w → _ := fun w h => nd_r (w := w) h.1
  have WL := Lib.hid (fun (w : World) (h : (Tr.node b k (Tr.node b2 k2 l2 (Tr.node b3 k3 l3 r3)) r).In w) => weight_any (Tr.node b2 k2 l2 (Tr.node b3 k3 l3 r3)) w h.2.1 (by omega))
  have WR := Lib.hid (fun (w : World) (h : (Tr.node b k (Tr.node b2 k2 l2 (Tr.node b3 k3 l3 r3)) r).In w) => weight_any r w h.2.2 (by omega))
  have s1 : (((Tr.node b2 k2 l2 (Tr.node b3 k3 l3 r3))).len : Int) ≤ 1000000 := by omega
  have s2 : ((r).len : Int) ≤ 1000000 := by omega
  have s3 : ((Tr.node b3 k3 l3 r3).len : Int) ≤ 1000000 := by rw [Tr.len_node] at s1; omega
  have s4 : (l2.len : Int) ≤ 1000000 := by rw [Tr.len_node] at s1; omega
  have L3 : ∀ w, (Tr.node b k (Tr.node b2 k2 l2 (Tr.node b3 k3 l3 r3)) r).In w → _ := fun w h => nd_l (w := w) h.2.1.1
  have L4 : ∀ w, (Tr.node b k (Tr.node b2 k2 l2 (Tr.node b3 k3 l3 r3)) r).In w → _ := fun w h => nd_r (w := w) h.2.1.1
  have WI := Lib.hid (fun (w : World) (h : (Tr.node b k (Tr.node b2 k2 l2 (Tr.node b3 k3 l3 r3)) r).In w) => weight_any (Tr.node b3 k3 l3 r3) w h.2.1.2.2 (by omega))
  have WO := Lib.hid (fun (w : World) (h : (Tr.node b k (Tr.node b2 k2 l2 (Tr.node b3 k3 l3 r3)) r).In w) => weight_any l2 w h.2.1.2.1 (by omega))
  have LU := Lib.hid (fun (w : World) (h : (Tr.node b k (Tr.node b2 k2 l2 (Tr.node b3 k3 l3 r3)) r).In w) => rightUp_any b2 k2 b3 k3 l2 l3 r3 w h.2.1 (by omega))
  have OV := Lib.hid (fun (c' : Nat) (ck : Nt) (cl cr : Tr) (w : World) (h : (Tr.node b k (Tr.node b2 k2 l2 (Tr.node b3 k3 l3 r3)) r).In w) (hc : (Tr.node c' ck cl cr).In w) (he : (Tr.node c' ck cl cr).list = (Tr.node b2 k2 l2 (Tr.node b3 k3 l3 r3)).list) =>
    over_any b k _ _ (Tr.node c' ck cl cr) r w h hc h.2.2 (by have e2 := len_eq he; omega))
  have RU := Lib.hid (fun (b' c' : Nat) (ck : Nt) (cl cr : Tr) (w : World) (h : (Tr.node b' k (Tr.node c' ck cl cr) r).In w) (he : (Tr.node c' ck cl cr).list = (Tr.node b2 k2 l2 (Tr.node b3 k3 l3 r3)).list) =>
    leftUp_any b' k c' ck cl cr r w h (by have e2 := len_eq he; rw [Tr.len_node]; omega))
  try simp only [Tr.ad_node] at WL
  try simp only [Tr.ad_node] at WR
  try simp only [Tr.ad_node] at L1
  try simp only [Tr.ad_node] at L2
  try simp only [Tr.ad_node] at L3
  try simp only [Tr.ad_node] at L4
  try simp only [Tr.ad_node] at WI
  have M3 := Lib.hid L3
  have M4 := Lib.hid L4
  clear L3 L4
  have M1 := Lib.hid L1
  have M2 := Lib.hid L2
  clear h hs L1 L2
  go_enter Tryz.func134, Tryz.ntmps134
  go_wp2_with fail
  refine Sch.wp_region_tn ((Tr.node b k (Tr.node b2 k2 l2 (Tr.node b3 k3 l3 r3)) r).In) (.val 0 (.val 1 (.val 2 (.val 3 (.val 4 (.val 5 (.val 6 (.val 7 (.val 8 (.val 9 .done)))))))))) (by kernel_rfl) (by kernel_rfl) HS.out ?_
  repeat (first
    | (refine Sch.tn_q rfl rfl rfl (fun K hK => ?_); go_big_quiet_op; (first | refine hK _ ?_ | refine ⟨_, fun _ _ => rfl, hK _ ?_⟩); clear hK K)
    | (refine Sch.tn_chk _ _ _ rfl rfl rfl rfl rfl ?_; simp only [Act.put, List.setIfInBounds_toArray, List.set_cons_zero, List.set_cons_succ])
    | (refine Sch.tn_load _ _ _ _ _ rfl rfl rfl rfl (by first | exact M1.out | exact M2.out) rfl ?_; simp only [Act.put, List.setIfInBounds_toArray, List.set_cons_zero, List.set_cons_succ]))
  clear M1 M2
  generalize w.drew = w0 at *
  refine Sch.tn_n ?_
  go_wp2_with fail
  refine (WR.out _ HS.out).mono ?_
  rintro e w1 ⟨rfl, rfl⟩
  go_wp2_with fail
  refine (WL.out _ HS.out).mono ?_
  rintro e w1 ⟨rfl, rfl⟩
  go_wp2_with fail
  refine (WL.out _ HS.out).mono ?_
  rintro e w1 ⟨rfl, rfl⟩
  go_wp2_with fail
  refine (WR.out _ HS.out).mono ?_
  rintro e w1 ⟨rfl, rfl⟩
  go_wp2_with fail
  clear WL WR
  refine Sch.wp_region_tn ((Tr.node b k (Tr.node b2 k2 l2 (Tr.node b3 k3 l3 r3)) r).In) (.val 0 (.val 1 (.val 2 (.val 3 (.val 5 (.val 6 (.val 7 (.val 8 (.one 4 (.one 9 (.val 10 (.val 11 .done)))))))))))) (by kernel_rfl) (by kernel_rfl) HS.out.drew ?_
  repeat (first
    | (refine Sch.tn_q rfl rfl rfl (fun K hK => ?_); go_big_quiet_op; (first | refine hK _ ?_ | refine ⟨_, fun _ _ => rfl, hK _ ?_⟩); clear hK K)
    | (refine Sch.tn_chk _ _ _ rfl rfl rfl rfl rfl ?_; simp only [Act.put, List.setIfInBounds_toArray, List.set_cons_zero, List.set_cons_succ])
    | (refine Sch.tn_load _ _ _ _ _ rfl rfl rfl rfl (by first | exact M3.out | exact M4.out) rfl ?_; simp only [Act.put, List.setIfInBounds_toArray, List.set_cons_zero, List.set_cons_succ]))
  clear M3 M4
  replace HS : Hid ((Tr.node b k (Tr.node b2 k2 l2 (Tr.node b3 k3 l3 r3)) r).In w1.drew) := HS.out.drew
  replace HB : Hid (Below w.heap.size w w1.drew) := HB.out.drew
  generalize w1.drew = w2 at *
  refine Sch.tn_e rfl rfl (fun K hK => ?_)
  go_wp2_with fail
  refine (WI.out _ HS.out).mono ?_
  rintro e w3 ⟨rfl, rfl⟩
  refine hK _ _ HS.out ?_
  clear hK K
  refine Sch.tn_e rfl rfl (fun K hK => ?_)
  go_wp2_with fail
  refine (WO.out _ HS.out).mono ?_
  rintro e w3 ⟨rfl, rfl⟩
  refine hK _ _ HS.out ?_
  clear hK K
  repeat (first
    | (refine Sch.tn_q rfl rfl rfl (fun K hK => ?_); go_big_quiet_op; (first | refine hK _ ?_ | refine ⟨_, fun _ _ => rfl, hK _ ?_⟩); clear hK K)
    | (refine Sch.tn_chk _ _ _ rfl rfl rfl rfl rfl ?_; simp only [Act.put, List.setIfInBounds_toArray, List.set_cons_zero, List.set_cons_succ]))
  clear WI WO
  refine Sch.tn_n ?_
  go_wp2_with fail
  refine (LU.out _ HS.out).mono ?_
  rintro e w4 hm
  obtain ⟨c', ck, cl, cr, rfl, hc, hl, hb⟩ := hm
  have HC := Lib.hid hc
  have HL := Lib.hid hl
  replace HB : Hid (Below w.heap.size w w4) := bel_tr HB.out hb
  replace HS : Hid ((Tr.node b k (Tr.node b2 k2 l2 (Tr.node b3 k3 l3 r3)) r).In w4) := HS.out.keep hb
  clear hc hl hb LU
  have OW := Lib.hid (OV.out _ _ _ _ _ HS.out HC.out HL.out)
  try simp only [Tr.ad_node] at OW
  clear OV
  go_wp2_with fail
  refine OW.out.mono ?_
  rintro e w5 ⟨b', rfl, -, hi, hb⟩
  have HI := Lib.hid hi
  replace HB : Hid (Below w.heap.size w w5) := bel_tr HB.out hb
  clear hi hb OW HC HS
  go_wp2_with fail
  refine (RU.out _ _ _ _ _ _ HI.out HL.out).mono ?_
  rintro e w6 hm
  obtain ⟨b'', k', l', r', rfl, hi, hl, hb⟩ := Made.trans HB.out hm
  have HI := Lib.hid hi
  have HL2 := Lib.hid hl
  have HB4 := Lib.hid hb
  clear hm hi hl hb
  go_wp2_with fail
  go_ret
  refine ⟨_, _, _, _, rfl, HI.out, ?_, HB4.out⟩
  have e2 := HL.out
  rw [HL2.out, list_node b', e2, list_node b]
/-- balanced, whatever the tree is. -/
theorem balanced_any (b : Nat) (k : Nt) (l r : Tr) (w : World) (h : (Tr.node b k l r).In w) (hs : (Tr.node b k l r).len ≤ 1000000) :
    Calls Tryz.prog 134 #[.pointer (some ⟨b, 0, none⟩)] w fun e w' => Made w e w' (Tr.node b k l r).list := by
  by_cases h1 : 3 * ((l.len : Int) + 1) < (r.len : Int) + 1
  · obtain ⟨b2, k2, l2, r2, rfl⟩ := node_of_len (t := r) (by omega)
    by_cases h2 : 2 * ((r2.len : Int) + 1) ≤ (l2.len : Int) + 1
    · obtain ⟨b3, k3, l3, r3, rfl⟩ := node_of_len (t := l2) (by omega)
      exact bal_r1 b k b2 k2 b3 k3 l3 r3 r2 l w h hs h1 h2
    · exact bal_r2 b k b2 k2 l2 r2 l w h hs h1 h2
  · by_cases h2 : 3 * ((r.len : Int) + 1) < (l.len : Int) + 1
    · obtain ⟨b2, k2, l2, r2, rfl⟩ := node_of_len (t := l) (by omega)
      by_cases h3 : 2 * ((l2.len : Int) + 1) ≤ (r2.len : Int) + 1
      · obtain ⟨b3, k3, l3, r3, rfl⟩ := node_of_len (t := r2) (by omega)
        exact bal_l1 b k b2 k2 b3 k3 l3 r3 l2 r w h hs h2 h3
      · exact bal_l2 b k b2 k2 l2 r2 r w h hs h2 h3
    · exact bal_no b k l r w h hs h1 h2

end Go.Proofs.YtkcbekebleodaaaGreat.Un
end

/-
  Trees of nodes: one node more.
-/
section
namespace Go.Proofs.YtkcbekebleodaaaGreat.Un
set_option linter.unusedVariables false
open Go.RowKit V D Nd Qs Wk

theorem ins_len {T l : Tr} {n : Nat} {k : Nt} (h : T.list = insAt l.list n k) : T.len = l.len + 1 := (congrArg List.length h).trans (insAt_len _ _ _)
def Wb (g b : Nat) (k bk : Nt) (l r : Tr) (w : World) : Prop := Nb w g k ∧ (Tr.node b bk l r).In w
theorem Wb.keep {g b : Nat} {k bk : Nt} {l r : Tr} {w w' : World} (h : Wb g b k bk l r w) (hb : Below w.heap.size w w') : Wb g b k bk l r w' := ⟨h.1.keep hb, h.2.keep hb⟩
theorem Wb.drew {g b : Nat} {k bk : Nt} {l r : Tr} {w : World} (h : Wb g b k bk l r w) : Wb g b k bk l r w.drew := h.keep ((Below.refl _ _).drew)
theorem two_bel (w : World) (k : Nt) : Below w.heap.size w ((w.alloc (.cells (nc k) 53)).alloc (.cells #[] 138)) := (bel_box _ _).alloc (by simp) _
theorem two_nb (w : World) (k : Nt) : Nb ((w.alloc (.cells (nc k) 53)).alloc (.cells #[] 138)) w.heap.size k := (Nb.new w k).keep (bel_box _ _)

set_option maxRecDepth 100000 in
set_option maxHeartbeats 4000000 in
theorem with_nil (k : Nt) (w : World) :
    Calls Tryz.prog 115 #[.pointer none, .int .i64 0, nv k, .agg #[]] w fun e w' => Made w e w' [k] := by
  have HK := Lib.hid (two_nb w k)
  have HB := Lib.hid (two_bel w k)
  have HU := Lib.hid (fun (p : Addr) (w : World) => load_unit p w)
  go_enter Tryz.func115, Tryz.ntmps115
  go_wp2_with fail
  go_ret
  have h0 := nd_new ((w.alloc (.cells (nc k) 53)).alloc (.cells #[] 138)) k none none 1 1 rfl
  have hs : ((w.alloc (.cells (nc k) 53)).alloc (.cells #[] 138)).heap.size = w.heap.size + 1 + 1 := by simp
  rw [hs] at h0
  exact ⟨_, k, .nil, .nil, rfl, ⟨h0, trivial, trivial⟩, rfl, HB.out.alloc HB.out.size _⟩
set_option maxRecDepth 100000 in
set_option maxHeartbeats 4000000 in
theorem with_any (t : Tr) : ∀ (n : Nat) (k : Nt) (w : World), t.In w → t.len < 1000000 → n ≤ t.len →
    Calls Tryz.prog 115 #[.pointer t.ad, .int .i64 (n : Int), nv k, .agg #[]] w fun e w' => Made w e w' (insAt t.list n k) := by
  induction t with
  | nil =>
    intro n k w h hs hn
    have hn : n = 0 := by rw [Tr.len_nil] at hn; omega
    subst hn
    simp only [Tr.ad, Tr.list, insAt, List.take_nil, List.drop_nil, List.nil_append]
    exact with_nil k w
  | node b bk l r ihl ihr =>
    intro n k w h hs hn
    have HS : Hid (Wb w.heap.size b k bk l r ((w.alloc (.cells (nc k) 53)).alloc (.cells #[] 138))) := ⟨two_nb w k, Tr.In.keep (t := .node b bk l r) h (two_bel w k)⟩
    have HB0 := Lib.hid (two_bel w k)
    rw [Tr.len_node] at hs hn
    have HL := Lib.hid (fun (G : Nat) (w : World) (h : Wb G b k bk l r w) => len_any l w h.2.2.1)
    have k2 := HS.out.2.1.cl
    have L1 : ∀ G w, Wb G b k bk l r w → _ := fun G w h => nd_l (w := w) h.2.1
    have L2 : ∀ G w, Wb G b k bk l r w → _ := fun G w h => nd_r (w := w) h.2.1
    have L3 : ∀ G w, Wb G b k bk l r w → _ := fun G w h => h.1.load
    have L4 : ∀ (p : Addr) (w : World), _ := fun p w => load_unit p w
    have M1 := Lib.hid L1
    have M2 := Lib.hid L2
    have M3 := Lib.hid L3
    have M4 := Lib.hid L4
    have hl : (l.len : Int) ≤ 1000000 := by omega
    have hn1 : (n : Int) ≤ 1000000 := by omega
    rw [Tr.ad_node]
    by_cases hlt : n ≤ l.len
    · have HW := Lib.hid (fun (G : Nat) (w : World) (h : Wb G b k bk l r w) => ihl n k w h.2.2.1 (by omega) hlt)
      have OV := Lib.hid (fun (G : Nat) (T : Tr) (w : World) (h : Wb G b k bk l r w) (hT : T.In w) (he : T.list = insAt l.list n k) => over_any b bk _ _ T r w h.2 hT h.2.2.2 (by have e2 := ins_len he; omega))
      have BA := Lib.hid (fun (c : Nat) (T : Tr) (w : World) (h : (Tr.node c bk T r).In w) (he : T.list = insAt l.list n k) => balanced_any c bk T r w h (by have e2 := ins_len he; rw [Tr.len_node]; omega))
      have HE : Hid (insAt (Tr.node b bk l r).list n k = insAt l.list n k ++ bk :: r.list) := insAt_lt hlt k
      generalize insAt (Tr.node b bk l r).list n k = R at *
      have hc : (n : Int) ≤ (l.len : Int) := by omega
      clear h hs hn L1 L2 L3 L4 hlt ihl ihr
      go_enter Tryz.func115, Tryz.ntmps115
      go_wp2_with fail
      generalize (w.alloc (.cells (nc k) 53)).alloc (.cells #[] 138) = w9 at *
      refine (HL.out _ _ HS.out).mono ?_
      rintro e w' ⟨rfl, hw⟩
      obtain rfl : w9 = w' := hw.symm
      go_wp2_with fail
      refine Sch.wp_region_tn (Wb w.heap.size b k bk l r) (.val 0 (.val 1 (.val 2 (.val 3 (.val 4 (.val 5 (.val 6 (.val 7 (.val 9 (.val 10 (.val 11 (.val 12 (.one 8 (.one 13 (.one 14 (.val 15 .done)))))))))))))))) (by kernel_rfl) (by kernel_rfl) HS.out.drew ?_
      repeat (first
        | (refine Sch.tn_q rfl rfl rfl (fun K hK => ?_); go_big_quiet_op; (first | refine hK _ ?_ | refine ⟨_, fun _ _ => rfl, hK _ ?_⟩); clear hK K)
        | (refine Sch.tn_chk _ _ _ rfl rfl rfl rfl rfl ?_; simp only [Act.put, List.setIfInBounds_toArray, List.set_cons_zero, List.set_cons_succ])
        | (refine Sch.tn_load _ _ _ _ _ rfl rfl rfl rfl (by first | exact M1.out _ | exact M2.out _ | exact M3.out _ | exact (fun w _ => M4.out _ w)) rfl ?_; simp only [Act.put, List.setIfInBounds_toArray, List.set_cons_zero, List.set_cons_succ]))
      clear M1 M2 M3 M4 HL
      replace HS := Lib.hid HS.out.drew
      have HB := Lib.hid HB0.out.drew
      clear k2 HB0
      generalize w9.drew = w0 at *
      refine Sch.tn_e rfl rfl (fun K hK => ?_)
      go_wp2_with fail
      refine (HW.out _ _ HS.out).mono ?_
      rintro e w1 ⟨c, ck, cl, cr, rfl, hi, he, hb⟩
      have HI := Lib.hid hi
      have HC := Lib.hid he
      replace HB := Lib.hid (bel_tr HB.out hb)
      replace HS := Lib.hid (HS.out.keep hb)
      clear hi he hb HW
      refine hK _ _ HS.out ?_
      clear hK K
      have OW := Lib.hid (OV.out _ _ _ HS.out HI.out HC.out)
      rw [Tr.ad_node] at OW
      refine Sch.tn_e rfl rfl (fun K hK => ?_)
      go_wp2_with fail
      refine OW.out.mono ?_
      rintro e w2 ⟨d, rfl, -, hi, hb⟩
      have HJ := Lib.hid hi
      replace HB := Lib.hid (bel_tr HB.out hb)
      replace HS := Lib.hid (HS.out.keep hb)
      clear hi hb OV OW
      refine hK _ _ HS.out ?_
      clear hK K
      refine Sch.tn_e rfl rfl (fun K hK => ?_)
      go_wp2_with fail
      refine (BA.out _ _ _ HJ.out HC.out).mono ?_
      rintro e w3 hm
      have hb := hm.below
      replace HS := Lib.hid (HS.out.keep hb)
      obtain ⟨c', k', l', r', rfl, hi, he, hb⟩ := Made.trans HB.out hm
      have HI2 := Lib.hid hi
      have HL2 := Lib.hid he
      have HB4 := Lib.hid hb
      clear hm hi he hb
      refine hK _ _ HS.out ?_
      clear hK K
      repeat (first
        | (refine Sch.tn_q rfl rfl rfl (fun K hK => ?_); go_big_quiet_op; (first | refine hK _ ?_ | refine ⟨_, fun _ _ => rfl, hK _ ?_⟩); clear hK K)
        | (refine Sch.tn_chk _ _ _ rfl rfl rfl rfl rfl ?_; simp only [Act.put, List.setIfInBounds_toArray, List.set_cons_zero, List.set_cons_succ]))
      refine Sch.tn_n ?_
      go_wp2_with fail
      go_ret
      refine ⟨_, _, _, _, rfl, HI2.out, ?_, HB4.out⟩
      have e2 := HC.out
      rw [HL2.out, list_node d, e2, HE.out]
    · obtain ⟨m, rfl⟩ : ∃ m, n = l.len + 1 + m := ⟨n - (l.len + 1), by omega⟩
      have HW := Lib.hid (fun (G : Nat) (w : World) (h : Wb G b k bk l r w) => ihr m k w h.2.2.2 (by omega) (by omega))
      have OV := Lib.hid (fun (G : Nat) (T : Tr) (w : World) (h : Wb G b k bk l r w) (hT : T.In w) (he : T.list = insAt r.list m k) => over_any b bk _ _ l T w h.2 h.2.2.1 hT (by have e2 := ins_len he; omega))
      have BA := Lib.hid (fun (c : Nat) (T : Tr) (w : World) (h : (Tr.node c bk l T).In w) (he : T.list = insAt r.list m k) => balanced_any c bk l T w h (by have e2 := ins_len he; rw [Tr.len_node]; omega))
      have HE : Hid (insAt (Tr.node b bk l r).list (l.len + 1 + m) k = l.list ++ bk :: insAt r.list m k) := insAt_gt k
      generalize insAt (Tr.node b bk l r).list (l.len + 1 + m) k = R at *
      have hz : ((l.len + 1 + m : Nat) : Int) - (l.len : Int) - 1 = (m : Int) := by omega
      have hz2 : (l.len : Int) < ((l.len + 1 + m : Nat) : Int) := by omega
      obtain ⟨N, hN⟩ : ∃ N : Int, N = ((l.len + 1 + m : Nat) : Int) := ⟨_, rfl⟩
      rw [← hN] at hz hz2 hn1 ⊢
      clear h hs hn L1 L2 L3 L4 hlt ihl ihr hN
      go_enter Tryz.func115, Tryz.ntmps115
      go_wp2_with fail
      generalize (w.alloc (.cells (nc k) 53)).alloc (.cells #[] 138) = w9 at *
      refine (HL.out _ _ HS.out).mono ?_
      rintro e w' ⟨rfl, hw⟩
      obtain rfl : w9 = w' := hw.symm
      go_wp2_with fail
      refine Sch.wp_region_tn (Wb w.heap.size b k bk l r) (.val 0 (.val 1 (.val 2 (.val 3 (.val 4 (.val 5 (.val 6 (.val 7 (.val 8 (.val 9 (.val 10 (.val 11 (.val 12 (.val 13 (.val 17 (.val 18 (.one 14 (.val 15 (.val 16 (.one 19 (.one 20 (.one 21 (.val 22 .done))))))))))))))))))))))) (by kernel_rfl) (by kernel_rfl) HS.out.drew ?_
      repeat (first
        | (refine Sch.tn_q rfl rfl rfl (fun K hK => ?_); go_big_quiet_op; (first | refine hK _ ?_ | refine ⟨_, fun _ _ => rfl, hK _ ?_⟩); clear hK K)
        | (refine Sch.tn_chk _ _ _ rfl rfl rfl rfl rfl ?_; simp only [Act.put, List.setIfInBounds_toArray, List.set_cons_zero, List.set_cons_succ])
        | (refine Sch.tn_load _ _ _ _ _ rfl rfl rfl rfl (by first | exact M1.out _ | exact M2.out _ | exact M3.out _ | exact (fun w _ => M4.out _ w)) rfl ?_; simp only [Act.put, List.setIfInBounds_toArray, List.set_cons_zero, List.set_cons_succ]))
      clear M1 M2 M3 M4
      replace HS := Lib.hid HS.out.drew
      have HB := Lib.hid HB0.out.drew
      clear k2 HB0
      generalize w9.drew = w0 at *
      refine Sch.tn_e rfl rfl (fun K hK => ?_)
      go_wp2_with fail
      refine (HL.out _ _ HS.out).mono ?_
      rintro e w1 ⟨rfl, rfl⟩
      refine hK _ _ HS.out ?_
      clear hK K
      repeat (first
        | (refine Sch.tn_q rfl rfl rfl (fun K hK => ?_); go_big_quiet_op; (first | refine hK _ ?_ | refine ⟨_, fun _ _ => rfl, hK _ ?_⟩); clear hK K)
        | (refine Sch.tn_chk _ _ _ rfl rfl rfl rfl rfl ?_; simp only [Act.put, List.setIfInBounds_toArray, List.set_cons_zero, List.set_cons_succ]))
      try rw [hz]
      refine Sch.tn_e rfl rfl (fun K hK => ?_)
      go_wp2_with fail
      refine (HW.out _ _ HS.out).mono ?_
      rintro e w1 ⟨c, ck, cl, cr, rfl, hi, he, hb⟩
      have HI := Lib.hid hi
      have HC := Lib.hid he
      replace HB := Lib.hid (bel_tr HB.out hb)
      replace HS := Lib.hid (HS.out.keep hb)
      clear hi he hb HW
      refine hK _ _ HS.out ?_
      clear hK K
      have OW := Lib.hid (OV.out _ _ _ HS.out HI.out HC.out)
      rw [Tr.ad_node] at OW
      refine Sch.tn_e rfl rfl (fun K hK => ?_)
      go_wp2_with fail
      refine OW.out.mono ?_
      rintro e w2 ⟨d, rfl, -, hi, hb⟩
      have HJ := Lib.hid hi
      replace HB := Lib.hid (bel_tr HB.out hb)
      replace HS := Lib.hid (HS.out.keep hb)
      clear hi hb OV OW
      refine hK _ _ HS.out ?_
      clear hK K
      refine Sch.tn_e rfl rfl (fun K hK => ?_)
      go_wp2_with fail
      refine (BA.out _ _ _ HJ.out HC.out).mono ?_
      rintro e w3 hm
      have hb := hm.below
      replace HS := Lib.hid (HS.out.keep hb)
      obtain ⟨c', k', l', r', rfl, hi, he, hb⟩ := Made.trans HB.out hm
      have HI2 := Lib.hid hi
      have HL2 := Lib.hid he
      have HB4 := Lib.hid hb
      clear hm hi he hb
      refine hK _ _ HS.out ?_
      clear hK K
      repeat (first
        | (refine Sch.tn_q rfl rfl rfl (fun K hK => ?_); go_big_quiet_op; (first | refine hK _ ?_ | refine ⟨_, fun _ _ => rfl, hK _ ?_⟩); clear hK K)
        | (refine Sch.tn_chk _ _ _ rfl rfl rfl rfl rfl ?_; simp only [Act.put, List.setIfInBounds_toArray, List.set_cons_zero, List.set_cons_succ]))
      refine Sch.tn_n ?_
      go_wp2_with fail
      go_ret
      refine ⟨_, _, _, _, rfl, HI2.out, ?_, HB4.out⟩
      have e2 := HC.out
      rw [HL2.out, list_node d, e2, HE.out]
end Go.Proofs.YtkcbekebleodaaaGreat.Un
end
