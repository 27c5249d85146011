/-
  Trees of entries in memory: what never changes once it is made; len, weight, over.
-/
import Derived.Test.YtmmcnpcijeahcaaRows
import Derived.Test.YtmmcnpcijeahcaaVMem
import Derived.Test.YtmmcnpcijeahcaaSchN
import Derived.Test.YtmmcnpcijeahcaaJPure
import Derived.Deep.RegionWith
import Derived.RegionTactic
import Derived.KernelRfl
namespace Go.Proofs.Ytmmcnpcijeahcaa.J
set_option linter.unusedVariables false
open Go.RowKit V

theorem bel_box (w : World) (o : Obj) : Below w.heap.size w (w.alloc o) := (Below.refl _ _).alloc (Nat.le_refl _) _
theorem bel_tr {w w1 w2 : World} (h : Below w.heap.size w w1) (hb : Below w1.heap.size w1 w2) : Below w.heap.size w w2 := h.trans (hb.mono h.size)
theorem keep_cell {w w' : World} {b o : Nat} {v : Value} (h : w.cell? ⟨b, o, none⟩ = some v) (hb : Below w.heap.size w w') : w'.cell? ⟨b, o, none⟩ = some v := (hb.cell (p := ⟨b, o, none⟩) (lt_of_cell h)).trans h

/-- A tree of entries; of each node its block. -/
inductive Tr where
  | nil
  | node (b : Nat) (k : Int) (v : ByteArray) (l r : Tr)
def Tr.ad : Tr → Option Addr
  | .nil => none
  | .node b _ _ _ _ => some ⟨b, 0, none⟩
def Tr.list : Tr → List Pr
  | .nil => []
  | .node _ k v l r => l.list ++ (k, v) :: r.list
def Tr.len (t : Tr) : Nat := t.list.length
theorem Tr.ad_node (b : Nat) (k : Int) (v : ByteArray) (l r : Tr) : (Tr.node b k v l r).ad = some ⟨b, 0, none⟩ := rfl
theorem Tr.len_nil : Tr.nil.len = 0 := rfl
theorem Tr.len_node (b : Nat) (k : Int) (v : ByteArray) (l r : Tr) : (Tr.node b k v l r).len = l.len + 1 + r.len := by
  unfold Tr.len
  rw [Tr.list, List.length_append, List.length_cons]
  omega
/-- The cells of a node. -/
def Nd (w : World) (b : Nat) (k : Int) (v : ByteArray) (l r : Option Addr) (n : Nat) : Prop :=
  w.cell? ⟨b, 0, none⟩ = some (.int .i64 k) ∧ w.cell? ⟨b, 1, none⟩ = some (.string v) ∧ w.cell? ⟨b, 2, none⟩ = some (.pointer l) ∧ w.cell? ⟨b, 3, none⟩ = some (.pointer r) ∧ w.cell? ⟨b, 4, none⟩ = some (.int .i64 (n : Int))
def Tr.In (w : World) : Tr → Prop
  | .nil => True
  | .node b k v l r => Nd w b k v l.ad r.ad (l.len + 1 + r.len) ∧ l.In w ∧ r.In w
theorem Nd.of_heap {w w' : World} {b : Nat} {k : Int} {v : ByteArray} {l r : Option Addr} {n : Nat} (h : Nd w b k v l r n) (e : b < w.heap.size → w'.heap[b]? = w.heap[b]?) : Nd w' b k v l r n := by
  obtain ⟨h0, h1, h2, h3, h4⟩ := h
  have e := e (lt_of_cell h0)
  exact ⟨(World.cell?_of_block (w := w) e).trans h0, (World.cell?_of_block (w := w) e).trans h1, (World.cell?_of_block (w := w) e).trans h2, (World.cell?_of_block (w := w) e).trans h3, (World.cell?_of_block (w := w) e).trans h4⟩
theorem Nd.keep {w w' : World} {b : Nat} {k : Int} {v : ByteArray} {l r : Option Addr} {n : Nat} (h : Nd w b k v l r n) (hb : Below w.heap.size w w') : Nd w' b k v l r n := h.of_heap fun hl => hb.block b hl
/-- The blocks of a tree lie below. -/
def Tr.lt (n : Nat) : Tr → Prop
  | .nil => True
  | .node b _ _ l r => b < n ∧ l.lt n ∧ r.lt n
theorem Tr.In.below {w : World} : ∀ {t : Tr}, t.In w → t.lt w.heap.size
  | .nil, _ => trivial
  | .node b k v l r, h => ⟨lt_of_cell h.1.1, Tr.In.below h.2.1, Tr.In.below h.2.2⟩
/-- A tree stays where its blocks stay. -/
def Tr.on (p : Nat → Prop) : Tr → Prop
  | .nil => True
  | .node b _ _ l r => p b ∧ l.on p ∧ r.on p
theorem Tr.In.of_heap {w w' : World} : ∀ {t : Tr}, t.In w → (t.on fun b => b < w.heap.size → w'.heap[b]? = w.heap[b]?) → t.In w'
  | .nil, _, _ => trivial
  | .node b k v l r, h, e => ⟨h.1.of_heap e.1, Tr.In.of_heap h.2.1 e.2.1, Tr.In.of_heap h.2.2 e.2.2⟩
theorem Tr.on_all {p : Nat → Prop} (h : ∀ b, p b) : ∀ t : Tr, t.on p
  | .nil => trivial
  | .node b _ _ l r => ⟨h b, Tr.on_all h l, Tr.on_all h r⟩
theorem Tr.In.keep {w w' : World} {t : Tr} (h : t.In w) (hb : Below w.heap.size w w') : t.In w' := h.of_heap (Tr.on_all (fun b hl => hb.block b hl) t)
theorem Tr.In.drew {w : World} {t : Tr} (h : t.In w) : t.In w.drew := h.of_heap (Tr.on_all (fun _ _ => rfl) t)
theorem Tr.In.gb {w w' : World} {t : Tr} {g : Nat} (h : t.In w) (hg : w.grownBy w' (some g)) (hne : t.on fun b => b ≠ g) : t.In w' := by
  have go : ∀ t : Tr, (t.on fun b => b ≠ g) → t.on fun b => b < w.heap.size → w'.heap[b]? = w.heap[b]? := by
    intro t
    induction t with
    | nil => exact fun _ => trivial
    | node b k v l r ihl ihr => exact fun h => ⟨fun hl => hg.block b hl (by simpa using h.1), ihl h.2.1, ihr h.2.2⟩
  exact h.of_heap (go t hne)
theorem Tr.on_ge {t : Tr} {n g : Nat} (h : t.lt n) (hg : n ≤ g) : t.on fun b => b ≠ g := by
  induction t with
  | nil => trivial
  | node b k v l r ihl ihr => exact ⟨by have := h.1; omega, ihl h.2.1, ihr h.2.2⟩
/-- A node made anew. -/
theorem nd_new (w : World) (k : Int) (v : ByteArray) (l r : Option Addr) (z : Int) (n : Nat) (hz : z = (n : Int)) (t : TypeId) : Nd (w.alloc (.cells #[.int .i64 k, .string v, .pointer l, .pointer r, .int .i64 z] t)) w.heap.size k v l r n := by
  subst hz
  have hh : (w.alloc (.cells #[.int .i64 k, .string v, .pointer l, .pointer r, .int .i64 (n : Int)] t)).heap[w.heap.size]? = some (.cells #[.int .i64 k, .string v, .pointer l, .pointer r, .int .i64 (n : Int)] t) := by show (w.heap.push _)[w.heap.size]? = _; simp
  have hc : ∀ j, (w.alloc (.cells #[.int .i64 k, .string v, .pointer l, .pointer r, .int .i64 (n : Int)] t)).cell? ⟨w.heap.size, j, none⟩ = (#[.int .i64 k, .string v, .pointer l, .pointer r, .int .i64 (n : Int)] : Array Value)[j]? := fun j => by
    simp only [World.cell?, hh]
    rw [if_neg (by simp)]
  refine ⟨?_, ?_, ?_, ?_, ?_⟩ <;> (rw [hc]; rfl)

theorem load_int {w : World} {b o : Nat} {z : Int} (h : w.cell? ⟨b, o, none⟩ = some (.int .i64 z)) : (Instr.loadAt 3 (.pointer (some ⟨b, o, none⟩))).run Try.prog w = .ok (.int .i64 z) w := by
  go_simp
theorem load_str {w : World} {b o : Nat} {z : ByteArray} (h : w.cell? ⟨b, o, none⟩ = some (.string z)) : (Instr.loadAt 9 (.pointer (some ⟨b, o, none⟩))).run Try.prog w = .ok (.string z) w := by
  go_simp
theorem load_tree {w : World} {b o : Nat} {z : Option Addr} (h : w.cell? ⟨b, o, none⟩ = some (.pointer z)) : (Instr.loadAt 68 (.pointer (some ⟨b, o, none⟩))).run Try.prog w = .ok (.pointer z) w := by
  go_simp

set_option maxRecDepth 100000 in
set_option maxHeartbeats 1000000 in
theorem len_any (t : Tr) (w : World) (h : t.In w) : Calls Try.prog 58 #[.pointer t.ad] w fun e w' => e = .returned (.int .i64 (t.len : Int)) ∧ w' = w := by
  cases t with
  | nil =>
    rw [Tr.len_nil]
    simp only [Tr.ad]
    clear h
    go_enter Try.func58, Try.ntmps58
    go_wp2_with fail
    go_ret
    exact ⟨rfl, rfl⟩
  | node b k v l r =>
    rw [Tr.len_node]
    simp only [Tr.ad]
    have k4 := h.1.2.2.2.2
    clear h
    generalize l.len + 1 + r.len = n at *
    go_enter Try.func58, Try.ntmps58
    go_wp2_with fail
    go_ret
    exact ⟨rfl, rfl⟩
set_option maxRecDepth 100000 in
set_option maxHeartbeats 1000000 in
theorem weight_any (t : Tr) (w : World) (h : t.In w) (hs : t.len ≤ 1000000) : Calls Try.prog 77 #[.pointer t.ad] w fun e w' => e = .returned (.int .i64 ((t.len : Int) + 1)) ∧ w' = w := by
  have HL := Lib.hid (len_any t w h)
  clear h
  have h5 : (t.len : Int) ≤ 1000000 := by omega
  clear hs
  generalize t.len = n at *
  generalize t.ad = a at *
  go_enter Try.func77, Try.ntmps77
  go_wp2_with fail
  refine HL.out.mono ?_
  rintro e w1 ⟨rfl, rfl⟩
  go_wp2_with fail
  go_ret
  exact ⟨rfl, rfl⟩

end Go.Proofs.Ytmmcnpcijeahcaa.J
