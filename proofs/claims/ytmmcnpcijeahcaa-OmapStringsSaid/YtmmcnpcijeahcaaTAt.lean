/-
  Trees of entries: the node with an index, what is on top.
-/
import Derived.Test.YtmmcnpcijeahcaaTBal
import Derived.OwnWalk
namespace Go.Proofs.Ytmmcnpcijeahcaa.Jt
set_option linter.unusedVariables false
open Go.RowKit V

/-- What stands at an index, if anything does. -/
def atL (l : List Pr) (i : Int) : Option Pr := if i < 0 then none else l[i.toNat]?
theorem atL_lt {l m : List Pr} {p : Pr} {i : Int} (h : i < (l.length : Int)) : atL (l ++ p :: m) i = atL l i := by
  unfold atL
  split
  · rfl
  · rw [List.getElem?_append_left (by omega)]
theorem atL_eq {l m : List Pr} {p : Pr} {i : Int} (h : i = (l.length : Int)) : atL (l ++ p :: m) i = some p := by
  subst h
  unfold atL
  rw [if_neg (by omega), List.getElem?_append_right (by omega)]
  simp
theorem atL_gt {l m : List Pr} {p : Pr} {i : Int} (h : (l.length : Int) < i) : atL (l ++ p :: m) i = atL m (i - (l.length + 1)) := by
  unfold atL
  rw [if_neg (by omega), if_neg (by omega), List.getElem?_append_right (by omega), show i.toNat - l.length = (i - (l.length + 1)).toNat + 1 by omega, List.getElem?_cons_succ]
/-- How many entries the tree behind a pointer has. -/
def lenOf (w : World) : Value → Nat
  | .pointer (some a) => match w.cell? ⟨a.block, 4, none⟩ with | some v => (intOf v).toNat | none => 0
  | _ => 0
theorem lenOf_at {w : World} {t : Tr} (h : t.In w) : lenOf w (.pointer t.ad) = t.len := by
  cases t with
  | nil => rfl
  | node b k v l r =>
    have h4 := h.1.2.2.2.2
    rw [Tr.ad_node, Tr.len_node]
    simp only [lenOf, h4, intOf]
    omega
/-- A node with this entry on top, or none. -/
def Tops (t : Tr) : Option Pr → Prop
  | none => t = .nil
  | some p => ∃ b l r, t = .node b p.1 p.2 l r

/-- What entry returns: the key, the value, and whether there is one. -/
def tops : Option Pr → Value
  | none => .tuple #[.string ⟨#[]⟩, .slice none 0 0, .bool false]
  | some p => .tuple #[.string p.1.s, .slice p.2.a p.2.n p.2.c, .bool true]
set_option maxRecDepth 100000 in
set_option maxHeartbeats 2000000 in
theorem entry_any (t : Tr) (p : Option Pr) (w : World) (h : t.In w) (ht : Tops t p) :
    Calls Try.prog 51 #[.pointer t.ad] w fun e w' => e = .returned (tops p) ∧ Below w.heap.size w w' := by
  cases p with
  | none =>
    obtain rfl : t = .nil := ht
    simp only [Tr.ad, tops]
    clear h
    go_enter Try.func51, Try.ntmps51
    go_wp2_with fail
    go_ret3
    exact ⟨rfl, Below.refl _ _⟩
  | some p =>
    obtain ⟨b, l, r, rfl⟩ := ht
    obtain ⟨k, v⟩ := p
    simp only [Tr.ad, tops]
    have HS : Hid ((Tr.node b k v l r).In w.drew) := h.drew
    have L1 : ∀ w, (Tr.node b k v l r).In w → _ := fun w h => nd_k (w := w) h.1
    have L2 : ∀ w, (Tr.node b k v l r).In w → _ := fun w h => nd_v (w := w) h.1
    have M1 := Lib.hid L1
    have M2 := Lib.hid L2
    clear h L1 L2
    go_enter Try.func51, Try.ntmps51
    go_wp2_with fail
    refine Sch.wp_region_tn ((Tr.node b k v l r).In) (.val 0 (.val 1 (.val 2 (.val 3 (.val 4 (.val 5 (.val 6 (.val 7 (.val 8 (.val 9 (.val 10 .done))))))))))) (by kernel_rfl) (by kernel_rfl) HS.out ?_
    repeat (first
      | (refine Sch.tn_q rfl rfl rfl (fun K hK => ?_); go_big_quiet_op; (first | refine hK _ ?_ | refine ⟨_, fun _ _ => rfl, hK _ ?_⟩); clear hK K)
      | (refine Sch.tn_chk _ _ _ rfl rfl rfl rfl rfl ?_; simp only [Act.put, List.setIfInBounds_toArray, List.set_cons_zero, List.set_cons_succ])
      | (refine Sch.tn_load _ _ _ _ _ rfl rfl rfl rfl (by first | exact M1.out | exact M2.out) rfl ?_; simp only [Act.put, List.setIfInBounds_toArray, List.set_cons_zero, List.set_cons_succ]))
    refine Sch.tn_n ?_
    go_wp2_with fail
    go_ret3
    exact ⟨rfl, (Below.refl _ _).drew⟩
end Go.Proofs.Ytmmcnpcijeahcaa.Jt
