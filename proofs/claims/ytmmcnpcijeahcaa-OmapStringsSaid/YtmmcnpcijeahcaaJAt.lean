/-
  Trees of entries: the node with an index, what is on top.
-/
import Derived.Test.YtmmcnpcijeahcaaJBal
import Derived.OwnWalk
namespace Go.Proofs.Ytmmcnpcijeahcaa.J
set_option linter.unusedVariables false
open Go.RowKit V

/-- What stands at an index, if anything does. -/
def atL (l : List Pr) (i : Int) : Option Pr := if i < 0 then none else l[i.toNat]?
theorem atL_lt {l m : List Pr} {p : Pr} {i : Int} (h : i < (l.length : Int)) : atL (l ++ p :: m) i = atL l i := by
  unfold atL
  split
  · rfl
  · rw [List.getElem?_append_left (by omega)]
theorem atL_eq {l m : List Pr} {p : Pr} {i : Int} (h : i = (l.length : Int)) : atL (l ++ p :: m) i = some p := by
  subst h
  unfold atL
  rw [if_neg (by omega), List.getElem?_append_right (by omega)]
  simp
theorem atL_gt {l m : List Pr} {p : Pr} {i : Int} (h : (l.length : Int) < i) : atL (l ++ p :: m) i = atL m (i - (l.length + 1)) := by
  unfold atL
  rw [if_neg (by omega), if_neg (by omega), List.getElem?_append_right (by omega), show i.toNat - l.length = (i - (l.length + 1)).toNat + 1 by omega, List.getElem?_cons_succ]
/-- How many entries the tree behind a pointer has. -/
def lenOf (w : World) : Value → Nat
  | .pointer (some a) => match w.cell? ⟨a.block, 4, none⟩ with | some v => (intOf v).toNat | none => 0
  | _ => 0
theorem lenOf_at {w : World} {t : Tr} (h : t.In w) : lenOf w (.pointer t.ad) = t.len := by
  cases t with
  | nil => rfl
  | node b k v l r =>
    have h4 := h.1.2.2.2.2
    rw [Tr.ad_node, Tr.len_node]
    simp only [lenOf, h4, intOf]
    omega
/-- A node with this entry on top, or none. -/
def Tops (t : Tr) : Option Pr → Prop
  | none => t = .nil
  | some p => ∃ b l r, t = .node b p.1 p.2 l r

set_option maxRecDepth 100000 in
set_option maxHeartbeats 2000000 in
theorem at_any (t : Tr) (i : Int) (w : World) (h : t.In w) (hs : t.len ≤ 1000000) (h1 : -9223372036854775808 ≤ i) (h2 : i ≤ 9223372036854775807) :
    Calls Try.prog 68 #[.pointer t.ad, .int .i64 i] w fun e w' => ∃ u : Tr, e = .returned (.pointer u.ad) ∧ u.In w ∧ Tops u (atL t.list i) ∧ w' = w := by
  have HI := Lib.hid h
  have HL := Lib.hid (fun (t : Tr) (h : t.In w) => len_any t w h)
  obtain ⟨R, hR⟩ : ∃ R, R = atL t.list i := ⟨_, rfl⟩
  rw [← hR]
  have HR := Lib.hid hR.symm
  have HN := Lib.hid hs
  clear h hR hs
  go_enter Try.func68, Try.ntmps68
  go_wp2_with fail
  go_loop [0, 1] (fun p x => ∃ (T : Tr) (z : Int), p = .pointer T.ad ∧ x = .int .i64 z ∧ -9223372036854775808 ≤ z ∧ z ≤ 9223372036854775807 ∧ Hid (T.In w) ∧ Hid (T.len ≤ 1000000) ∧ Hid (atL T.list z = R)) (fun p _ => lenOf w p)
  case atStart => exact ⟨t, i, rfl, rfl, h1, h2, HI, HN, HR⟩
  case round =>
    obtain ⟨T, z, rfl, rfl, hz1, hz2, HT, HS, HE⟩ := hrel
    cases T with
    | nil =>
      simp only [Tr.ad]
      go_wp2_with fail
      go_ret
      exact ⟨.nil, rfl, trivial, by rw [← HE.out]; unfold atL; split <;> simp [Tr.list, Tops], rfl⟩
    | node b k v l r =>
      have HD := Lib.hid (HL.out l HT.out.2.1)
      have k2 := HT.out.1.2.2.1
      have k3 := HT.out.1.2.2.2.1
      rw [Tr.ad_node]
      have hl : (l.len : Int) ≤ 1000000 := by have := HS.out; rw [Tr.len_node] at this; omega
      by_cases hlt : z = (l.len : Int)
      · subst hlt
        go_wp2_with fail
        refine HD.out.mono ?_
        rintro e w' ⟨rfl, rfl⟩
        go_wp2_with fail
        go_ret
        exact ⟨.node b k v l r, rfl, HT.out, by rw [← HE.out, list_node, atL_eq (l := l.list) (show (l.len : Int) = _ from rfl)]; exact ⟨b, l, r, rfl⟩, rfl⟩
      · have hne : (z != (l.len : Int)) = true := by simpa using hlt
        by_cases hlt2 : z < (l.len : Int)
        · have HE2 : Hid (atL l.list z = R) := by
            show _ = _
            rw [← HE.out, list_node, atL_lt hlt2]
          go_wp2_with fail
          refine HD.out.mono ?_
          rintro e w' ⟨rfl, rfl⟩
          go_wp2_with fail
          refine HD.out.mono ?_
          rintro e w' ⟨rfl, rfl⟩
          go_wp2_with fail
          go_round
          case rel => exact ⟨l, z, rfl, rfl, hz1, hz2, HT.out.2.1, by have := HS.out; rw [Tr.len_node] at this; show _ ≤ _; omega, HE2⟩
          case measure =>
            have e1 := lenOf_at HT.out
            rw [Tr.ad_node] at e1
            rw [lenOf_at HT.out.2.1, e1, Tr.len_node]
            omega
        · have hge : (l.len : Int) < z := by omega
          have HE2 : Hid (atL r.list (z - ((l.len : Int) + 1)) = R) := by
            show _ = _
            rw [← HE.out, list_node, atL_gt hge]
            rfl
          go_wp2_with fail
          refine HD.out.mono ?_
          rintro e w' ⟨rfl, rfl⟩
          go_wp2_with fail
          refine HD.out.mono ?_
          rintro e w' ⟨rfl, rfl⟩
          go_wp2_with fail
          refine HD.out.mono ?_
          rintro e w' ⟨rfl, rfl⟩
          go_wp2_with fail
          go_round
          case rel => exact ⟨r, z - ((l.len : Int) + 1), rfl, rfl, by omega, by omega, HT.out.2.2, by have := HS.out; rw [Tr.len_node] at this; show _ ≤ _; omega, HE2⟩
          case measure =>
            have e1 := lenOf_at HT.out
            rw [Tr.ad_node] at e1
            rw [lenOf_at HT.out.2.2, e1, Tr.len_node]
            omega

/-- What entry returns: the key, the value, and whether there is one. -/
def tops : Option Pr → Value
  | none => .tuple #[.int .i64 0, .string ⟨#[]⟩, .bool false]
  | some p => .tuple #[.int .i64 p.1, .string p.2, .bool true]
set_option maxRecDepth 100000 in
set_option maxHeartbeats 2000000 in
theorem entry_any (t : Tr) (p : Option Pr) (w : World) (h : t.In w) (ht : Tops t p) :
    Calls Try.prog 76 #[.pointer t.ad] w fun e w' => e = .returned (tops p) ∧ Below w.heap.size w w' := by
  cases p with
  | none =>
    obtain rfl : t = .nil := ht
    simp only [Tr.ad, tops]
    clear h
    go_enter Try.func76, Try.ntmps76
    go_wp2_with fail
    go_ret3
    exact ⟨rfl, Below.refl _ _⟩
  | some p =>
    obtain ⟨b, l, r, rfl⟩ := ht
    obtain ⟨k, v⟩ := p
    simp only [Tr.ad, tops]
    have HS : Hid ((Tr.node b k v l r).In w.drew) := h.drew
    have L1 : ∀ w, (Tr.node b k v l r).In w → _ := fun w h => nd_k (w := w) h.1
    have L2 : ∀ w, (Tr.node b k v l r).In w → _ := fun w h => nd_v (w := w) h.1
    have M1 := Lib.hid L1
    have M2 := Lib.hid L2
    clear h L1 L2
    go_enter Try.func76, Try.ntmps76
    go_wp2_with fail
    refine Sch.wp_region_tn ((Tr.node b k v l r).In) (.val 0 (.val 1 (.val 2 (.val 3 (.val 4 (.val 5 (.val 6 (.val 7 (.val 8 (.val 9 (.val 10 .done))))))))))) (by kernel_rfl) (by kernel_rfl) HS.out ?_
    repeat (first
      | (refine Sch.tn_q rfl rfl rfl (fun K hK => ?_); go_big_quiet_op; (first | refine hK _ ?_ | refine ⟨_, fun _ _ => rfl, hK _ ?_⟩); clear hK K)
      | (refine Sch.tn_chk _ _ _ rfl rfl rfl rfl rfl ?_; simp only [Act.put, List.setIfInBounds_toArray, List.set_cons_zero, List.set_cons_succ])
      | (refine Sch.tn_load _ _ _ _ _ rfl rfl rfl rfl (by first | exact M1.out | exact M2.out) rfl ?_; simp only [Act.put, List.setIfInBounds_toArray, List.set_cons_zero, List.set_cons_succ]))
    refine Sch.tn_n ?_
    go_wp2_with fail
    go_ret3
    exact ⟨rfl, (Below.refl _ _).drew⟩
end Go.Proofs.Ytmmcnpcijeahcaa.J
