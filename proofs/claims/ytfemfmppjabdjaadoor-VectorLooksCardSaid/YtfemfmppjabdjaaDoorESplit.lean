/-
  The library's SplitSeq at a space: the iterator's contract.
-/
import Derived.Test.YtfemfmppjabdjaaDoorEParR
import Derived.RangeFuncNested
import Derived.RangeFuncBound
import Derived.RangeFuncCalls
import Derived.RangeFuncLeaves
import Derived.Shelf.Abstract
import Derived.Shelf.RegionOpen
import Derived.OwnWalkIn
import Derived.TacticsInMore
import Derived.LoopNIn
import Derived.LoopIn
namespace Go.Proofs.YtfemfmppjabdjaaDoor.E
set_option linter.unusedVariables false
open Go.RowKit V Go.Sort D Go.Shelf
attribute [local go_sem] Oper.semAt_some

theorem parts_no {l cur : List UInt8} (h : ∀ c ∈ l, c ≠ 32) : parts cur l = [cur ++ l] := by
  induction l generalizing cur with
  | nil => rw [parts, List.append_nil]
  | cons c t ih =>
    rw [parts, if_neg (h c (by simp)), ih fun x hx => h x (by simp [hx])]
    simp
theorem parts_at {l : List UInt8} : ∀ {cur : List UInt8} {o : Nat}, l[o]? = some 32 → (∀ k, k < o → l[k]? ≠ some 32) → parts cur l = (cur ++ l.take o) :: parts [] (l.drop (o + 1)) := by
  induction l with
  | nil => intro cur o h; simp at h
  | cons c t ih =>
    intro cur o h h2
    cases o with
    | zero =>
      have : c = 32 := by simpa using h
      rw [parts, if_pos this]
      simp
    | succ o =>
      have hc : c ≠ 32 := by
        have := h2 0 (by omega)
        simpa using this
      rw [parts, if_neg hc, ih (by simpa using h) (fun k hk => by have := h2 (k + 1) (by omega); simpa using this)]
      simp
theorem part_no {l : List UInt8} (h : Lib.indexByte l 32 = -1) : parts [] l = [l] := by
  rw [parts_no fun c hc e => ?_, List.nil_append]
  obtain ⟨k, hk, e2⟩ := List.mem_iff_getElem.1 hc
  exact Lib.indexByte_none h k (by rw [List.getElem?_eq_getElem hk, e2, e])
theorem part_at {l : List UInt8} {o : Nat} (h : Lib.indexByte l 32 = o) : o < l.length ∧ parts [] l = l.take o :: parts [] (l.drop (o + 1)) := by
  obtain ⟨h1, h2⟩ := Lib.indexByte_some h
  obtain ⟨ho, he⟩ := List.getElem?_eq_some_iff.1 h1
  exact ⟨ho, by rw [parts_at h1 h2, List.nil_append]⟩

set_option maxRecDepth 100000 in
theorem index_sp (l : List UInt8) (w : World) : Calls Tryd.prog 64 #[.string ⟨l.toArray⟩, .string ⟨#[32]⟩] w fun e w' => e = .returned (.int .i64 (Lib.indexByte l 32)) ∧ w' = w := by
  have HI := Lib.hid (Tryd.stringslite_Index_one ⟨l.toArray⟩ 32 w)
  have h' : (⟨l.toArray⟩ : ByteArray).data.toList = l := rfl
  rw [h'] at HI
  clear h'
  generalize Lib.indexByte l 32 = z at *
  generalize (⟨l.toArray⟩ : ByteArray) = S at *
  go_enter Tryd.func64, Tryd.ntmps64
  go_wp2_with fail
  refine HI.out.mono ?_
  rintro e w2 ⟨rfl, rfl⟩
  go_wp2_with fail
  go_ret
  exact ⟨rfl, rfl⟩

/-- What the iterator has captured: the rest of the string, the space, nothing that is kept of it. -/
def It (Bs Bp Bn : Nat) (w : World) (r : List UInt8) : Prop :=
  w.cell? ⟨Bs, 0, none⟩ = some (.string ⟨r.toArray⟩) ∧ w.frozen? ⟨Bs, 0, none⟩ = false ∧ w.cell? ⟨Bp, 0, none⟩ = some (.string ⟨#[32]⟩) ∧ w.cell? ⟨Bn, 0, none⟩ = some (.int .i64 0)

/-- How much of the string is left. -/
def lft (Bs : Nat) (w : World) : Nat := match w.cell? ⟨Bs, 0, none⟩ with | some (.string b) => b.size | _ => 0
theorem lft_at {Bs : Nat} {w : World} {r : List UInt8} (h : w.cell? ⟨Bs, 0, none⟩ = some (.string ⟨r.toArray⟩)) : lft Bs w = r.length := by
  unfold lft
  rw [h]
  exact ba_size r

set_option maxRecDepth 100000 in
set_option maxHeartbeats 2000000 in
theorem split_in (n l Bs Bp Bn : Nat) (hn : 1 ≤ n) (s : List UInt8) (hlen : s.length ≤ 1000000) (J : List (List UInt8) → List UInt8 → World → Prop) (Jx : List (List UInt8) → World → Prop)
    (hIt : ∀ pre r A, J pre r A → It Bs Bp Bn A r)
    (hset : ∀ pre r r' A, J pre r A → J pre r' (A.setCell ⟨Bs, 0, none⟩ (.string ⟨r'.toArray⟩)))
    (hY : ∀ pre x r A, J pre r A → pre ++ [x] <+: parts [] s → YieldAt Fence.wide (n - 1) Tryd.prog l #[.string ⟨x.toArray⟩] A fun e A' =>
      (e = .returned (.bool true) ∧ J (pre ++ [x]) r A') ∨ (e = .returned (.bool false) ∧ Jx (pre ++ [x]) A'))
    (W : World) (h0 : J [] s W) :
    CallsIn Fence.wide n Tryd.prog 62 (#[.func (.yield l) #[] #[]] ++ #[.pointer (some ⟨Bp, 0, none⟩), .pointer (some ⟨Bs, 0, none⟩), .pointer (some ⟨Bn, 0, none⟩)]) W fun e W' => (∃ v, e = .returned v) ∧
      ((∃ r, J (parts [] s) r W') ∨ (∃ pre, pre <+: parts [] s ∧ Jx pre W')) := by
  refine callsIn_of_wp Tryd.func62 rfl trivial ?_ rfl
  simp only [Tryd.ntmps62, List.size_toArray, List.length_cons, List.length_nil, Nat.reduceAdd, Nat.reduceSub, Array.replicate_succ, Array.replicate_zero, List.push_toArray, List.append_toArray, List.nil_append, List.cons_append]
  obtain ⟨i1, i2, i3, i4⟩ := hIt _ _ _ h0
  have HIt := Lib.hid hIt
  have Hset := Lib.hid hset
  have HY := Lib.hid hY
  have HLn := Lib.hid hlen
  have H0 := Lib.hid h0
  clear hIt hset hY hlen h0
  gi_wp2
  gi_loopw [7, 8] (fun _ _ wr => ∃ (pre : List (List UInt8)) (r : List UInt8), Hid (parts [] s = pre ++ parts [] r) ∧ Hid (r.length ≤ 1000000) ∧ Hid (J pre r wr)) (fun _ _ wr => lft Bs wr)
  case atStart => exact ⟨[], s, rfl, HLn, H0⟩
  case round =>
    obtain ⟨pre, r, HP, HL, HJ⟩ := hrel
    obtain ⟨j1, j2, j3, j4⟩ := HIt.out _ _ _ HJ.out
    have HI := Lib.hid (callsIn_wide (n := n - 1).2 (index_sp r wr))
    have HM : Hid (lft Bs wr = r.length) := lft_at j1
    have hsz := ba_size r
    rcases Int.lt_or_le (Lib.indexByte r 32) 0 with hneg | hpos
    · have hno : Lib.indexByte r 32 = -1 := by have := Lib.indexByte_ge r 32; omega
      have HPt := Lib.hid (part_no hno)
      have HE : Hid (parts [] s = pre ++ [r]) := by show _ = _; rw [HP.out, HPt.out]
      obtain ⟨fn, tmps, assign, body, hy, hR⟩ := HY.out pre r r wr HJ.out (by rw [HE.out]; exact List.prefix_rfl)
      have HR := Lib.hid hR
      rw [hno] at HI
      clear hno hneg hR
      generalize (⟨r.toArray⟩ : ByteArray) = S at *
      gi_wp2_with ((try refine ⟨trivial, ?_⟩); gi_at_call 64; refine HI.out.mono ?_; rintro e w' ⟨rfl, rfl⟩)
      refine HR.out.mono ?_
      rintro e W3 (⟨rfl, hJ3⟩ | ⟨rfl, hJx3⟩)
      · have HJ3 := Lib.hid hJ3
        clear hJ3 HR hy
        gi_wp2
        go_end0
        exact ⟨⟨_, rfl⟩, .inl ⟨r, by rw [HE.out]; exact HJ3.out⟩⟩
      · have HJ3 := Lib.hid hJx3
        clear hJx3 HR hy
        gi_wp2
        go_end0
        exact ⟨⟨_, rfl⟩, .inr ⟨_, by rw [HE.out]; exact List.prefix_rfl, HJ3.out⟩⟩
    · obtain ⟨o, ho⟩ : ∃ o : Nat, Lib.indexByte r 32 = o := ⟨(Lib.indexByte r 32).toNat, by omega⟩
      obtain ⟨hlt, hpt⟩ := part_at ho
      have HE : Hid (parts [] s = (pre ++ [r.take o]) ++ parts [] (r.drop (o + 1))) := by show _ = _; rw [HP.out, hpt]; simp
      obtain ⟨fn, tmps, assign, body, hy, hR⟩ := HY.out pre (r.take o) r wr HJ.out (by rw [HE.out]; exact List.prefix_append _ _)
      have e1 : (⟨r.toArray⟩ : ByteArray).extract 0 o = ⟨(r.take o).toArray⟩ := ba_ext (by rw [Lib.extract_data]; simp)
      have e2 : (⟨r.toArray⟩ : ByteArray).extract (o + 1) (⟨r.toArray⟩ : ByteArray).size = ⟨(r.drop (o + 1)).toArray⟩ := ba_ext (by rw [Lib.extract_data, hsz]; simp; exact List.take_of_length_le (by rw [List.length_drop]; omega))
      rw [← e1] at hy
      have He2 := Lib.hid e2
      have HR := Lib.hid hR
      rw [ho] at HI
      have c2 : (o : Int) ≤ ((⟨r.toArray⟩ : ByteArray).size : Int) := by omega
      have c4 : (o : Int) + 1 ≤ ((⟨r.toArray⟩ : ByteArray).size : Int) := by omega
      have c5 : (o : Int) ≤ 1000000 := by have := HL.out; omega
      have HLt := Lib.hid hlt
      clear ho hpos hR e1 e2 hpt hlt
      generalize hS : (⟨r.toArray⟩ : ByteArray) = S at *
      have HS := Lib.hid hS
      clear hS
      gi_wp2_with ((try refine ⟨trivial, ?_⟩); gi_at_call 64; refine HI.out.mono ?_; rintro e w' ⟨rfl, rfl⟩)
      refine HR.out.mono ?_
      rintro e W3 (⟨rfl, hJ3⟩ | ⟨rfl, hJx3⟩)
      · obtain ⟨k1, k2, k3, k4⟩ := HIt.out _ _ _ hJ3
        rw [HS.out] at k1
        have HJ4 := Lib.hid (Hset.out _ _ (r.drop (o + 1)) _ hJ3)
        clear hJ3 HR hy HJ j1 j2 j3 j4
        have HM4 : Hid (lft Bs (W3.setCell ⟨Bs, 0, none⟩ (.string ⟨(r.drop (o + 1)).toArray⟩)) = (r.drop (o + 1)).length) := lft_at (World.cell?_setCell_same' _ _ _ (by rw [k1]; rfl))
        have he2 := He2.out
        rw [hsz] at he2
        gi_wp2
        go_roundw
        case rel => exact ⟨_, _, HE, by show _ ≤ _; rw [List.length_drop]; have := HL.out; omega, HJ4⟩
        case measure =>
          rw [HM4.out, HM.out, List.length_drop]
          have := HLt.out
          omega
      · have HJ3 := Lib.hid hJx3
        clear hJx3 HR hy
        gi_wp2
        refine bodyPost_ret (results_none rfl _ _ _) rfl ?_
        exact ⟨⟨_, rfl⟩, .inr ⟨_, by rw [HE.out]; exact List.prefix_append _ _, HJ3.out⟩⟩
end Go.Proofs.YtfemfmppjabdjaaDoor.E
