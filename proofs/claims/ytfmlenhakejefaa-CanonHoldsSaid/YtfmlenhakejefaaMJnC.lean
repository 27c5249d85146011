/-
  Layer 14's reference: two nodes merged, whether two states agree, copies, spoilt copies.
-/
import Derived.Test.YtfmlenhakejefaaMQAsk
import Derived.Test.YtfmlenhakejefaaQCat
import Derived.Test.YtfmlenhakejefaaCaN
import Derived.Test.YtfmlenhakejefaaMNPure
import Derived.Test.YtfmlenhakejefaaMVWrite
import Derived.Test.YtfmlenhakejefaaMDRefB

section
namespace Go.Proofs.Ytfmlenhakejefaa.Jn
set_option linter.unusedVariables false
open Go.RowKit V Go.Sort D Nd Qs
attribute [local irreducible] Sch.heldN Sch.stepV Sch.stepE

theorem bel_none {w w1 : World} (hg : w.grownBy w1 none) : Below w.heap.size w w1 := ⟨hg.os, hg.tape, hg.output, hg.size, fun b hb => hg.block b hb (by simp)⟩
set_option maxRecDepth 100000 in
set_option maxHeartbeats 2000000 in
theorem copy_ref (l : List Nt) (a : Option Addr) (c : Nat) (w : World) (hx : RowN w a l) (hna : a = none → c = 0) (hlx : l.length ≤ 1000000) :
    Calls Try.prog 13 #[.slice a l.length c] w fun e w' => ∃ v, e = .returned v ∧ ON w' w.heap.size 38 v l ∧ Below w.heap.size w w' := by
  have HX := Lib.hid hx
  have HNa := Lib.hid hna
  have HLe := Lib.hid hlx
  clear hx hna hlx
  go_enter Try.func13, Try.ntmps13
  go_wp2_with (at_builtin; refine wpList_appN rfl _ _ _ rfl Try.underlying23 infoN (.slice none 0 0) [] rfl (ON.nil _ w.heap.size _) a l c l.length rfl rfl HX.out HNa.out (by have := HLe.out; simp only [List.length_nil]; omega) (Nat.le_refl _) ?_)
  intro v5 w5 ho hg _
  have HO := Lib.hid ho
  have HB := Lib.hid (bel_none hg)
  clear ho hg
  go_wp2_with fail
  go_ret
  exact ⟨v5, rfl, HO.out, HB.out⟩
end Go.Proofs.Ytfmlenhakejefaa.Jn
end

/-
  Layer 17's reference: the bytes of a state.
-/
section
namespace Go.Proofs.Ytfmlenhakejefaa.Ca
set_option linter.unusedVariables false
open Go.RowKit V Go.Sort D Nd Qs Jn
attribute [local irreducible] Sch.heldN Sch.stepV Sch.stepE

/-! ### Two rows of bytes of a call's own -/
/-- They don't share a block. -/
def Apart (v t : Value) : Prop := ∀ k, v.ownBlock = some k → t.ownBlock ≠ some k
def Two (w0 w : World) (v t : Value) (l m : List UInt8) : Prop := O8 w w0.heap.size v l ∧ O8 w w0.heap.size t m ∧ Apart v t ∧ Below w0.heap.size w0 w
section
variable {w0 w w' : World} {v t v' : Value} {l m n : List UInt8}
theorem Apart.symm (h : Apart v t) : Apart t v := fun k hk e => h k e hk
theorem Two.symm (h : Two w0 w v t l m) : Two w0 w t v m l := ⟨h.2.1, h.1, h.2.2.1.symm, h.2.2.2⟩
theorem Two.below (h : Two w0 w v t l m) (hb : Below w.heap.size w w') : Two w0 w' v t l m := ⟨h.1.below hb, h.2.1.below hb, h.2.2.1, h.2.2.2.trans (hb.mono h.2.2.2.size)⟩
theorem Two.fst (h : Two w0 w v t l m) (ho : O8 w' w0.heap.size v' n) (hg : w.grownBy w' v.ownBlock) (hr : Grew w v v') : Two w0 w' v' t n m := by
  refine ⟨ho, h.2.1.keep hg ?_, ?_, h.2.2.2.grown hg h.2.2.2.size fun k hk => (h.1.lt k hk).1⟩
  · rcases hv : t.ownBlock with _ | k
    · exact .inl rfl
    · exact .inr fun e => h.2.2.1 k e.symm hv
  · intro k hk e
    rcases hr with hr | ⟨g, hg1, hg2⟩
    · exact h.2.2.1 k (hr ▸ hk) e
    · rw [hk] at hg1
      cases hg1
      have := (h.2.1.lt k e).2
      omega
theorem Two.snd (h : Two w0 w v t l m) (ho : O8 w' w0.heap.size v' n) (hg : w.grownBy w' t.ownBlock) (hr : Grew w t v') : Two w0 w' v v' l n := (h.symm.fst ho hg hr).symm
theorem Two.nil (h : O8 w w0.heap.size v l) (hb : Below w0.heap.size w0 w) : Two w0 w v (.slice none 0 0) l [] := ⟨h, O8.nil _ _, (fun k _ e => by cases e), hb⟩
end

theorem number_at (z : Int) (h0 : 0 ≤ z) (h1 : z < 18446744073709551616) (w : World) :
    Calls Try.prog 29 #[.int .u64 z] w fun e w' => ∃ a c, e = .returned (.slice a (num z.toNat).length c) ∧ Row8 w' a (num z.toNat) ∧ (a = none → c = 0) ∧ Below w.heap.size w w' := by
  obtain ⟨n, rfl⟩ := Int.eq_ofNat_of_zero_le h0
  refine (number_ref n (by omega) w).mono ?_
  rintro e w' ⟨v, rfl, ho, hb⟩
  obtain ⟨a, c, rfl, hr, hn, -⟩ := ho.row
  exact ⟨a, c, rfl, hr, fun h => (hn h).1, hb⟩
theorem wrapu {z : Int} (h0 : 0 ≤ z) (h1 : z < 18446744073709551616) : IntKind.u64.wrap z = z := by
  simp [IntKind.wrap, IntKind.bits, IntKind.signed]
  omega
theorem wrapi {z : Int} (h0 : -9223372036854775808 ≤ z) (h1 : z < 9223372036854775808) : wrap64 z = z := by
  unfold wrap64
  omega
theorem wp_app8 {w : World} {o : Oper} {a : Act} {K : Act → World → Prop} {Q : Exit → Act → World → Prop} (s x : Operand)
    (ho : o.op = .call { callee := .builtin .append, args := #[s, x], argTypes := #[24, 24] })
    (base : Nat) (v : Value) (l : List UInt8) (hs : a.eval s = v) (h : O8 w base v l) (ad : Option Addr) (m : List UInt8) (c : Nat) (hx : a.eval x = .slice ad m.length c) (hrow : Row8 w ad m) (hnil : ad = none → c = 0)
    (hlen : l.length + m.length ≤ 70368744177664) (hbase : base ≤ w.heap.size)
    (hk : ∀ v' w', O8 w' base v' (l ++ m) → w.grownBy w' v.ownBlock → Grew w v v' → K (a.put o.dst v') w') : o.wp Try.prog a w K Q := by
  obtain ⟨v', w', hr, h2, h3, h4⟩ := run_app8 h o.type ad m c hrow hnil hlen hbase
  unfold Oper.wp execOp
  simp only [ho, resolve, invoke, builtin, Sem.run_bind, Sem.run_pure, Result.andThen_ok, List.map_toArray, List.map_cons, List.map_nil, hs, hx, hr]
  exact hk v' w' h2 h3 h4
theorem rune_at (z : Int) (h0 : 0 ≤ z) (h1 : z ≤ 1114111) (w : World) :
    Calls Try.prog 30 #[.int .i32 z] w fun e w' => ∃ a c, e = .returned (.slice a (R.enc z.toNat).length c) ∧ Row8 w' a (R.enc z.toNat) ∧ (a = none → c = 0) ∧ Below w.heap.size w w' := by
  obtain ⟨n, rfl⟩ := Int.eq_ofNat_of_zero_le h0
  refine (rune_ref n (by omega) w).mono ?_
  rintro e w' ⟨v, rfl, ho, hb⟩
  obtain ⟨a, c, rfl, hr, hn, -⟩ := ho.row
  exact ⟨a, c, rfl, hr, fun h => (hn h).1, hb⟩

/-! ### One node more -/
def lastC : Int → List Nt → Int
  | z, [] => z
  | _, x :: t => lastC x.1.2 t
theorem lastC_snoc (z : Int) (l : List Nt) (x : Nt) : lastC z (l ++ [x]) = x.1.2 := by
  induction l generalizing z with
  | nil => rfl
  | cons y t ih => exact ih _
theorem nodesB_snoc (z : Int) (l : List Nt) (x : Nt) : nodesB z (l ++ [x]) = nodesB z l ++ nodeB (lastC z l) x := by
  induction l generalizing z with
  | nil => simp [nodesB, lastC]
  | cons y t ih => simp only [List.cons_append, nodesB, lastC, ih, List.append_assoc]
theorem textB_snoc (l : List Nt) (x : Nt) : textB (l ++ [x]) = textB l ++ runeB x := by simp [textB]
theorem take_one (l : List Nt) (k : Nat) (h : k < l.length) : l.take (k + 1) = l.take k ++ [l[k]] := by
  rw [List.take_succ_eq_append_getElem h]
/-- The next counter is not before the last one. -/
theorem last_le {z : Int} {l : List Nt} (h : Up z l) (k : Nat) (hk : k < l.length) : lastC z (l.take k) ≤ l[k].1.2 ∧ VN l[k] := by
  induction l generalizing z k with
  | nil => simp at hk
  | cons x t ih =>
    rcases k with _ | k
    · exact ⟨h.1, h.2.1⟩
    · exact ih h.2.2 k (by simpa using hk)
theorem last_pos {z : Int} {l : List Nt} (h : Up z l) (hz : 0 ≤ z) (k : Nat) (hk : k ≤ l.length) : 0 ≤ lastC z (l.take k) := by
  induction l generalizing z k with
  | nil => simpa [lastC] using hz
  | cons x t ih =>
    rcases k with _ | k
    · exact hz
    · exact ih h.2.2 (Int.le_trans hz h.1) k (by simpa using hk)
/-- A copy of a node in a block of its own. -/
def Bn (g : Nat) (n : Nt) (w : World) : Prop := Na w g 0 n
theorem Bn.new (w : World) (n : Nt) : Bn w.heap.size n (w.alloc (.cells #[.int .i64 n.1.1, .int .i64 n.1.2, .int .i64 n.2.1.1, .int .i64 n.2.1.2, .int .i64 n.2.2.1, .int .i32 n.2.2.2] 38)) := by
  refine ⟨?_, ?_, ?_, ?_, ?_, ?_⟩ <;> · rw [World.cell?_alloc_new]; rfl
theorem Bn.keep {g : Nat} {n : Nt} {w w' : World} (h : Bn g n w) (hb : Below w.heap.size w w') : Bn g n w' := Na.keep h hb
theorem Bn.gb {g : Nat} {n : Nt} {w w' : World} {r : Option Nat} (h : Bn g n w) (hg : w.grownBy w' r) (hne : ∀ k, r = some k → k ≠ g) : Bn g n w' := by
  have hl : g < w.heap.size := lt_of_cell h.1
  have e : w'.heap[g]? = w.heap[g]? := hg.block g hl (fun e => hne g e.symm rfl)
  obtain ⟨h0, h1, h2, h3, h4, h5⟩ := h
  exact ⟨(World.cell?_of_block (a := ⟨g, _, none⟩) e).trans h0, (World.cell?_of_block (a := ⟨g, _, none⟩) e).trans h1, (World.cell?_of_block (a := ⟨g, _, none⟩) e).trans h2, (World.cell?_of_block (a := ⟨g, _, none⟩) e).trans h3, (World.cell?_of_block (a := ⟨g, _, none⟩) e).trans h4, (World.cell?_of_block (a := ⟨g, _, none⟩) e).trans h5⟩
theorem Bn.l0 {g : Nat} {n : Nt} : ∀ w, Bn g n w → (Instr.loadAt 3 (.pointer (some ⟨g, 0, none⟩))).run Try.prog w = .ok (.int .i64 n.1.1) w := by
  intro w h
  obtain ⟨h0, h1, h2, h3, h4, h5⟩ := h
  go_simp
theorem Bn.l1 {g : Nat} {n : Nt} : ∀ w, Bn g n w → (Instr.loadAt 3 (.pointer (some ⟨g, 1, none⟩))).run Try.prog w = .ok (.int .i64 n.1.2) w := by
  intro w h
  obtain ⟨h0, h1, h2, h3, h4, h5⟩ := h
  simp only [Nat.zero_add] at h1
  go_simp
theorem Bn.cells {g : Nat} {n : Nt} {w : World} (h : Bn g n w) : w.cell? ⟨g, 0, none⟩ = some (.int .i64 n.1.1) ∧ w.cell? ⟨g, 1, none⟩ = some (.int .i64 n.1.2) ∧ w.cell? ⟨g, 2, none⟩ = some (.int .i64 n.2.1.1) ∧ w.cell? ⟨g, 3, none⟩ = some (.int .i64 n.2.1.2) ∧
    w.cell? ⟨g, 4, none⟩ = some (.int .i64 n.2.2.1) ∧ w.cell? ⟨g, 5, none⟩ = some (.int .i32 n.2.2.2) := by
  obtain ⟨h0, h1, h2, h3, h4, h5⟩ := h
  simp only [Nat.zero_add] at h1 h2 h3 h4 h5
  exact ⟨h0, h1, h2, h3, h4, h5⟩
/-- Two rows of the call's own and the node's copy beside them. -/
def St (w0 : World) (g : Nat) (n : Nt) (w : World) (v t : Value) (l m : List UInt8) : Prop := Two w0 w v t l m ∧ Bn g n w ∧ (∀ k, v.ownBlock = some k → k ≠ g) ∧ (∀ k, t.ownBlock = some k → k ≠ g)
section
variable {w0 w w' : World} {g : Nat} {q : Nt} {v t v' : Value} {l m n : List UInt8}
theorem St.below (h : St w0 g q w v t l m) (hb : Below w.heap.size w w') : St w0 g q w' v t l m := ⟨h.1.below hb, h.2.1.keep hb, h.2.2⟩
theorem St.fst (h : St w0 g q w v t l m) (ho : O8 w' w0.heap.size v' n) (hg : w.grownBy w' v.ownBlock) (hr : Grew w v v') : St w0 g q w' v' t n m := by
  refine ⟨h.1.fst ho hg hr, h.2.1.gb hg h.2.2.1, ?_, h.2.2.2⟩
  have hl : g < w.heap.size := lt_of_cell h.2.1.1
  intro k hk
  rcases hr with hr | ⟨k', h1, h2⟩
  · exact h.2.2.1 k (hr ▸ hk)
  · rw [hk] at h1
    cases h1
    omega
theorem St.symm (h : St w0 g q w v t l m) : St w0 g q w t v m l := ⟨h.1.symm, h.2.1, h.2.2.2, h.2.2.1⟩
theorem St.snd (h : St w0 g q w v t l m) (ho : O8 w' w0.heap.size v' n) (hg : w.grownBy w' t.ownBlock) (hr : Grew w t v') : St w0 g q w' v v' l n := (h.symm.fst ho hg hr).symm
theorem St.new (h : Two w0 w v t l m) (q : Nt) : St w0 w.heap.size q (w.alloc (.cells #[.int .i64 q.1.1, .int .i64 q.1.2, .int .i64 q.2.1.1, .int .i64 q.2.1.2, .int .i64 q.2.2.1, .int .i32 q.2.2.2] 38)) v t l m :=
  ⟨h.below ((Below.refl _ _).alloc (Nat.le_refl _) _), Bn.new w q, (fun k hk e => by have := (h.1.lt k hk).2; omega), (fun k hk e => by have := (h.2.1.lt k hk).2; omega)⟩
end
theorem nodesB_len : ∀ (l : List Nt) (z : Int), 0 ≤ z → Up z l → (nodesB z l).length ≤ 50 * l.length ∧ (textB l).length ≤ 4 * l.length := by
  intro l
  induction l with
  | nil => intro _ _ _; simp [nodesB, textB]
  | cons x t ih =>
    intro z hz h
    obtain ⟨h1, h2, h3⟩ := h
    have k := ih _ (Int.le_trans hz h1) h3
    have d := dot_fits h2.1
    have p := par_fits h2.2.1
    have n1 := num_ten (n := x.1.1.toNat) (by omega)
    have n2 := num_ten (n := (x.1.2 - z).toNat) (by omega)
    have n3 := num_ten (n := x.2.1.1.toNat) (by omega)
    have n4 := num_ten (n := x.2.1.2.toNat) (by omega)
    have t4 := h2.2.2.2
    have n5 : (timeB x).length ≤ 10 := num_ten (by split <;> omega)
    have n6 : (runeB x).length ≤ 4 := by
      unfold runeB
      split
      · simp
      · exact (R.enc_len _).2
    have n7 : (if x.2.1.1 = 0 then [] else num x.2.1.2.toNat).length ≤ 10 := by
      split
      · simp
      · exact n4
    simp only [nodesB, nodeB, headB, textB, List.flatMap_cons, List.length_append, List.length_cons] at k ⊢
    omega
theorem up_take {z : Int} {l : List Nt} (h : Up z l) (k : Nat) : Up z (l.take k) := by
  induction l generalizing z k with
  | nil => simpa using h
  | cons x t ih =>
    rcases k with _ | k
    · trivial
    · exact ⟨h.1, h.2.1, ih h.2.2 k⟩
theorem row_of {w : World} {base n c : Nat} {a : Option Addr} {l : List UInt8} (h : O8 w base (.slice a n c) l) : Row8 w a l ∧ (a = none → c = 0) := by
  obtain ⟨a', c', e, hr, hn, -⟩ := h.row
  cases e
  exact ⟨hr, fun k => (hn k).1⟩
theorem num_le (n : Nat) (h : n < 18446744073709551616) : (num n).length ≤ 10 := num_ten h
set_option maxRecDepth 100000 in
set_option maxHeartbeats 8000000 in
theorem bytes_ref (l : List Nt) (hv : validS l = true) (a : Option Addr) (c : Nat) (w : World) (hx : RowN w a l) (hlx : l.length ≤ 100000) :
    Calls Try.prog 14 #[.slice a l.length c] w fun e w' => ∃ v, e = .returned v ∧ O8 w' w.heap.size v (stateB l) ∧ Below w.heap.size w w' := by
  have HU := Lib.hid (valid_up hv)
  have HX := Lib.hid hx
  have HL := Lib.hid hlx
  have hi : (l.length : Int) ≤ 100000 := by omega
  have HNl := Lib.hid (num_ten (n := l.length) (by omega))
  clear hv hx hlx
  go_enter Try.func14, Try.ntmps14
  go_wp2_with fail
  refine (number_ref l.length (by have := HL.out; omega) w).mono ?_
  rintro e w1 ⟨v1, rfl, ho, hb⟩
  have HT0 : Hid (Two w w1 v1 (.slice none 0 0) (num l.length) []) := Two.nil ho hb
  clear ho hb
  go_wp2_with fail
  go_loopw [3, 4, 5, 6] (fun v t la i wr => ∃ k : Nat, k ≤ l.length ∧ i = .int .i64 (k : Int) ∧ la = .int .i64 (lastC 0 (l.take k)) ∧ Hid (Two w wr v t (num l.length ++ nodesB 0 (l.take k)) (textB (l.take k)))) (fun _ _ _ i _ => l.length - (intOf i).toNat)
  case atStart => exact ⟨0, Nat.zero_le _, rfl, rfl, by show Two _ _ _ _ _ _; simpa [nodesB, textB] using HT0.out⟩
  case round =>
    obtain ⟨k, hk, rfl, rfl, HZ⟩ := hrel
    by_cases hlt : k < l.length
    · have hi0 : (k : Int) < (l.length : Int) := by omega
      obtain ⟨b1, o1, rfl, hna⟩ := na_of (HX.out.keep HZ.out.2.2.2) k hlt
      have hx0 := ixS b1 o1 l.length c k (k : Int) rfl hlt
      have hla := last_le HU.out k hlt
      have hl0 := last_pos HU.out (Int.le_refl 0) k hk
      have hlen := nodesB_len (l.take k) 0 (Int.le_refl 0) (up_take HU.out k)
      have hkl : (l.take k).length ≤ 100000 := by have := HL.out; rw [List.length_take]; omega
      have LP : Hid ((num l.length ++ nodesB 0 (l.take k)).length ≤ 6000000) := by have := HNl.out; show _ ≤ _; rw [List.length_append]; omega
      have LX : Hid ((textB (l.take k)).length ≤ 6000000) := by show _ ≤ _; omega
      clear hlen hkl
      have HBl := Lib.hid (nodesB_snoc 0 (l.take k) l[k])
      have HTl := Lib.hid (textB_snoc (l.take k) l[k])
      have HLa := Lib.hid (lastC_snoc 0 (l.take k) l[k])
      rw [← take_one l k hlt] at HBl HTl HLa
      obtain ⟨q, hq⟩ : ∃ q, q = l[k] := ⟨_, rfl⟩
      rw [← hq] at hna hla HBl HTl HLa
      clear hq
      obtain ⟨hla, hvn⟩ := hla
      have hd := dot_fits hvn.1
      have hp := par_fits hvn.2.1
      have ht := hvn.2.2.2
      clear hvn
      have HS := Lib.hid (St.new HZ.out q)
      generalize hLA : lastC 0 (l.take k) = la at *
      obtain ⟨P, hP⟩ : ∃ P, P = num l.length ++ nodesB 0 (l.take k) := ⟨_, rfl⟩
      have HP : Hid (num l.length ++ nodesB 0 (l.take (k + 1)) = P ++ nodeB la q) := by show _ = _; rw [HBl.out, ← List.append_assoc, hP]
      rw [← hP] at HS LP
      clear HZ hP HBl hLA
      generalize textB (l.take k) = X at *
      obtain ⟨n0, n1, n2, n3, n4, n5⟩ := hna
      obtain ⟨⟨q1, q2⟩, ⟨q3, q4⟩, q5, q6⟩ := q
      obtain ⟨b1', b2', b3', b4'⟩ := hd
      obtain ⟨t1, t2, t3⟩ := ht
      simp only at b1' b2' b3' b4' t1 t2 t3 hp hla
      have N1 := Lib.hid (num_ten (n := q1.toNat) (by omega))
      have N2 := Lib.hid (num_ten (n := (q2 - la).toNat) (by omega))
      have N3 := Lib.hid (num_ten (n := q3.toNat) (by omega))
      have N4 := Lib.hid (num_ten (n := q4.toNat) (by omega))
      have N5 := Lib.hid (num_ten (n := (2 * q5 + 1).toNat) (by omega))
      have N6 := Lib.hid (num_ten (n := (2 * q5).toNat) (by omega))
      go_wp2_with fail
      refine Sch.wp_region_tn (Bn wr.heap.size ((q1, q2), (q3, q4), q5, q6)) (.val 0 (.val 1 (.val 2 (.val 3 (.val 4 (.val 7 (.val 8 (.val 9 (.val 10 (.val 11 (.val 12 (.one 5 (.one 6 (.one 13 (.one 14 (.val 15 .done)))))))))))))))) (by kernel_rfl) (by kernel_rfl) HS.out.2.1 ?_
      repeat (first
        | (refine Sch.tn_q rfl rfl rfl (fun K hK => ?_); go_big_quiet_op; (first | refine hK _ ?_ | refine ⟨_, fun _ _ => rfl, hK _ ?_⟩); clear hK K)
        | (refine Sch.tn_load _ _ _ _ _ rfl rfl rfl rfl (by first | exact Bn.l0 | exact Bn.l1) rfl ?_; simp only [Act.put, List.setIfInBounds_toArray, List.set_cons_zero, List.set_cons_succ]))
      replace HS := Lib.hid (HS.out.below ((Below.refl _ _).drew))
      clear n0 n1 n2 n3 n4 n5
      generalize (wr.alloc (.cells #[.int .i64 q1, .int .i64 q2, .int .i64 q3, .int .i64 q4, .int .i64 q5, .int .i32 q6] 38)).drew = w2 at *
      refine Sch.tn_e rfl rfl (fun K hK => ?_)
      go_wp2_with fail
      refine (number_at q1 (by omega) (by omega) w2).mono ?_
      rintro e w3 ⟨a1, c1, rfl, hr, hn, hb⟩
      replace HS := Lib.hid (HS.out.below hb)
      have HR := Lib.hid hr
      have HN := Lib.hid hn
      clear hr hn hb
      refine hK _ _ HS.out.2.1 ?_
      clear hK K
      try simp only [Act.put, List.setIfInBounds_toArray, List.set_cons_zero, List.set_cons_succ]
      refine Sch.tn_e rfl rfl (fun K hK => ?_)
      refine wp_app8 _ _ rfl _ _ _ rfl HS.out.1.1 _ _ _ rfl HR.out HN.out (by have := LP.out; have := LX.out; have := N1.out; have := N2.out; have := N3.out; have := N4.out; have := N5.out; have := N6.out; (try simp only [List.length_append]); omega) HS.out.1.2.2.2.size ?_
      intro v2 w4 ho hg hgr
      replace HS := Lib.hid (HS.out.fst ho hg hgr)
      clear ho hg hgr HR HN
      refine hK _ _ HS.out.2.1 ?_
      clear hK K
      try simp only [Act.put, List.setIfInBounds_toArray, List.set_cons_zero, List.set_cons_succ]
      refine Sch.tn_e rfl rfl (fun K hK => ?_)
      go_wp2_with fail
      refine (number_at (q2 - la) (by omega) (by omega) _).mono ?_
      rintro e w5 ⟨a3, c3, rfl, hr, hn, hb⟩
      replace HS := Lib.hid (HS.out.below hb)
      have HR := Lib.hid hr
      have HN := Lib.hid hn
      clear hr hn hb
      refine hK _ _ HS.out.2.1 ?_
      clear hK K
      try simp only [Act.put, List.setIfInBounds_toArray, List.set_cons_zero, List.set_cons_succ]
      refine Sch.tn_e rfl rfl (fun K hK => ?_)
      refine wp_app8 _ _ rfl _ _ _ rfl HS.out.1.1 _ _ _ rfl HR.out HN.out (by have := LP.out; have := LX.out; have := N1.out; have := N2.out; have := N3.out; have := N4.out; have := N5.out; have := N6.out; (try simp only [List.length_append]); omega) HS.out.1.2.2.2.size ?_
      intro v4 w6 ho hg hgr
      replace HS := Lib.hid (HS.out.fst ho hg hgr)
      clear ho hg hgr HR HN
      refine hK _ _ HS.out.2.1 ?_
      clear hK K
      try simp only [Act.put, List.setIfInBounds_toArray, List.set_cons_zero, List.set_cons_succ]
      repeat (refine Sch.tn_q rfl rfl rfl (fun K hK => ?_); go_big_quiet_op; (first | refine hK _ ?_ | refine ⟨_, fun _ _ => rfl, hK _ ?_⟩); clear hK K)
      refine Sch.tn_n ?_
      obtain ⟨n0, n1, n2, n3, n4, n5⟩ := HS.out.2.1.cells
      go_wp2_with fail
      clear n0 n1 n2 n3 n4 n5
      refine (number_at q3 (by omega) (by omega) _).mono ?_
      rintro e w7 ⟨a5, c5, rfl, hr, hn, hb⟩
      replace HS := Lib.hid (HS.out.below hb)
      have HR := Lib.hid hr
      have HN := Lib.hid hn
      clear hr hn hb
      simp only [nodeB, headB, timeB] at HP
      generalize num q3.toNat = B3 at *
      by_cases hz : q3 = 0
      · have hzb : (q3 != 0) = false := by simp [hz]
        by_cases h6 : q6 = 0
        · have h6b : (q6 == 0) = true := by simp [h6]
          obtain ⟨n0, n1, n2, n3, n4, n5⟩ := HS.out.2.1.cells
          go_wp2_with (at_builtin; refine wpList_app8 rfl (.tmp 40) (.tmp 45) rfl _ _ _ rfl HS.out.1.1 _ _ _ rfl HR.out HN.out (by have := LP.out; have := LX.out; have := N1.out; have := N2.out; have := N3.out; have := N4.out; have := N5.out; have := N6.out; (try simp only [List.length_append]); omega) HS.out.1.2.2.2.size ?_; intro v6 w8 ho hg hgr; replace HS := Lib.hid (HS.out.fst ho hg hgr); clear ho hg hgr HR HN n0 n1 n2 n3 n4 n5; obtain ⟨n0, n1, n2, n3, n4, n5⟩ := HS.out.2.1.cells)
          clear n0 n1 n2 n3 n4 n5
          refine (number_at (2 * q5 + 1) (by omega) (by omega) _).mono ?_
          rintro e w9 ⟨a7, c7, rfl, hr, hn, hb⟩
          replace HS := Lib.hid (HS.out.below hb)
          have HR := Lib.hid hr
          have HN := Lib.hid hn
          clear hr hn hb
          obtain ⟨n0, n1, n2, n3, n4, n5⟩ := HS.out.2.1.cells
          go_wp2_with (at_builtin; refine wpList_app8 rfl (.tmp 61) (.tmp 67) rfl _ _ _ rfl HS.out.1.1 _ _ _ rfl HR.out HN.out (by have := LP.out; have := LX.out; have := N1.out; have := N2.out; have := N3.out; have := N4.out; have := N5.out; have := N6.out; (try simp only [List.length_append]); omega) HS.out.1.2.2.2.size ?_; intro v8 w10 ho hg hgr; replace HS := Lib.hid (HS.out.fst ho hg hgr); clear ho hg hgr HR HN n0 n1 n2 n3 n4 n5; obtain ⟨n0, n1, n2, n3, n4, n5⟩ := HS.out.2.1.cells)
          clear n0 n1 n2 n3 n4 n5
          have hS := HS.out.1
          have e5 : 2 * q5.toNat + 1 = (2 * q5 + 1).toNat := by omega
          simp only [if_pos hz, if_pos h6, List.append_nil, List.nil_append, e5] at HP
          simp only [runeB, if_pos h6, List.append_nil] at HTl
          simp only [List.append_assoc] at hS HP
          go_roundw
          case rel => exact ⟨k + 1, by omega, by go_num, by rw [HLa.out], by show Two _ _ _ _ _ _; rw [HTl.out, HP.out]; exact hS⟩
          case measure => simp [intOf]; omega
        · have h6b : (q6 == 0) = false := by simp [h6]
          obtain ⟨n0, n1, n2, n3, n4, n5⟩ := HS.out.2.1.cells
          go_wp2_with (at_builtin; refine wpList_app8 rfl (.tmp 40) (.tmp 45) rfl _ _ _ rfl HS.out.1.1 _ _ _ rfl HR.out HN.out (by have := LP.out; have := LX.out; have := N1.out; have := N2.out; have := N3.out; have := N4.out; have := N5.out; have := N6.out; (try simp only [List.length_append]); omega) HS.out.1.2.2.2.size ?_; intro v6 w8 ho hg hgr; replace HS := Lib.hid (HS.out.fst ho hg hgr); clear ho hg hgr HR HN n0 n1 n2 n3 n4 n5; obtain ⟨n0, n1, n2, n3, n4, n5⟩ := HS.out.2.1.cells)
          clear n0 n1 n2 n3 n4 n5
          have hru : 0 ≤ q6 ∧ q6 ≤ 1114111 := by
            obtain ⟨n, en, _, hn, _⟩ := vld_nat (t3.resolve_left h6)
            omega
          obtain ⟨hr0, hr1⟩ := hru
          have N7 := Lib.hid (R.enc_len q6.toNat).2
          refine (number_at (2 * q5) (by omega) (by omega) _).mono ?_
          rintro e w9 ⟨a7, c7, rfl, hr, hn, hb⟩
          replace HS := Lib.hid (HS.out.below hb)
          have HR := Lib.hid hr
          have HN := Lib.hid hn
          clear hr hn hb
          obtain ⟨n0, n1, n2, n3, n4, n5⟩ := HS.out.2.1.cells
          go_wp2_with (at_builtin; refine wpList_app8 rfl (.tmp 69) (.tmp 74) rfl _ _ _ rfl HS.out.1.1 _ _ _ rfl HR.out HN.out (by have := LP.out; have := LX.out; have := N1.out; have := N2.out; have := N3.out; have := N4.out; have := N5.out; have := N6.out; (try simp only [List.length_append]); omega) HS.out.1.2.2.2.size ?_; intro v8 w10 ho hg hgr; replace HS := Lib.hid (HS.out.fst ho hg hgr); clear ho hg hgr HR HN n0 n1 n2 n3 n4 n5; obtain ⟨n0, n1, n2, n3, n4, n5⟩ := HS.out.2.1.cells)
          clear n0 n1 n2 n3 n4 n5
          refine (rune_at q6 (by omega) (by omega) _).mono ?_
          rintro e w11 ⟨a9, c9, rfl, hr, hn, hb⟩
          replace HS := Lib.hid (HS.out.below hb)
          have HR := Lib.hid hr
          have HN := Lib.hid hn
          clear hr hn hb
          obtain ⟨n0, n1, n2, n3, n4, n5⟩ := HS.out.2.1.cells
          go_wp2_with (at_builtin; refine wpList_app8 rfl (.tmp 76) (.tmp 79) rfl _ _ _ rfl HS.out.1.2.1 _ _ _ rfl HR.out HN.out (by have := N7.out; have := LP.out; have := LX.out; have := N1.out; have := N2.out; have := N3.out; have := N4.out; have := N5.out; have := N6.out; (try simp only [List.length_append]); omega) HS.out.1.2.2.2.size ?_; intro v10 w12 ho hg hgr; replace HS := Lib.hid (HS.out.snd ho hg hgr); clear ho hg hgr HR HN n0 n1 n2 n3 n4 n5; obtain ⟨n0, n1, n2, n3, n4, n5⟩ := HS.out.2.1.cells)
          clear n0 n1 n2 n3 n4 n5
          have hS := HS.out.1
          have e5 : 2 * q5.toNat + 0 = (2 * q5).toNat := by omega
          simp only [if_pos hz, if_neg h6, List.append_nil, List.nil_append, e5] at HP
          simp only [runeB, if_neg h6, List.append_nil] at HTl
          simp only [List.append_assoc] at hS HP
          go_roundw
          case rel => exact ⟨k + 1, by omega, by go_num, by rw [HLa.out], by show Two _ _ _ _ _ _; rw [HTl.out, HP.out]; exact hS⟩
          case measure => simp [intOf]; omega
      · have hzb : (q3 != 0) = true := by simp [hz]
        by_cases h6 : q6 = 0
        · have h6b : (q6 == 0) = true := by simp [h6]
          obtain ⟨n0, n1, n2, n3, n4, n5⟩ := HS.out.2.1.cells
          go_wp2_with (at_builtin; refine wpList_app8 rfl (.tmp 40) (.tmp 45) rfl _ _ _ rfl HS.out.1.1 _ _ _ rfl HR.out HN.out (by have := LP.out; have := LX.out; have := N1.out; have := N2.out; have := N3.out; have := N4.out; have := N5.out; have := N6.out; (try simp only [List.length_append]); omega) HS.out.1.2.2.2.size ?_; intro v6 w8 ho hg hgr; replace HS := Lib.hid (HS.out.fst ho hg hgr); clear ho hg hgr HR HN n0 n1 n2 n3 n4 n5; obtain ⟨n0, n1, n2, n3, n4, n5⟩ := HS.out.2.1.cells)
          clear n0 n1 n2 n3 n4 n5
          refine (number_at q4 (by omega) (by omega) _).mono ?_
          rintro e w9 ⟨a7, c7, rfl, hr, hn, hb⟩
          replace HS := Lib.hid (HS.out.below hb)
          have HR := Lib.hid hr
          have HN := Lib.hid hn
          clear hr hn hb
          obtain ⟨n0, n1, n2, n3, n4, n5⟩ := HS.out.2.1.cells
          go_wp2_with (at_builtin; refine wpList_app8 rfl (.tmp 51) (.tmp 56) rfl _ _ _ rfl HS.out.1.1 _ _ _ rfl HR.out HN.out (by have := LP.out; have := LX.out; have := N1.out; have := N2.out; have := N3.out; have := N4.out; have := N5.out; have := N6.out; (try simp only [List.length_append]); omega) HS.out.1.2.2.2.size ?_; intro v8 w10 ho hg hgr; replace HS := Lib.hid (HS.out.fst ho hg hgr); clear ho hg hgr HR HN n0 n1 n2 n3 n4 n5; obtain ⟨n0, n1, n2, n3, n4, n5⟩ := HS.out.2.1.cells)
          clear n0 n1 n2 n3 n4 n5
          refine (number_at (2 * q5 + 1) (by omega) (by omega) _).mono ?_
          rintro e w11 ⟨a9, c9, rfl, hr, hn, hb⟩
          replace HS := Lib.hid (HS.out.below hb)
          have HR := Lib.hid hr
          have HN := Lib.hid hn
          clear hr hn hb
          obtain ⟨n0, n1, n2, n3, n4, n5⟩ := HS.out.2.1.cells
          go_wp2_with (at_builtin; refine wpList_app8 rfl (.tmp 61) (.tmp 67) rfl _ _ _ rfl HS.out.1.1 _ _ _ rfl HR.out HN.out (by have := LP.out; have := LX.out; have := N1.out; have := N2.out; have := N3.out; have := N4.out; have := N5.out; have := N6.out; (try simp only [List.length_append]); omega) HS.out.1.2.2.2.size ?_; intro v10 w12 ho hg hgr; replace HS := Lib.hid (HS.out.fst ho hg hgr); clear ho hg hgr HR HN n0 n1 n2 n3 n4 n5; obtain ⟨n0, n1, n2, n3, n4, n5⟩ := HS.out.2.1.cells)
          clear n0 n1 n2 n3 n4 n5
          have hS := HS.out.1
          have e5 : 2 * q5.toNat + 1 = (2 * q5 + 1).toNat := by omega
          simp only [if_neg hz, if_pos h6, List.append_nil, List.nil_append, e5] at HP
          simp only [runeB, if_pos h6, List.append_nil] at HTl
          simp only [List.append_assoc] at hS HP
          go_roundw
          case rel => exact ⟨k + 1, by omega, by go_num, by rw [HLa.out], by show Two _ _ _ _ _ _; rw [HTl.out, HP.out]; exact hS⟩
          case measure => simp [intOf]; omega
        · have h6b : (q6 == 0) = false := by simp [h6]
          obtain ⟨n0, n1, n2, n3, n4, n5⟩ := HS.out.2.1.cells
          go_wp2_with (at_builtin; refine wpList_app8 rfl (.tmp 40) (.tmp 45) rfl _ _ _ rfl HS.out.1.1 _ _ _ rfl HR.out HN.out (by have := LP.out; have := LX.out; have := N1.out; have := N2.out; have := N3.out; have := N4.out; have := N5.out; have := N6.out; (try simp only [List.length_append]); omega) HS.out.1.2.2.2.size ?_; intro v6 w8 ho hg hgr; replace HS := Lib.hid (HS.out.fst ho hg hgr); clear ho hg hgr HR HN n0 n1 n2 n3 n4 n5; obtain ⟨n0, n1, n2, n3, n4, n5⟩ := HS.out.2.1.cells)
          clear n0 n1 n2 n3 n4 n5
          refine (number_at q4 (by omega) (by omega) _).mono ?_
          rintro e w9 ⟨a7, c7, rfl, hr, hn, hb⟩
          replace HS := Lib.hid (HS.out.below hb)
          have HR := Lib.hid hr
          have HN := Lib.hid hn
          clear hr hn hb
          obtain ⟨n0, n1, n2, n3, n4, n5⟩ := HS.out.2.1.cells
          go_wp2_with (at_builtin; refine wpList_app8 rfl (.tmp 51) (.tmp 56) rfl _ _ _ rfl HS.out.1.1 _ _ _ rfl HR.out HN.out (by have := LP.out; have := LX.out; have := N1.out; have := N2.out; have := N3.out; have := N4.out; have := N5.out; have := N6.out; (try simp only [List.length_append]); omega) HS.out.1.2.2.2.size ?_; intro v8 w10 ho hg hgr; replace HS := Lib.hid (HS.out.fst ho hg hgr); clear ho hg hgr HR HN n0 n1 n2 n3 n4 n5; obtain ⟨n0, n1, n2, n3, n4, n5⟩ := HS.out.2.1.cells)
          clear n0 n1 n2 n3 n4 n5
          have hru : 0 ≤ q6 ∧ q6 ≤ 1114111 := by
            obtain ⟨n, en, _, hn, _⟩ := vld_nat (t3.resolve_left h6)
            omega
          obtain ⟨hr0, hr1⟩ := hru
          have N7 := Lib.hid (R.enc_len q6.toNat).2
          refine (number_at (2 * q5) (by omega) (by omega) _).mono ?_
          rintro e w11 ⟨a9, c9, rfl, hr, hn, hb⟩
          replace HS := Lib.hid (HS.out.below hb)
          have HR := Lib.hid hr
          have HN := Lib.hid hn
          clear hr hn hb
          obtain ⟨n0, n1, n2, n3, n4, n5⟩ := HS.out.2.1.cells
          go_wp2_with (at_builtin; refine wpList_app8 rfl (.tmp 69) (.tmp 74) rfl _ _ _ rfl HS.out.1.1 _ _ _ rfl HR.out HN.out (by have := LP.out; have := LX.out; have := N1.out; have := N2.out; have := N3.out; have := N4.out; have := N5.out; have := N6.out; (try simp only [List.length_append]); omega) HS.out.1.2.2.2.size ?_; intro v10 w12 ho hg hgr; replace HS := Lib.hid (HS.out.fst ho hg hgr); clear ho hg hgr HR HN n0 n1 n2 n3 n4 n5; obtain ⟨n0, n1, n2, n3, n4, n5⟩ := HS.out.2.1.cells)
          clear n0 n1 n2 n3 n4 n5
          refine (rune_at q6 (by omega) (by omega) _).mono ?_
          rintro e w13 ⟨a11, c11, rfl, hr, hn, hb⟩
          replace HS := Lib.hid (HS.out.below hb)
          have HR := Lib.hid hr
          have HN := Lib.hid hn
          clear hr hn hb
          obtain ⟨n0, n1, n2, n3, n4, n5⟩ := HS.out.2.1.cells
          go_wp2_with (at_builtin; refine wpList_app8 rfl (.tmp 76) (.tmp 79) rfl _ _ _ rfl HS.out.1.2.1 _ _ _ rfl HR.out HN.out (by have := N7.out; have := LP.out; have := LX.out; have := N1.out; have := N2.out; have := N3.out; have := N4.out; have := N5.out; have := N6.out; (try simp only [List.length_append]); omega) HS.out.1.2.2.2.size ?_; intro v12 w14 ho hg hgr; replace HS := Lib.hid (HS.out.snd ho hg hgr); clear ho hg hgr HR HN n0 n1 n2 n3 n4 n5; obtain ⟨n0, n1, n2, n3, n4, n5⟩ := HS.out.2.1.cells)
          clear n0 n1 n2 n3 n4 n5
          have hS := HS.out.1
          have e5 : 2 * q5.toNat + 0 = (2 * q5).toNat := by omega
          simp only [if_neg hz, if_neg h6, List.append_nil, List.nil_append, e5] at HP
          simp only [runeB, if_neg h6, List.append_nil] at HTl
          simp only [List.append_assoc] at hS HP
          go_roundw
          case rel => exact ⟨k + 1, by omega, by go_num, by rw [HLa.out], by show Two _ _ _ _ _ _; rw [HTl.out, HP.out]; exact hS⟩
          case measure => simp [intOf]; omega
    · obtain rfl : k = l.length := by omega
      have hend : ¬ (l.length : Int) < (l.length : Int) := by omega
      rw [List.take_length] at HZ
      obtain ⟨lp, lx⟩ := nodesB_len l 0 (Int.le_refl 0) HU.out
      have hnl := HNl.out
      obtain ⟨P, hP⟩ : ∃ P, P = num l.length ++ nodesB 0 l := ⟨_, rfl⟩
      have hPl : P.length ≤ 10 + 50 * l.length := by rw [hP, List.length_append]; omega
      have HSt : Hid (stateB l = P ++ num (textB l).length ++ textB l) := by show _ = _; rw [hP]; simp [stateB]
      rw [← hP] at HZ
      have LP : Hid (P.length ≤ 6000000) := by show _ ≤ _; omega
      have LX : Hid ((textB l).length ≤ 6000000) := by show _ ≤ _; omega
      have hx1 : ((textB l).length : Int) ≤ 6000000 := by omega
      have N1 := Lib.hid (num_ten (n := (textB l).length) (by omega))
      clear hP hPl lp lx hnl
      obtain ⟨a4, c4, rfl, hr4, hn4, -⟩ := HZ.out.2.1.row
      clear hr4 hn4
      generalize textB l = X at *
      go_wp2_with fail
      refine (number_at (X.length : Int) (by omega) (by omega) _).mono ?_
      rintro e w3 ⟨a3, c3, rfl, hr, hn, hb⟩
      replace HZ := Lib.hid (HZ.out.below hb)
      rw [Int.toNat_natCast] at hr
      rw [Int.toNat_natCast]
      have HR := Lib.hid hr
      have HN := Lib.hid hn
      clear hr hn hb
      go_wp2_with (first
        | (at_builtin; refine wpList_app8 rfl (.tmp 81) (.tmp 85) rfl _ _ _ rfl HZ.out.1 _ _ _ rfl HR.out HN.out (by have := LP.out; have := N1.out; omega) HZ.out.2.2.2.size ?_; intro v4 w4 ho hg hgr; replace HZ := Lib.hid (HZ.out.fst ho hg hgr); clear ho hg hgr HR HN; have HR2 := Lib.hid (row_of HZ.out.2.1).1; have HN2 := Lib.hid (row_of HZ.out.2.1).2)
        | (at_builtin; refine wpList_app8 rfl (.tmp 86) (.tmp 87) rfl _ _ _ rfl HZ.out.1 _ _ _ rfl HR2.out HN2.out (by have := LP.out; have := N1.out; have := LX.out; simp only [List.length_append]; omega) HZ.out.2.2.2.size ?_; intro v5 w5 ho hg hgr; replace HZ := Lib.hid (HZ.out.fst ho hg hgr); clear ho hg hgr))
      go_ret
      rw [HSt.out]
      exact ⟨_, rfl, HZ.out.1, HZ.out.2.2.2⟩
end Go.Proofs.Ytfmlenhakejefaa.Ca
end

/-
  Layer 17: the greatest of some numbers, what is allowed, a node's time and life, and numbers in a row to a writer.
-/
section
namespace Go.Proofs.Ytfmlenhakejefaa.Ca
set_option linter.unusedVariables false
open Go.RowKit V Go.Sort D Nd Qs Jn
attribute [local irreducible] Sch.heldN Sch.stepV Sch.stepE

/-! ### The greatest of some numbers -/
theorem ixI (b o n c k : Nat) (z : Int) (hz : z = (k : Int)) (hk : k < n) : ∀ w, (Instr.indexAt 76 (.slice (some ⟨b, o, none⟩) n c) (.int .i64 z)).run Try.prog w = .ok (.pointer (some ⟨b, o + k, none⟩)) w := by
  intro w
  subst hz
  have hk2 : (k : Int) < (n : Int) := by omega
  go_simp
set_option maxRecDepth 100000 in
set_option maxHeartbeats 1000000 in
theorem max_any (n : Int) (t : List Int) (a : Option Addr) (m c : Nat) (hm : m = t.length + 1) (w : World) (h : G.RowI .i64 w a (n :: t)) (hl : t.length ≤ 1000000) :
    Calls Try.prog 43 #[.slice a m c] w fun e w' => e = .returned (.int .i64 (t.foldl max n)) ∧ w = w' := by
  subst hm
  have hi : (t.length : Int) ≤ 1000000 := by omega
  rcases h with he | ⟨b, o, rfl, hc⟩
  · cases he
  have HC := Lib.hid hc
  have h0 : w.cell? ⟨b, o, none⟩ = some (.int .i64 n) := hc 0 (by simp)
  have hx0 := ixI b o (t.length + 1) c 0 0 rfl (by omega)
  clear hc
  go_enter Try.func43, Try.ntmps43
  go_wp2_with fail
  go_loop [3, 4] (fun m i => ∃ k : Nat, k ≤ t.length ∧ i = .int .i64 ((k : Int) + 1) ∧ m = .int .i64 ((t.take k).foldl max n)) (fun _ i => t.length + 1 - (intOf i).toNat)
  case atStart => exact ⟨0, Nat.zero_le _, rfl, rfl⟩
  case round =>
    obtain ⟨k, hk, rfl, rfl⟩ := hrel
    by_cases hlt : k < t.length
    · have hi0 : (k : Int) + 1 < ((t.length + 1 : Nat) : Int) := by omega
      have hx := ixI b o (t.length + 1) c (k + 1) ((k : Int) + 1) (by omega) (by omega)
      have hcell : w.cell? ⟨b, o + (k + 1), none⟩ = some (.int .i64 t[k]) := by
        have := HC.out (k + 1) (by simp; omega)
        simpa using this
      have HS : Hid ((t.take (k + 1)).foldl max n = max ((t.take k).foldl max n) t[k]) := by
        show _ = _
        rw [List.take_succ_eq_append_getElem hlt, List.foldl_append]
        rfl
      generalize t[k] = x at *
      generalize (t.take k).foldl max n = y at *
      have HM : Hid ((if y < x then x else y) = max y x) := by show _ = _; rw [Int.max_def]; split <;> split <;> omega
      go_wp2_with fail
      go_round
      case rel => exact ⟨k + 1, by omega, by go_num, by rw [HM.out, HS.out]⟩
      case measure => simp [intOf]; omega
    · obtain rfl : k = t.length := by omega
      have hend : ¬ (t.length : Int) + 1 < ((t.length + 1 : Nat) : Int) := by omega
      rw [List.take_length]
      go_wp2_with fail
      go_ret
      exact ⟨rfl, rfl⟩

/-- What is allowed: all that is right and not too long. -/
def alw (ok : Bool) (n : Int) : Int := if ok = false then 2 else if 65536 < n then 5 else 0
set_option maxRecDepth 100000 in
theorem allowed_any (ok : Bool) (n : Int) (t : List Int) (a : Option Addr) (m c : Nat) (hm : m = t.length + 1) (w : World) (h : G.RowI .i64 w a (n :: t)) (hl : t.length ≤ 1000000) :
    Calls Try.prog 35 #[.bool ok, .slice a m c] w fun e w' => e = .returned (.int .i64 (alw ok (t.foldl max n))) ∧ w = w' := by
  have HM := Lib.hid (max_any n t a m c hm w h hl)
  clear h hl hm
  generalize t.foldl max n = x at *
  rcases ok with _ | _
  · go_enter Try.func35, Try.ntmps35
    go_wp2_with fail
    go_ret
    exact ⟨rfl, rfl⟩
  · by_cases hx : 65536 < x
    · have hx2 : decide (65536 < x) = true := by simpa using hx
      have e : alw true x = 5 := by unfold alw; rw [if_neg (by simp), if_pos hx]
      rw [e]
      go_enter Try.func35, Try.ntmps35
      go_wp2_with fail
      refine HM.out.mono ?_
      rintro e w2 ⟨rfl, rfl⟩
      go_wp2_with fail
      go_ret
      exact ⟨rfl, rfl⟩
    · have hx2 : decide (65536 < x) = false := by simpa using hx
      have e : alw true x = 0 := by unfold alw; rw [if_neg (by simp), if_neg hx]
      rw [e]
      go_enter Try.func35, Try.ntmps35
      go_wp2_with fail
      refine HM.out.mono ?_
      rintro e w2 ⟨rfl, rfl⟩
      go_wp2_with fail
      go_ret
      exact ⟨rfl, rfl⟩

/-! ### A node's time and life -/
set_option maxRecDepth 100000 in
set_option maxHeartbeats 1000000 in
theorem life_any (n : Nt) (h0 : 0 ≤ n.2.2.1) (h1 : n.2.2.1 ≤ 4611686018427387904) (w : World) :
    Calls Try.prog 66 #[nv n] w fun e w' => e = .returned (.int .u64 ((2 * n.2.2.1.toNat + if n.2.2.2 = 0 then 1 else 0 : Nat) : Int)) ∧ Below w.heap.size w w' := by
  obtain ⟨⟨q1, q2⟩, ⟨q3, q4⟩, q5, q6⟩ := n
  simp only at h0 h1 ⊢
  obtain ⟨t, rfl⟩ := Int.eq_ofNat_of_zero_le h0
  rw [Int.toNat_natCast]
  have hb := bel_box w (.cells #[.int .i64 q1, .int .i64 q2, .int .i64 q3, .int .i64 q4, .int .i64 (t : Int), .int .i32 q6] 38)
  have HB := Lib.hid hb
  clear hb h0
  by_cases h6 : q6 = 0
  · have h6b : (q6 == 0) = true := by simp [h6]
    rw [if_pos h6]
    clear h6
    go_enter Try.func66, Try.ntmps66
    go_wp2_with fail
    go_ret
    exact ⟨by push_cast; rfl, HB.out⟩
  · have h6b : (q6 == 0) = false := by simp [h6]
    rw [if_neg h6]
    clear h6
    go_enter Try.func66, Try.ntmps66
    go_wp2_with fail
    go_ret
    exact ⟨by push_cast; rfl, HB.out⟩
end Go.Proofs.Ytfmlenhakejefaa.Ca
end

/-
  Layer 17's reference: the bytes of a context.
-/
section
namespace Go.Proofs.Ytfmlenhakejefaa.Ca
set_option linter.unusedVariables false
open Go.RowKit V Go.Sort D Nd Qs Jn
attribute [local irreducible] Sch.heldN Sch.stepV Sch.stepE

def Dd (b o : Nat) (p : Dt) (w : World) : Prop := w.cell? ⟨b, o, none⟩ = some (.int .i64 p.1) ∧ w.cell? ⟨b, o + 1, none⟩ = some (.int .i64 p.2)
theorem Dd.l0 {b o : Nat} {p : Dt} : ∀ w, Dd b o p w → (Instr.loadAt 3 (.pointer (some ⟨b, o, none⟩))).run Try.prog w = .ok (.int .i64 p.1) w := by
  intro w h
  obtain ⟨h0, h1⟩ := h
  go_simp
theorem Dd.l1 {b o : Nat} {p : Dt} : ∀ w, Dd b o p w → (Instr.loadAt 3 (.pointer (some ⟨b, o + 1, none⟩))).run Try.prog w = .ok (.int .i64 p.2) w := by
  intro w h
  obtain ⟨h0, h1⟩ := h
  go_simp
theorem Dd.keep {b o : Nat} {p : Dt} {w w' : World} (h : Dd b o p w) (hb : Below w.heap.size w w') : Dd b o p w' := by
  have hl : b < w.heap.size := lt_of_cell h.1
  exact ⟨(hb.cell (p := ⟨b, _, none⟩) hl).trans h.1, (hb.cell (p := ⟨b, _, none⟩) hl).trans h.2⟩
theorem dd_of {w : World} {a : Option Addr} {l : List Dt} (h : RowD w a l) (k : Nat) (hk : k < l.length) : ∃ b o, a = some ⟨b, o, none⟩ ∧ Dd b (o + k * 2) l[k] w := by
  rcases h with rfl | ⟨b, o, rfl, hc⟩
  · simp at hk
  · refine ⟨b, o, rfl, ?_⟩
    have := hc k hk
    rw [← Nat.add_assoc] at this
    exact this
theorem cell_new2 (w : World) (A B : Array Value) (t u : TypeId) (i : Nat) : ((w.alloc (.cells A t)).alloc (.cells B u)).cell? ⟨w.heap.size + 1, i, none⟩ = B[i]? := by
  have h := World.cell?_alloc_new (w.alloc (.cells A t)) B u i
  have e : (w.alloc (.cells A t)).heap.size = w.heap.size + 1 := by simp
  rwa [e] at h
theorem cell_keep {w w' : World} {b i : Nat} {x : Value} (h : w.cell? ⟨b, i, none⟩ = some x) (hb : Below w.heap.size w w') : w'.cell? ⟨b, i, none⟩ = some x := (hb.cell (p := ⟨b, i, none⟩) (lt_of_cell h)).trans h
def One (w0 w : World) (v : Value) (l : List UInt8) : Prop := O8 w w0.heap.size v l ∧ Below w0.heap.size w0 w
section
variable {w0 w w' : World} {v v' : Value} {l n : List UInt8}
theorem One.below (h : One w0 w v l) (hb : Below w.heap.size w w') : One w0 w' v l := ⟨h.1.below hb, h.2.trans (hb.mono h.2.size)⟩
theorem One.app (h : One w0 w v l) (ho : O8 w' w0.heap.size v' n) (hg : w.grownBy w' v.ownBlock) : One w0 w' v' n := ⟨ho, h.2.grown hg h.2.size fun k hk => (h.1.lt k hk).1⟩
end
theorem pairs_len : ∀ (l : List Dt), (∀ d ∈ l, validR d = true) → (l.flatMap pairB).length ≤ 20 * l.length := by
  intro l
  induction l with
  | nil => intro _; simp
  | cons x t ih =>
    intro h
    have k := ih fun d hd => h d (List.mem_cons_of_mem _ hd)
    have d := dot_fits (h x (List.mem_cons_self ..))
    have n1 := num_ten (n := x.1.toNat) (by omega)
    have n2 := num_ten (n := x.2.toNat) (by omega)
    simp only [pairB, List.flatMap_cons, List.length_append, List.length_cons] at k ⊢
    omega
theorem pairs_snoc (l : List Dt) (k : Nat) (h : k < l.length) : (l.take (k + 1)).flatMap pairB = (l.take k).flatMap pairB ++ pairB l[k] := by
  rw [List.take_succ_eq_append_getElem h, List.flatMap_append]
  simp

set_option maxRecDepth 100000 in
set_option maxHeartbeats 8000000 in
theorem ctxB_ref (v c : List Dt) (hv : ∀ d ∈ v, validR d = true) (hc : ∀ d ∈ c, validR d = true) (av ac : Option Addr) (nv nc : Nat) (w : World) (hxv : RowD w av v) (hxc : RowD w ac c) (hlv : v.length ≤ 100000) (hlc : c.length ≤ 100000) :
    Calls Try.prog 20 #[.agg #[.slice av v.length nv, .slice ac c.length nc]] w fun e w' => ∃ x, e = .returned x ∧ O8 w' w.heap.size x (ctxB (v, c)) ∧ Below w.heap.size w w' := by
  have HXV := Lib.hid hxv
  have HXC := Lib.hid hxc
  have HVV := Lib.hid hv
  have HVC := Lib.hid hc
  have hiv : (v.length : Int) ≤ 100000 := by omega
  have hic : (c.length : Int) ≤ 100000 := by omega
  clear hxv hxc hv hc
  go_enter Try.func20, Try.ntmps20
  go_wp2_with fail
  have hb := ((Below.refl w.heap.size w).alloc (Nat.le_refl _) (.cells #[.slice av v.length nv, .slice ac c.length nc] 43)).alloc (by simp) (.cells #[.slice av v.length nv, .slice ac c.length nc] 40)
  have HB := Lib.hid hb
  have A0 : ((w.alloc (.cells #[.slice av v.length nv, .slice ac c.length nc] 43)).alloc (.cells #[.slice av v.length nv, .slice ac c.length nc] 40)).cell? ⟨w.heap.size + 1, 0, none⟩ = some (.slice av v.length nv) := by rw [cell_new2]; rfl
  have A1 : ((w.alloc (.cells #[.slice av v.length nv, .slice ac c.length nc] 43)).alloc (.cells #[.slice av v.length nv, .slice ac c.length nc] 40)).cell? ⟨w.heap.size + 1, 1, none⟩ = some (.slice ac c.length nc) := by rw [cell_new2]; rfl
  have HC0 := Lib.hid A0
  have HC1 := Lib.hid A1
  replace HXV := Lib.hid (HXV.out.keep hb)
  replace HXC := Lib.hid (HXC.out.keep hb)
  have hs1 : w.heap.size ≤ ((w.alloc (.cells #[.slice av v.length nv, .slice ac c.length nc] 43)).alloc (.cells #[.slice av v.length nv, .slice ac c.length nc] 40)).heap.size := hb.size
  clear hb A0 A1
  generalize ((w.alloc (.cells #[.slice av v.length nv, .slice ac c.length nc] 43)).alloc (.cells #[.slice av v.length nv, .slice ac c.length nc] 40)) = w1 at *
  generalize w.heap.size + 1 = g at *
  go_loopw [3, 13] (fun x i wr => ∃ j : Nat, j ≤ 2 ∧ i = .int .i64 (j : Int) ∧ Hid (One w1 wr x ((([v, c] : List (List Dt)).take j).flatMap dotsB))) (fun _ i _ => 2 - (intOf i).toNat)
  case atStart => exact ⟨0, by omega, rfl, O8.nil _ _, Below.refl _ _⟩
  case round =>
    obtain ⟨j, hj, rfl, HZ⟩ := hrel
    by_cases h0 : j = 0
    · obtain rfl : j = 0 := by omega
      have n0 := cell_keep HC0.out HZ.out.2
      have LPv := pairs_len v HVV.out
      have Ln1 := num_ten (n := v.length) (by omega)
      obtain ⟨P, hP⟩ : ∃ P, P = (([v, c] : List (List Dt)).take 0).flatMap dotsB := ⟨_, rfl⟩
      have LP : Hid (P.length ≤ 6000000) := by show _ ≤ _; rw [hP]; simp
      have HPn : Hid ((([v, c] : List (List Dt)).take (0 + 1)).flatMap dotsB = P ++ num v.length ++ v.flatMap pairB) := by show _ = _; rw [hP]; simp [dotsB]
      rw [← hP] at HZ
      clear hP LPv Ln1
      have HZd := Lib.hid (HZ.out.2)
      have N1 := Lib.hid (num_ten (n := v.length) (by omega))
      go_wp2_with fail
      refine (number_at (v.length : Int) (by omega) (by omega) _).mono ?_
      rintro e w3 ⟨a3, c3, rfl, hr, hn, hb⟩
      replace HZ := Lib.hid (HZ.out.below hb)
      rw [Int.toNat_natCast] at hr
      rw [Int.toNat_natCast]
      have HR := Lib.hid hr
      have HN := Lib.hid hn
      clear hr hn hb n0
      go_wp2_with (at_builtin; refine wpList_app8 rfl (.tmp 17) (.tmp 21) rfl _ _ _ rfl HZ.out.1 _ _ _ rfl HR.out HN.out (by have := LP.out; have := N1.out; omega) HZ.out.2.size ?_; intro v4 w4 ho hg hgr; replace HZ := Lib.hid (HZ.out.app ho hg); clear ho hg hgr HR HN)
      go_loopw [3, 6] (fun x i wr => ∃ k : Nat, k ≤ v.length ∧ i = .int .i64 (k : Int) ∧ Hid (One w1 wr x (P ++ num v.length ++ (v.take k).flatMap pairB))) (fun _ i _ => v.length - (intOf i).toNat)
      case atStart => exact ⟨0, Nat.zero_le _, rfl, by show One _ _ _ _; simpa using HZ.out⟩
      case round =>
        obtain ⟨k, hk, rfl, HY⟩ := hrel
        by_cases hlt : k < v.length
        · have hi0 : (k : Int) < (v.length : Int) := by omega
          obtain ⟨b1, o1, rfl, hdd⟩ := dd_of HXV.out k hlt
          have hx0 := ix_dot b1 o1 v.length nv k (k : Int) rfl hlt
          have hd := dot_fits (HVV.out _ (List.getElem_mem hlt))
          have hpl := pairs_len (v.take k) (fun d hd => HVV.out d (List.mem_of_mem_take hd))
          have hkl : (v.take k).length ≤ 100000 := by rw [List.length_take]; omega
          have LX : Hid ((P ++ num v.length ++ (v.take k).flatMap pairB).length ≤ 9000000) := by have := LP.out; have := N1.out; show _ ≤ _; simp only [List.length_append]; omega
          have HBl := Lib.hid (pairs_snoc v k hlt)
          clear hpl hkl
          obtain ⟨q, hq⟩ : ∃ q, q = v[k] := ⟨_, rfl⟩
          rw [← hq] at hdd hd HBl
          clear hq
          obtain ⟨Q0, hQ⟩ : ∃ Q0, Q0 = P ++ num v.length ++ (v.take k).flatMap pairB := ⟨_, rfl⟩
          have HQ : Hid (P ++ num v.length ++ (v.take (k + 1)).flatMap pairB = Q0 ++ pairB q) := by show _ = _; rw [HBl.out, hQ]; simp only [List.append_assoc]
          rw [← hQ] at HY LX
          clear hQ HBl
          have HD := Lib.hid hdd
          have hddr := hdd.keep HY.out.2
          clear hdd
          obtain ⟨q1, q2⟩ := q
          simp only at hd
          obtain ⟨b1', b2', b3', b4'⟩ := hd
          have M1 := Lib.hid (num_ten (n := q1.toNat) (by omega))
          have M2 := Lib.hid (num_ten (n := q2.toNat) (by omega))
          go_wp2_with fail
          have HS := Lib.hid (HY.out.below ((Below.refl _ _).drew))
          refine Sch.wp_region_tn (Dd b1 (o1 + k * 2) (q1, q2)) (.val 0 (.val 1 (.val 2 (.val 3 (.val 4 (.val 5 (.val 6 (.val 9 (.val 10 (.val 11 (.val 12 (.val 13 (.val 14 (.one 7 (.one 8 (.one 15 (.one 16 (.val 17 .done)))))))))))))))))) (by kernel_rfl) (by kernel_rfl) (HD.out.keep HS.out.2) ?_
          repeat (first
            | (refine Sch.tn_q rfl rfl rfl (fun K hK => ?_); go_big_quiet_op; (first | refine hK _ ?_ | refine ⟨_, fun _ _ => rfl, hK _ ?_⟩); clear hK K)
            | (refine Sch.tn_load _ _ _ _ _ rfl rfl rfl rfl (by first | exact Dd.l0 | exact Dd.l1) rfl ?_; simp only [Act.put, List.setIfInBounds_toArray, List.set_cons_zero, List.set_cons_succ]))
          generalize wr.drew = w5 at *
          refine Sch.tn_e rfl rfl (fun K hK => ?_)
          go_wp2_with fail
          refine (number_at q1 (by omega) (by omega) _).mono ?_
          rintro e w6 ⟨a6, c6, rfl, hr, hn, hb⟩
          replace HS := Lib.hid (HS.out.below hb)
          have HR := Lib.hid hr
          have HN := Lib.hid hn
          clear hr hn hb
          refine hK _ _ (HD.out.keep HS.out.2) ?_
          clear hK K
          try simp only [Act.put, List.setIfInBounds_toArray, List.set_cons_zero, List.set_cons_succ]
          refine Sch.tn_e rfl rfl (fun K hK => ?_)
          refine wp_app8 _ _ rfl _ _ _ rfl HS.out.1 _ _ _ rfl HR.out HN.out (by have := LX.out; have := M1.out; have := M2.out; (try simp only [List.length_append]); omega) HS.out.2.size ?_
          intro v7 w7 ho hg hgr
          replace HS := Lib.hid (HS.out.app ho hg)
          clear ho hg hgr HR HN
          refine hK _ _ (HD.out.keep HS.out.2) ?_
          clear hK K
          try simp only [Act.put, List.setIfInBounds_toArray, List.set_cons_zero, List.set_cons_succ]
          refine Sch.tn_e rfl rfl (fun K hK => ?_)
          go_wp2_with fail
          refine (number_at q2 (by omega) (by omega) _).mono ?_
          rintro e w8 ⟨a8, c8, rfl, hr, hn, hb⟩
          replace HS := Lib.hid (HS.out.below hb)
          have HR := Lib.hid hr
          have HN := Lib.hid hn
          clear hr hn hb
          refine hK _ _ (HD.out.keep HS.out.2) ?_
          clear hK K
          try simp only [Act.put, List.setIfInBounds_toArray, List.set_cons_zero, List.set_cons_succ]
          refine Sch.tn_e rfl rfl (fun K hK => ?_)
          refine wp_app8 _ _ rfl _ _ _ rfl HS.out.1 _ _ _ rfl HR.out HN.out (by have := LX.out; have := M1.out; have := M2.out; (try simp only [List.length_append]); omega) HS.out.2.size ?_
          intro v9 w9 ho hg hgr
          replace HS := Lib.hid (HS.out.app ho hg)
          clear ho hg hgr HR HN
          refine hK _ _ (HD.out.keep HS.out.2) ?_
          clear hK K
          try simp only [Act.put, List.setIfInBounds_toArray, List.set_cons_zero, List.set_cons_succ]
          repeat (refine Sch.tn_q rfl rfl rfl (fun K hK => ?_); go_big_quiet_op; (first | refine hK _ ?_ | refine ⟨_, fun _ _ => rfl, hK _ ?_⟩); clear hK K)
          refine Sch.tn_n ?_
          go_wp2_with fail
          go_roundw
          case rel => exact ⟨k + 1, by omega, by go_num, by show One _ _ _ _; rw [HQ.out]; simpa only [pairB, List.append_assoc] using HS.out⟩
          case measure => simp [intOf]; omega
        · obtain rfl : k = v.length := by omega
          have hend : ¬ (v.length : Int) < (v.length : Int) := by omega
          rw [List.take_length] at HY
          go_wp2_with fail
          go_roundw
          case rel => exact ⟨0 + 1, by omega, by go_num, by show One _ _ _ _; rw [HPn.out]; exact HY.out⟩
          case measure => simp [intOf]
    · by_cases h1 : j = 1
      · obtain rfl : j = 1 := by omega
        have n0 := cell_keep HC1.out HZ.out.2
        have LPv := pairs_len v HVV.out
        have Ln1 := num_ten (n := v.length) (by omega)
        obtain ⟨P, hP⟩ : ∃ P, P = (([v, c] : List (List Dt)).take 1).flatMap dotsB := ⟨_, rfl⟩
        have LP : Hid (P.length ≤ 6000000) := by show _ ≤ _; rw [show P = dotsB v by rw [hP]; simp]; unfold dotsB; rw [List.length_append]; omega
        have HPn : Hid ((([v, c] : List (List Dt)).take (1 + 1)).flatMap dotsB = P ++ num c.length ++ c.flatMap pairB) := by show _ = _; rw [hP]; simp [dotsB]
        rw [← hP] at HZ
        clear hP LPv Ln1
        have HZd := Lib.hid (HZ.out.2)
        have N1 := Lib.hid (num_ten (n := c.length) (by omega))
        go_wp2_with fail
        refine (number_at (c.length : Int) (by omega) (by omega) _).mono ?_
        rintro e w3 ⟨a3, c3, rfl, hr, hn, hb⟩
        replace HZ := Lib.hid (HZ.out.below hb)
        rw [Int.toNat_natCast] at hr
        rw [Int.toNat_natCast]
        have HR := Lib.hid hr
        have HN := Lib.hid hn
        clear hr hn hb n0
        go_wp2_with (at_builtin; refine wpList_app8 rfl (.tmp 17) (.tmp 21) rfl _ _ _ rfl HZ.out.1 _ _ _ rfl HR.out HN.out (by have := LP.out; have := N1.out; omega) HZ.out.2.size ?_; intro v4 w4 ho hg hgr; replace HZ := Lib.hid (HZ.out.app ho hg); clear ho hg hgr HR HN)
        go_loopw [3, 6] (fun x i wr => ∃ k : Nat, k ≤ c.length ∧ i = .int .i64 (k : Int) ∧ Hid (One w1 wr x (P ++ num c.length ++ (c.take k).flatMap pairB))) (fun _ i _ => c.length - (intOf i).toNat)
        case atStart => exact ⟨0, Nat.zero_le _, rfl, by show One _ _ _ _; simpa using HZ.out⟩
        case round =>
          obtain ⟨k, hk, rfl, HY⟩ := hrel
          by_cases hlt : k < c.length
          · have hi0 : (k : Int) < (c.length : Int) := by omega
            obtain ⟨b1, o1, rfl, hdd⟩ := dd_of HXC.out k hlt
            have hx0 := ix_dot b1 o1 c.length nc k (k : Int) rfl hlt
            have hd := dot_fits (HVC.out _ (List.getElem_mem hlt))
            have hpl := pairs_len (c.take k) (fun d hd => HVC.out d (List.mem_of_mem_take hd))
            have hkl : (c.take k).length ≤ 100000 := by rw [List.length_take]; omega
            have LX : Hid ((P ++ num c.length ++ (c.take k).flatMap pairB).length ≤ 9000000) := by have := LP.out; have := N1.out; show _ ≤ _; simp only [List.length_append]; omega
            have HBl := Lib.hid (pairs_snoc c k hlt)
            clear hpl hkl
            obtain ⟨q, hq⟩ : ∃ q, q = c[k] := ⟨_, rfl⟩
            rw [← hq] at hdd hd HBl
            clear hq
            obtain ⟨Q0, hQ⟩ : ∃ Q0, Q0 = P ++ num c.length ++ (c.take k).flatMap pairB := ⟨_, rfl⟩
            have HQ : Hid (P ++ num c.length ++ (c.take (k + 1)).flatMap pairB = Q0 ++ pairB q) := by show _ = _; rw [HBl.out, hQ]; simp only [List.append_assoc]
            rw [← hQ] at HY LX
            clear hQ HBl
            have HD := Lib.hid hdd
            have hddr := hdd.keep HY.out.2
            clear hdd
            obtain ⟨q1, q2⟩ := q
            simp only at hd
            obtain ⟨b1', b2', b3', b4'⟩ := hd
            have M1 := Lib.hid (num_ten (n := q1.toNat) (by omega))
            have M2 := Lib.hid (num_ten (n := q2.toNat) (by omega))
            go_wp2_with fail
            have HS := Lib.hid (HY.out.below ((Below.refl _ _).drew))
            refine Sch.wp_region_tn (Dd b1 (o1 + k * 2) (q1, q2)) (.val 0 (.val 1 (.val 2 (.val 3 (.val 4 (.val 5 (.val 6 (.val 9 (.val 10 (.val 11 (.val 12 (.val 13 (.val 14 (.one 7 (.one 8 (.one 15 (.one 16 (.val 17 .done)))))))))))))))))) (by kernel_rfl) (by kernel_rfl) (HD.out.keep HS.out.2) ?_
            repeat (first
              | (refine Sch.tn_q rfl rfl rfl (fun K hK => ?_); go_big_quiet_op; (first | refine hK _ ?_ | refine ⟨_, fun _ _ => rfl, hK _ ?_⟩); clear hK K)
              | (refine Sch.tn_load _ _ _ _ _ rfl rfl rfl rfl (by first | exact Dd.l0 | exact Dd.l1) rfl ?_; simp only [Act.put, List.setIfInBounds_toArray, List.set_cons_zero, List.set_cons_succ]))
            generalize wr.drew = w5 at *
            refine Sch.tn_e rfl rfl (fun K hK => ?_)
            go_wp2_with fail
            refine (number_at q1 (by omega) (by omega) _).mono ?_
            rintro e w6 ⟨a6, c6, rfl, hr, hn, hb⟩
            replace HS := Lib.hid (HS.out.below hb)
            have HR := Lib.hid hr
            have HN := Lib.hid hn
            clear hr hn hb
            refine hK _ _ (HD.out.keep HS.out.2) ?_
            clear hK K
            try simp only [Act.put, List.setIfInBounds_toArray, List.set_cons_zero, List.set_cons_succ]
            refine Sch.tn_e rfl rfl (fun K hK => ?_)
            refine wp_app8 _ _ rfl _ _ _ rfl HS.out.1 _ _ _ rfl HR.out HN.out (by have := LX.out; have := M1.out; have := M2.out; (try simp only [List.length_append]); omega) HS.out.2.size ?_
            intro v7 w7 ho hg hgr
            replace HS := Lib.hid (HS.out.app ho hg)
            clear ho hg hgr HR HN
            refine hK _ _ (HD.out.keep HS.out.2) ?_
            clear hK K
            try simp only [Act.put, List.setIfInBounds_toArray, List.set_cons_zero, List.set_cons_succ]
            refine Sch.tn_e rfl rfl (fun K hK => ?_)
            go_wp2_with fail
            refine (number_at q2 (by omega) (by omega) _).mono ?_
            rintro e w8 ⟨a8, c8, rfl, hr, hn, hb⟩
            replace HS := Lib.hid (HS.out.below hb)
            have HR := Lib.hid hr
            have HN := Lib.hid hn
            clear hr hn hb
            refine hK _ _ (HD.out.keep HS.out.2) ?_
            clear hK K
            try simp only [Act.put, List.setIfInBounds_toArray, List.set_cons_zero, List.set_cons_succ]
            refine Sch.tn_e rfl rfl (fun K hK => ?_)
            refine wp_app8 _ _ rfl _ _ _ rfl HS.out.1 _ _ _ rfl HR.out HN.out (by have := LX.out; have := M1.out; have := M2.out; (try simp only [List.length_append]); omega) HS.out.2.size ?_
            intro v9 w9 ho hg hgr
            replace HS := Lib.hid (HS.out.app ho hg)
            clear ho hg hgr HR HN
            refine hK _ _ (HD.out.keep HS.out.2) ?_
            clear hK K
            try simp only [Act.put, List.setIfInBounds_toArray, List.set_cons_zero, List.set_cons_succ]
            repeat (refine Sch.tn_q rfl rfl rfl (fun K hK => ?_); go_big_quiet_op; (first | refine hK _ ?_ | refine ⟨_, fun _ _ => rfl, hK _ ?_⟩); clear hK K)
            refine Sch.tn_n ?_
            go_wp2_with fail
            go_roundw
            case rel => exact ⟨k + 1, by omega, by go_num, by show One _ _ _ _; rw [HQ.out]; simpa only [pairB, List.append_assoc] using HS.out⟩
            case measure => simp [intOf]; omega
          · obtain rfl : k = c.length := by omega
            have hend : ¬ (c.length : Int) < (c.length : Int) := by omega
            rw [List.take_length] at HY
            go_wp2_with fail
            go_roundw
            case rel => exact ⟨1 + 1, by omega, by go_num, by show One _ _ _ _; rw [HPn.out]; exact HY.out⟩
            case measure => simp [intOf]
      · obtain rfl : j = 2 := by omega
        go_wp2_with fail
        go_ret
        have e : ctxB (v, c) = (([v, c] : List (List Dt)).take 2).flatMap dotsB := by simp [ctxB]
        rw [e]
        exact ⟨_, rfl, HZ.out.1.mono (fun k hk => Nat.le_trans hs1 (HZ.out.1.lt k hk).1), HB.out.trans (HZ.out.2.mono hs1)⟩
end Go.Proofs.Ytfmlenhakejefaa.Ca
end

/-
  Layer 17: what a writer is given: a node, dots.
-/
section
namespace Go.Proofs.Ytfmlenhakejefaa.Ca
set_option linter.unusedVariables false
open Go.RowKit V Go.Sort D Nd Qs Jn
attribute [local irreducible] Sch.heldN Sch.stepV Sch.stepE

/-! ### Numbers in a row -/
/-- Some numbers, written out. -/
theorem wnum_row (w : World) (base b : Nat) (v : Value) (l : List UInt8) (ns : List Nat) (C : Array Value) (T : TypeId) (hC : C.toList = u64s ns) (hne : ns ≠ []) (h : Wr w base b v l) (hns : ∀ n ∈ ns, n < 18446744073709551616) (hlen : l.length + 10 * ns.length ≤ 35184372088800) (hbase : base ≤ w.heap.size) (c g m : Nat) (hg : g = w.heap.size) (hm : m = ns.length) :
    Calls Try.prog 48 #[.pointer (some ⟨b, 0, none⟩), .slice (some ⟨g, 0, none⟩) m c] (w.alloc (.cells C T)) fun e w' =>
      e = .returned (.tuple #[]) ∧ ∃ v', Wr w' base b v' (l ++ nums ns) ∧ Wf w w' b v ∧ Grew w v v' := by
  subst hg; subst hm
  have hb := h.lt
  have hv := h.2.1.lt
  have hrow : RowV (w.alloc (.cells C T)) (some ⟨w.heap.size, 0, none⟩) (u64s ns) := by
    refine .inr ⟨_, _, rfl, fun i hi => ?_⟩
    rw [Nat.zero_add, World.cell?_alloc_new w C T i, ← Array.getElem?_toList, hC]
    simp [hi]
  have H := wnum_any (w.alloc (.cells C T)) base b v l (some ⟨w.heap.size, 0, none⟩) ns c (h.keep ((Below.refl _ _).alloc (Nat.le_refl _) _)) hrow hns
    (by
      intro b' o e _
      cases e
      refine ⟨by omega, fun e => ?_⟩
      have := (hv _ e.symm).2
      omega)
    (by omega) (by simp; omega)
  refine H.mono fun e w' ⟨he, v', hw, hf, hg⟩ => ⟨he, v', hw, ?_, ?_⟩
  · exact (Wf.refl w b v).alloc _ |>.trans (.inl rfl) hf
  · exact (Grew.refl w v).trans (by simp) hg

/-- A writer in the hands of a call that has made a box. -/
structure Pn (w0 w : World) (base b : Nat) (v0 v : Value) (l : List UInt8) (g : Nat) (n : Nt) : Prop where
  wr : Wr w base b v l
  wf : Wf w0 w b v0
  gr : Grew w0 v0 v
  bx : Bn g n w
  nb : g ≠ b
  nv : v.ownBlock ≠ some g
  le : w0.heap.size ≤ w.heap.size
section
variable {w0 w w' : World} {base b g : Nat} {v0 v v' : Value} {l l' : List UInt8} {n : Nt}
theorem Bn.of_heap (h : Bn g n w) (e : w'.heap[g]? = w.heap[g]?) : Bn g n w' := by
  obtain ⟨h0, h1, h2, h3, h4, h5⟩ := h
  exact ⟨(World.cell?_of_block (a := ⟨g, _, none⟩) e).trans h0, (World.cell?_of_block (a := ⟨g, _, none⟩) e).trans h1, (World.cell?_of_block (a := ⟨g, _, none⟩) e).trans h2, (World.cell?_of_block (a := ⟨g, _, none⟩) e).trans h3, (World.cell?_of_block (a := ⟨g, _, none⟩) e).trans h4, (World.cell?_of_block (a := ⟨g, _, none⟩) e).trans h5⟩
theorem Pn.new (h : Wr w base b v l) (n : Nt) : Pn w (w.alloc (.cells #[.int .i64 n.1.1, .int .i64 n.1.2, .int .i64 n.2.1.1, .int .i64 n.2.1.2, .int .i64 n.2.2.1, .int .i32 n.2.2.2] 38)) base b v v l w.heap.size n :=
  ⟨h.keep ((Below.refl _ _).alloc (Nat.le_refl _) _), (Wf.refl _ _ _).alloc _, .inl rfl, Bn.new w n, (by have := h.lt; omega), (fun e => by have := (h.2.1.lt _ e).2; omega), by simp⟩
theorem Pn.step (h : Pn w0 w base b v0 v l g n) (hw : Wr w' base b v' l') (hf : Wf w w' b v) (hg : Grew w v v') : Pn w0 w' base b v0 v' l' g n := by
  have hl : g < w.heap.size := lt_of_cell h.bx.1
  refine ⟨hw, h.wf.trans h.gr hf, h.gr.trans h.le hg, h.bx.of_heap (hf.block g hl h.nb (fun e => h.nv e.symm)), h.nb, ?_, Nat.le_trans h.le hf.size⟩
  rcases hg with e | ⟨k, e, hk⟩
  · rw [e]; exact h.nv
  · rw [e]; intro e2; cases e2; omega
theorem Pn.below (h : Pn w0 w base b v0 v l g n) (hb : Below w.heap.size w w') : Pn w0 w' base b v0 v l g n := by
  have hl : g < w.heap.size := lt_of_cell h.bx.1
  have hf : Wf w w' b v := ⟨hb.os, hb.tape, hb.output, hb.size, fun k hk _ _ => hb.block k hk⟩
  exact ⟨h.wr.keep hb, h.wf.trans h.gr hf, h.gr, h.bx.keep hb, h.nb, h.nv, Nat.le_trans h.le hb.size⟩
end
theorem nums_one (n : Nat) : nums [n] = num n := by simp [nums]
theorem nums_two (n m : Nat) : nums [n, m] = num n ++ num m := by simp [nums]
set_option maxRecDepth 100000 in
set_option maxHeartbeats 4000000 in
theorem putNode_any (n : Nt) (last : Int) (hn : VN n) (h0 : 0 ≤ last) (h1 : last ≤ n.1.2) (w : World) (base b : Nat) (v : Value) (l : List UInt8) (h : Wr w base b v l) (hl : l.length ≤ 100000000) (hbase : base ≤ w.heap.size) :
    Calls Try.prog 52 #[.pointer (some ⟨b, 0, none⟩), nv n, .int .i64 last] w fun e w' =>
      e = .returned (.tuple #[]) ∧ ∃ v', Wr w' base b v' (l ++ nodeB last n) ∧ Wf w w' b v ∧ Grew w v v' := by
  have hd := dot_fits hn.1
  have hp := par_fits hn.2.1
  have ht := hn.2.2.2
  have HLi := Lib.hid (fun w => life_any n (by have := hn.2.2.2; omega) (by have := hn.2.2.2; omega) w)
  have HP := Lib.hid (Pn.new h n)
  have HL := Lib.hid hl
  obtain ⟨x5, hx5⟩ : ∃ x5, x5 = 2 * n.2.2.1.toNat + if n.2.2.2 = 0 then 1 else 0 := ⟨_, rfl⟩
  have hx5b : x5 < 18446744073709551616 := by rw [hx5]; split <;> omega
  have HE : Hid (nodeB last n = num n.1.1.toNat ++ (num (n.1.2 - last).toNat ++ (num n.2.1.1.toNat ++ ((if n.2.1.1 = 0 then [] else num n.2.1.2.toNat) ++ num x5)))) := by
    show _ = _
    simp only [nodeB, headB, timeB, List.append_assoc, hx5]
  rw [← hx5] at HLi
  obtain ⟨⟨q1, q2⟩, ⟨q3, q4⟩, q5, q6⟩ := n
  obtain ⟨b1', b2', b3', b4'⟩ := hd
  obtain ⟨t1, t2, t3⟩ := ht
  simp only at b1' b2' b3' b4' hp h1 HE HLi HP
  clear h hx5 t1 t2 t3 hn
  obtain ⟨n1, rfl⟩ := Int.eq_ofNat_of_zero_le (show 0 ≤ q1 by omega)
  obtain ⟨n2, hn2⟩ := Int.eq_ofNat_of_zero_le (show 0 ≤ q2 - last by omega)
  obtain ⟨n3, rfl⟩ := Int.eq_ofNat_of_zero_le (show 0 ≤ q3 by omega)
  obtain ⟨n4, rfl⟩ := Int.eq_ofNat_of_zero_le (show 0 ≤ q4 by omega)
  rw [hn2] at HE
  simp only [Int.toNat_natCast] at HE
  have k1 := num_ten (n := n1) (by omega)
  have k2 := num_ten (n := n2) (by omega)
  have k3 := num_ten (n := n3) (by omega)
  have k4 := num_ten (n := n4) (by omega)
  have K := Lib.hid (show (num n1).length + (num n2).length + (num n3).length + (num n4).length ≤ 40 by omega)
  clear k1 k2 k3 k4 hl
  go_enter Try.func52, Try.ntmps52
  go_upto_region 1 with fail
  generalize w.alloc (.cells #[.int .i64 (n1 : Int), .int .i64 q2, .int .i64 (n3 : Int), .int .i64 (n4 : Int), .int .i64 q5, .int .i32 q6] 38) = w1 at *
  obtain ⟨m0, m1, m2, m3, m4, m5⟩ := HP.out.bx.cells
  go_wp2_with fail
  refine (wnum_row w1 base b _ _ [n1, n2] _ _ rfl (by simp) HP.out.wr (by intro n hn; simp only [List.mem_cons, List.not_mem_nil, or_false] at hn; omega) (by have := HL.out; have := K.out; simp only [List.length_append, List.length_cons, List.length_nil] at *; omega) (Nat.le_trans hbase HP.out.le) _ _ _ rfl rfl).mono ?_
  rintro e w2 ⟨rfl, v2, hw, hf, hg⟩
  rw [nums_two] at hw
  replace HP := Lib.hid (HP.out.step hw hf hg)
  clear hw hf hg m0 m1 m2 m3 m4 m5
  obtain ⟨m0, m1, m2, m3, m4, m5⟩ := HP.out.bx.cells
  go_wp2_with fail
  refine (wnum_row w2 base b _ _ [n3] _ _ rfl (by simp) HP.out.wr (by intro n hn; simp only [List.mem_cons, List.not_mem_nil, or_false] at hn; omega) (by have := HL.out; have := K.out; simp only [List.length_append, List.length_cons, List.length_nil] at *; omega) (Nat.le_trans hbase HP.out.le) _ _ _ rfl rfl).mono ?_
  rintro e w3 ⟨rfl, v3, hw, hf, hg⟩
  rw [nums_one] at hw
  replace HP := Lib.hid (HP.out.step hw hf hg)
  clear hw hf hg m0 m1 m2 m3 m4 m5
  obtain ⟨m0, m1, m2, m3, m4, m5⟩ := HP.out.bx.cells
  by_cases hz : (n3 : Int) = 0
  · have hzb : ((n3 : Int) != 0) = false := by rw [bne_eq_false_iff_eq]; exact hz
    rw [if_pos hz] at HE
    clear hz
    go_wp2_with fail
    refine (HLi.out _).mono ?_
    rintro e w4 ⟨rfl, hb⟩
    replace HP := Lib.hid (HP.out.below hb)
    clear hb m0 m1 m2 m3 m4 m5
    go_wp2_with fail
    refine (wnum_row w4 base b _ _ [x5] _ _ rfl (by simp) HP.out.wr (by intro n hn; simp only [List.mem_cons, List.not_mem_nil, or_false] at hn; omega) (by have := HL.out; have := K.out; simp only [List.length_append, List.length_cons, List.length_nil] at *; omega) (Nat.le_trans hbase HP.out.le) _ _ _ rfl rfl).mono ?_
    rintro e w5 ⟨rfl, v5, hw, hf, hg⟩
    rw [nums_one] at hw
    replace HP := Lib.hid (HP.out.step hw hf hg)
    clear hw hf hg
    go_wp2_with fail
    go_end0
    have h := HP.out.wr
    simp only [List.append_assoc] at h
    refine ⟨rfl, v5, ?_, HP.out.wf, HP.out.gr⟩
    rw [HE.out]
    simpa only [List.append_assoc, List.nil_append] using h
  · have hzb : ((n3 : Int) != 0) = true := by rw [bne_iff_ne]; exact hz
    rw [if_neg hz] at HE
    clear hz
    go_wp2_with fail
    refine (wnum_row w3 base b _ _ [n4] _ _ rfl (by simp) HP.out.wr (by intro n hn; simp only [List.mem_cons, List.not_mem_nil, or_false] at hn; omega) (by have := HL.out; have := K.out; simp only [List.length_append, List.length_cons, List.length_nil] at *; omega) (Nat.le_trans hbase HP.out.le) _ _ _ rfl rfl).mono ?_
    rintro e w4 ⟨rfl, v4, hw, hf, hg⟩
    rw [nums_one] at hw
    replace HP := Lib.hid (HP.out.step hw hf hg)
    clear hw hf hg m0 m1 m2 m3 m4 m5
    obtain ⟨m0, m1, m2, m3, m4, m5⟩ := HP.out.bx.cells
    go_wp2_with fail
    refine (HLi.out _).mono ?_
    rintro e w5 ⟨rfl, hb⟩
    replace HP := Lib.hid (HP.out.below hb)
    clear hb m0 m1 m2 m3 m4 m5
    go_wp2_with fail
    refine (wnum_row w5 base b _ _ [x5] _ _ rfl (by simp) HP.out.wr (by intro n hn; simp only [List.mem_cons, List.not_mem_nil, or_false] at hn; omega) (by have := HL.out; have := K.out; simp only [List.length_append, List.length_cons, List.length_nil] at *; omega) (Nat.le_trans hbase HP.out.le) _ _ _ rfl rfl).mono ?_
    rintro e w6 ⟨rfl, v6, hw, hf, hg⟩
    rw [nums_one] at hw
    replace HP := Lib.hid (HP.out.step hw hf hg)
    clear hw hf hg
    go_wp2_with fail
    go_end0
    have h := HP.out.wr
    simp only [List.append_assoc] at h
    refine ⟨rfl, v6, ?_, HP.out.wf, HP.out.gr⟩
    rw [HE.out]
    simpa only [List.append_assoc, List.nil_append] using h

/-! ### Dots -/
/-- A writer, all of whose memory is new since a world. -/
structure Ws (w0 w : World) (b : Nat) (v : Value) (L : List UInt8) : Prop where
  wr : Wr w w0.heap.size b v L
  bl : Below w0.heap.size w0 w
  nb : w0.heap.size ≤ b
section
variable {w0 w w' : World} {b : Nat} {v v' : Value} {l l' : List UInt8}
theorem Ws.step (h : Ws w0 w b v l) (hw : Wr w' w0.heap.size b v' l') (hf : Wf w w' b v) : Ws w0 w' b v' l' :=
  ⟨hw, hf.below h.bl h.bl.size h.nb (fun k hk => (h.wr.2.1.lt k hk).1), h.nb⟩
theorem Ws.below (h : Ws w0 w b v l) (hb : Below w.heap.size w w') : Ws w0 w' b v l := ⟨h.wr.keep hb, h.bl.trans (hb.mono h.bl.size), h.nb⟩
end
set_option maxRecDepth 100000 in
set_option maxHeartbeats 4000000 in
theorem putDots_any (l : List Dt) (hl : ∀ d ∈ l, validR d = true) (hll : l.length ≤ 100000) (w0 w : World) (a : Option Addr) (c : Nat) (hx : RowD w0 a l) (b : Nat) (v : Value) (L : List UInt8) (hL : L.length ≤ 10000000) (h : Ws w0 w b v L) :
    Calls Try.prog 37 #[.pointer (some ⟨b, 0, none⟩), .slice a l.length c] w fun e w' =>
      e = .returned (.tuple #[]) ∧ ∃ v', Ws w0 w' b v' (L ++ dotsB l) := by
  have HX := Lib.hid hx
  have HS := Lib.hid h
  have HL := Lib.hid hL
  have HV := Lib.hid hl
  have HLl := Lib.hid hll
  have hi : (l.length : Int) ≤ 100000 := by omega
  have N0 := Lib.hid (num_ten (n := l.length) (by omega))
  clear hx h hL hl
  go_enter Try.func37, Try.ntmps37
  go_wp2_with fail
  refine (wnum_row w w0.heap.size b _ _ [l.length] _ _ rfl (by simp) HS.out.wr (by intro n hn; simp only [List.mem_cons, List.not_mem_nil, or_false] at hn; omega) (by have := HL.out; simp only [List.length_cons, List.length_nil] at *; omega) HS.out.bl.size _ _ _ rfl rfl).mono ?_
  rintro e w1 ⟨rfl, v1, hw, hf, hg⟩
  rw [nums_one] at hw
  replace HS := Lib.hid (HS.out.step hw hf)
  clear hw hf hg
  go_wp2_with fail
  go_loopw [14] (fun i wr => ∃ (k : Nat) (x : Value), k ≤ l.length ∧ i = .int .i64 (k : Int) ∧ Hid (Ws w0 wr b x (L ++ num l.length ++ (l.take k).flatMap pairB))) (fun i _ => l.length - (intOf i).toNat)
  case atStart => exact ⟨0, v1, Nat.zero_le _, rfl, by show Ws _ _ _ _ _; simpa using HS.out⟩
  case round =>
    obtain ⟨k, x, hk, rfl, HY⟩ := hrel
    by_cases hlt : k < l.length
    · have hi0 : (k : Int) < (l.length : Int) := by omega
      obtain ⟨b1, o1, rfl, hdd⟩ := dd_of HX.out k hlt
      have hx0 := ix_dot b1 o1 l.length c k (k : Int) rfl hlt
      have hd := dot_fits (HV.out _ (List.getElem_mem hlt))
      have hpl := pairs_len (l.take k) (fun d hd => HV.out d (List.mem_of_mem_take hd))
      have hkl : (l.take k).length ≤ 100000 := by rw [List.length_take]; omega
      have LX : Hid ((L ++ num l.length ++ (l.take k).flatMap pairB).length ≤ 90000000) := by have := HL.out; have := N0.out; show _ ≤ _; simp only [List.length_append]; omega
      have HBl := Lib.hid (pairs_snoc l k hlt)
      clear hpl hkl
      obtain ⟨q, hq⟩ : ∃ q, q = l[k] := ⟨_, rfl⟩
      rw [← hq] at hdd hd HBl
      clear hq
      obtain ⟨P, hP⟩ : ∃ P, P = L ++ num l.length ++ (l.take k).flatMap pairB := ⟨_, rfl⟩
      have HP : Hid (L ++ num l.length ++ (l.take (k + 1)).flatMap pairB = P ++ pairB q) := by show _ = _; rw [HBl.out, hP]; simp only [List.append_assoc]
      rw [← hP] at HY LX
      clear hP HBl
      have hddr := hdd.keep HY.out.bl
      obtain ⟨q1, q2⟩ := q
      simp only at hd
      obtain ⟨b1', b2', b3', b4'⟩ := hd
      obtain ⟨n1, rfl⟩ := Int.eq_ofNat_of_zero_le (show 0 ≤ q1 by omega)
      obtain ⟨n2, rfl⟩ := Int.eq_ofNat_of_zero_le (show 0 ≤ q2 by omega)
      have c0 := hddr.1
      have c1 := hddr.2
      clear hdd hddr
      replace HY := Lib.hid (HY.out.below ((Below.refl _ _).alloc (Nat.le_refl _) (.cells #[.int .i64 (n1 : Int), .int .i64 (n2 : Int)] 36)))
      go_wp2_with fail
      refine (wnum_row _ w0.heap.size b _ _ [n1, n2] _ _ rfl (by simp) HY.out.wr (by intro n hn; simp only [List.mem_cons, List.not_mem_nil, or_false] at hn; omega) (by have := LX.out; simp only [List.length_cons, List.length_nil] at *; omega) HY.out.bl.size _ _ _ (by simp) rfl).mono ?_
      rintro e w4 ⟨rfl, v4, hw, hf, hg⟩
      rw [nums_two] at hw
      replace HY := Lib.hid (HY.out.step hw hf)
      clear hw hf hg
      go_wp2_with fail
      go_roundw
      case rel => exact ⟨k + 1, v4, by omega, by go_num, by show Ws _ _ _ _ _; rw [HP.out]; exact HY.out⟩
      case measure => simp [intOf]; omega
    · obtain rfl : k = l.length := by omega
      have hend : ¬ (l.length : Int) < (l.length : Int) := by omega
      rw [List.take_length] at HY
      go_wp2_with fail
      go_end0
      exact ⟨rfl, x, by simpa only [dotsB, List.append_assoc] using HY.out⟩
end Go.Proofs.Ytfmlenhakejefaa.Ca
end

/-
  Layer 17's reference: which states have bytes; which contexts are small.
-/
section
namespace Go.Proofs.Ytfmlenhakejefaa.Ca
set_option linter.unusedVariables false
open Go.RowKit V Go.Sort D Nd Qs Jn
attribute [local irreducible] Sch.heldN Sch.stepV Sch.stepE

set_option maxRecDepth 100000 in
theorem right_ref (l : List Nt) (a : Option Addr) (c : Nat) (w : World) (hx : RowN w a l) (hlx : l.length ≤ 1000000) :
    Calls Try.prog 9 #[.slice a l.length c] w fun e w' => e = .returned (.bool (validS l && decide (l.length ≤ 65536))) ∧ Below w.heap.size w w' := by
  have HS := Lib.hid (store_ref l a c w hx hlx)
  have hi : (l.length : Int) ≤ 1000000 := by omega
  clear hx hlx
  by_cases hv : validS l = true
  · rw [hv] at HS
    rw [hv]
    by_cases h6 : l.length ≤ 65536
    · have h6i : (l.length : Int) ≤ 65536 := by omega
      have hd : decide (l.length ≤ 65536) = true := by simpa using h6
      rw [hd]
      clear h6 hd
      go_enter Try.func9, Try.ntmps9
      go_wp2_with fail
      refine HS.out.mono ?_
      rintro e w2 ⟨rfl, hb⟩
      have HB := Lib.hid hb
      clear hb
      go_wp2_with fail
      go_ret
      exact ⟨rfl, HB.out⟩
    · have h6i : ¬ (l.length : Int) ≤ 65536 := by omega
      have hd : decide (l.length ≤ 65536) = false := by simpa using h6
      rw [hd]
      clear h6 hd
      go_enter Try.func9, Try.ntmps9
      go_wp2_with fail
      refine HS.out.mono ?_
      rintro e w2 ⟨rfl, hb⟩
      have HB := Lib.hid hb
      clear hb
      go_wp2_with fail
      go_ret
      exact ⟨congrArg (fun b => Ending.returned (.bool b)) (by simp; omega), HB.out⟩
  · have hv' : validS l = false := by simpa using hv
    rw [hv'] at HS
    rw [hv']
    clear hv hv'
    go_enter Try.func9, Try.ntmps9
    go_wp2_with fail
    refine HS.out.mono ?_
    rintro e w2 ⟨rfl, hb⟩
    have HB := Lib.hid hb
    clear hb
    go_wp2_with fail
    go_ret
    exact ⟨rfl, HB.out⟩

set_option maxRecDepth 100000 in
theorem small_ref (a a2 : Option Addr) (n n2 c c2 : Nat) (w : World) :
    Calls Try.prog 17 #[.agg #[.slice a n c, .slice a2 n2 c2]] w fun e w' => e = .returned (.bool (decide (n ≤ 60) && decide (n2 ≤ 60))) ∧ Below w.heap.size w w' := by
  by_cases h1 : n ≤ 60
  · have i1 : (n : Int) ≤ 60 := by omega
    by_cases h2 : n2 ≤ 60
    · have i2 : (n2 : Int) ≤ 60 := by omega
      rw [show (decide (n ≤ 60) && decide (n2 ≤ 60)) = true by simp; omega]
      go_enter Try.func17, Try.ntmps17
      go_wp2_with fail
      go_ret
      exact ⟨by first | rfl | simp_all | (simp; omega), (Below.refl _ _).alloc (Nat.le_refl _) _⟩
    · have i2 : ¬ (n2 : Int) ≤ 60 := by omega
      rw [show (decide (n ≤ 60) && decide (n2 ≤ 60)) = false by simp; omega]
      go_enter Try.func17, Try.ntmps17
      go_wp2_with fail
      go_ret
      exact ⟨by first | rfl | simp_all | (simp; omega), (Below.refl _ _).alloc (Nat.le_refl _) _⟩
  · have i1 : ¬ (n : Int) ≤ 60 := by omega
    rw [show (decide (n ≤ 60) && decide (n2 ≤ 60)) = false by simp; omega]
    go_enter Try.func17, Try.ntmps17
    go_wp2_with fail
    go_ret
    exact ⟨by first | rfl | simp_all | (simp; omega), (Below.refl _ _).alloc (Nat.le_refl _) _⟩
end Go.Proofs.Ytfmlenhakejefaa.Ca
end

/-
  Rows of nodes of a call's own that are written, and sorted.
-/
section
namespace Go.Proofs.Ytfmlenhakejefaa.Qs
set_option linter.unusedVariables false
open Go.RowKit V Go.Sort Go.Shelf D Nd

theorem heap_set {w : World} {g : Nat} {cur : Array Value} {e : TypeId} (h : w.heap[g]? = some (.cells cur e (0, 0))) (i : Nat) (v : Value) : (w.setCell ⟨g, i, none⟩ v).heap[g]? = some (.cells (cur.setIfInBounds i v) e (0, 0)) := by
  simp only [World.setCell, Array.getElem?_modify, if_true, h, Option.map_some]
  simp
theorem on_of {w : World} {base g cap : Nat} {cur : Array Value} {l : List Nt} (hb : base ≤ g) (hg : w.heap[g]? = some (.cells cur E (0, 0))) (hn : l.length ≤ cap) (hc : cap ≤ maxLen) (hs : cur.size = cap * 6)
    (hr : ∀ i (hi : i < l.length) (j : Nat), j < 6 → cur[i * 6 + j]? = (nc l[i])[j]?) : ON w base E (.slice (some ⟨g, 0, none⟩) l.length cap) l := by
  refine ⟨cellsN_length l, .inr ⟨g, cap, cur, rfl, hb, hg, hn, hc, hs, ?_⟩⟩
  apply List.ext_getElem?
  intro t
  rw [List.getElem?_take]
  by_cases ht : t < l.length * 6
  · rw [if_pos ht, Array.getElem?_toList]
    have hi : t / 6 < l.length := by omega
    have h1 := hr (t / 6) hi (t % 6) (by omega)
    have h2 := cellsN_at l (t / 6) hi (t % 6) (by omega)
    have e : t / 6 * 6 + t % 6 = t := by omega
    rw [e] at h1 h2
    rw [h1, h2]
  · rw [if_neg ht, List.getElem?_eq_none (by rw [cellsN_length]; omega)]
theorem ON.cur {w : World} {base : Nat} {v : Value} {l : List Nt} (h : ON w base E v l) : (v = .slice none 0 0 ∧ l = []) ∨ ∃ g cap cur, v = .slice (some ⟨g, 0, none⟩) l.length cap ∧ base ≤ g ∧ w.heap[g]? = some (.cells cur E (0, 0)) ∧ l.length ≤ cap ∧ cap ≤ maxLen ∧ cur.size = cap * 6 ∧ ∀ i (hi : i < l.length) (j : Nat), j < 6 → cur[i * 6 + j]? = (nc l[i])[j]? := by
  rcases h.2 with ⟨rfl, h0⟩ | ⟨g, cap, cur, rfl, hb, hg, hn, hc, hs, ht⟩
  · exact .inl ⟨rfl, List.eq_nil_of_length_eq_zero h0⟩
  · refine .inr ⟨g, cap, cur, rfl, hb, hg, hn, hc, hs, fun i hi j hj => ?_⟩
    rw [← cellsN_at l i hi j hj, ← ht, List.getElem?_take, if_pos (by omega), Array.getElem?_toList]
/-- A node that is stored into a row. -/
def putAt (w : World) (g o : Nat) (n : Nt) : World :=
  (((((w.setCell ⟨g, o, none⟩ (.int .i64 n.1.1)).setCell ⟨g, o + 1, none⟩ (.int .i64 n.1.2)).setCell ⟨g, o + 2, none⟩ (.int .i64 n.2.1.1)).setCell ⟨g, o + 3, none⟩ (.int .i64 n.2.1.2)).setCell ⟨g, o + 4, none⟩ (.int .i64 n.2.2.1)).setCell ⟨g, o + 5, none⟩ (.int .i32 n.2.2.2)
theorem putAt_below {B : Nat} {a w : World} {g : Nat} (h : Below B a w) (hg : B ≤ g) (o : Nat) (n : Nt) : Below B a (putAt w g o n) :=
  (((((h.setCell (p := ⟨g, _, none⟩) hg _).setCell (p := ⟨g, _, none⟩) hg _).setCell (p := ⟨g, _, none⟩) hg _).setCell (p := ⟨g, _, none⟩) hg _).setCell (p := ⟨g, _, none⟩) hg _).setCell (p := ⟨g, _, none⟩) hg _
theorem putAt_gb (w : World) (g o : Nat) (n : Nt) : w.grownBy (putAt w g o n) (some g) :=
  gb_trans (gb_trans (gb_trans (gb_trans (gb_trans (gb_setCell _ _ _ _) (gb_setCell _ _ _ _)) (gb_setCell _ _ _ _)) (gb_setCell _ _ _ _)) (gb_setCell _ _ _ _)) (gb_setCell _ _ _ _)
theorem heap_putAt {w : World} {g : Nat} {cur : Array Value} {e : TypeId} (h : w.heap[g]? = some (.cells cur e (0, 0))) (o : Nat) (n : Nt) : (putAt w g o n).heap[g]? = some (.cells ((((((cur.setIfInBounds o (.int .i64 n.1.1)).setIfInBounds (o + 1) (.int .i64 n.1.2)).setIfInBounds (o + 2) (.int .i64 n.2.1.1)).setIfInBounds (o + 3) (.int .i64 n.2.1.2)).setIfInBounds (o + 4) (.int .i64 n.2.2.1)).setIfInBounds (o + 5) (.int .i32 n.2.2.2)) e (0, 0)) :=
  heap_set (heap_set (heap_set (heap_set (heap_set (heap_set h _ _) _ _) _ _) _ _) _ _) _ _
theorem ON.put {w : World} {base g c m : Nat} {l : List Nt} (h : ON w base E (.slice (some ⟨g, 0, none⟩) m c) l) {k : Nat} (hk : k < l.length) (n : Nt) : ON (putAt w g (k * 6) n) base E (.slice (some ⟨g, 0, none⟩) m c) (l.set k n) := by
  rcases h.cur with ⟨e, -⟩ | ⟨g', cap, cur, e, hb, hg, hn, hc, hs, hr⟩
  · cases e
  · simp only [Value.slice.injEq, Option.some.injEq, Addr.mk.injEq, and_true] at e
    obtain ⟨rfl, rfl, rfl⟩ := e
    have := on_of (l := l.set k n) hb (heap_putAt hg (k * 6) n) (by simpa using hn) hc (by simpa using hs) (fun i hi j hj => ?_)
    · rw [List.length_set] at this; exact this
    · rw [List.length_set] at hi
      simp only [Array.getElem?_setIfInBounds, Array.size_setIfInBounds]
      rw [List.getElem_set]
      by_cases e : k = i
      · subst e
        rw [if_pos rfl]
        match j, hj with
        | 0, _ => simp; omega
        | 1, _ => simp; omega
        | 2, _ => simp; omega
        | 3, _ => simp; omega
        | 4, _ => simp; omega
        | 5, _ => simp; omega
      · rw [if_neg e, if_neg (by omega), if_neg (by omega), if_neg (by omega), if_neg (by omega), if_neg (by omega), if_neg (by omega)]
        exact hr i hi j hj
theorem ON.putTime {w : World} {base g c m : Nat} {l : List Nt} (h : ON w base E (.slice (some ⟨g, 0, none⟩) m c) l) {k : Nat} (hk : k < l.length) (z : Int) : ON (w.setCell ⟨g, k * 6 + 4, none⟩ (.int .i64 z)) base E (.slice (some ⟨g, 0, none⟩) m c) (l.set k (l[k].1, l[k].2.1, z, l[k].2.2.2)) := by
  rcases h.cur with ⟨e, -⟩ | ⟨g', cap, cur, e, hb, hg, hn, hc, hs, hr⟩
  · cases e
  · simp only [Value.slice.injEq, Option.some.injEq, Addr.mk.injEq, and_true] at e
    obtain ⟨rfl, rfl, rfl⟩ := e
    have := on_of (l := l.set k (l[k].1, l[k].2.1, z, l[k].2.2.2)) hb (heap_set hg (k * 6 + 4) (.int .i64 z)) (by simpa using hn) hc (by simpa using hs) (fun i hi j hj => ?_)
    · rw [List.length_set] at this; exact this
    · rw [List.length_set] at hi
      simp only [Array.getElem?_setIfInBounds]
      rw [List.getElem_set]
      by_cases e : k = i
      · subst e
        rw [if_pos rfl]
        by_cases e4 : j = 4
        · subst e4
          simp; omega
        · rw [if_neg (by omega), hr k hi j hj]
          match j, hj, e4 with
          | 0, _, _ => rfl
          | 1, _, _ => rfl
          | 2, _, _ => rfl
          | 3, _, _ => rfl
          | 5, _, _ => rfl
      · rw [if_neg e, if_neg (by omega)]
        exact hr i hi j hj
theorem ON.free {w : World} {base g c m : Nat} {l : List Nt} (h : ON w base E (.slice (some ⟨g, 0, none⟩) m c) l) (o : Nat) : w.frozen? ⟨g, o, none⟩ = false := by
  rcases h.cur with ⟨e, -⟩ | ⟨g', cap, cur, e, hb, hg, hn, hc, hs, hr⟩
  · cases e
  · simp only [Value.slice.injEq, Option.some.injEq, Addr.mk.injEq, and_true] at e
    obtain ⟨rfl, rfl, rfl⟩ := e
    simp [World.frozen?, hg]
theorem ON.na {w : World} {base g m c : Nat} {l : List Nt} (h : ON w base E (.slice (some ⟨g, 0, none⟩) m c) l) (k : Nat) (hk : k < l.length) : Na w g (k * 6) l[k] := by
  obtain ⟨b, o, e, hn⟩ := na_of h.r.1 k hk
  cases e
  rw [Nat.zero_add] at hn
  exact hn
end Go.Proofs.Ytfmlenhakejefaa.Qs
end
