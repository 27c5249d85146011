/-
  The examples of the chapter.
-/
import Derived.Test.YtjdhdnlcaonnkaaDoorDLaw
import Derived.Test.YtjdhdnlcaonnkaaDoorDRefD
import Derived.Test.YtjdhdnlcaonnkaaDoorDOps
import Derived.Deep.CutRange
namespace Go.Proofs.YtjdhdnlcaonnkaaDoor.D
set_option linter.unusedVariables false
open Go.RowKit V Go.Sort

theorem cmp_val (x y : Dt) (c : Int) (h : cmpR x y = c) (w : World) : Calls Tryd.prog 12 #[dv x, dv y] w fun e w' => e = .returned (.int .i64 c) ∧ Below w.heap.size w w' := by
  rw [← h]
  exact (compare_any x y w).mono fun _ _ ⟨h1, h2⟩ => ⟨h1, Lays.bel h2⟩
theorem isSet_val (l : List Dt) (a : Option Addr) (n c : Nat) (b : Bool) (h : isSetR l = b) (w : World) (hx : RowD w a l) (hn : l.length = n) (hlx : n ≤ 1000000) :
    Calls Tryd.prog 16 #[.slice a n c] w fun e w' => e = .returned (.bool b) ∧ Below w.heap.size w w' := by
  rw [← h, ← hn]
  exact isSet_any l a c w hx (by omega)
theorem same_val (xs ys : List Dt) (a b : Option Addr) (n m c d : Nat) (q : Bool) (h : decide (xs = ys) = q) (w : World) (hx : RowD w a xs) (hy : RowD w b ys) (hn : xs.length = n) (hm : ys.length = m) (hlx : n ≤ 1000000) (hly : m ≤ 1000000) :
    Calls Tryd.prog 18 #[.slice a n c, .slice b m d] w fun e w' => e = .returned (.bool q) ∧ Below w.heap.size w w' := by
  rw [← h, ← hn, ← hm]
  exact same_ref xs ys a b c d w hx hy (by omega) (by omega)
theorem has_val (l : List Dt) (d : Dt) (a : Option Addr) (n c : Nat) (q : Bool) (h : decide (d ∈ l) = q) (w : World) (hx : RowD w a l) (hn : l.length = n) (hlx : n ≤ 1000000) :
    Calls Tryd.prog 20 #[.slice a n c, dv d] w fun e w' => e = .returned (.bool q) ∧ Below w.heap.size w w' := by
  rw [← h, ← hn]
  exact has_any l d a c w hx (by omega)
/-- A slice of dots. -/
def Sl (w : World) (v : Value) (n : Nat) (m : List Dt) : Prop := ∃ a c, v = .slice a n c ∧ RowD w a m
theorem set_val (l m : List Dt) (a : Option Addr) (n k c : Nat) (h : setR l = m) (w : World) (hx : RowD w a l) (hn : l.length = n) (hk : m.length = k) (hlx : n ≤ 1000000) :
    Calls Tryd.prog 15 #[.slice a n c] w fun e w' => ∃ v, e = .returned v ∧ Sl w' v k m ∧ Below w.heap.size w w' := by
  rw [← hn]
  refine (set_any l a c w hx (by omega)).mono ?_
  rintro e w' ⟨v, h1, h2, h3⟩
  rw [h] at h2
  obtain ⟨a, c, e2, -, hr⟩ := h2.row
  exact ⟨v, h1, ⟨a, c, by rw [e2, hk], hr⟩, h3⟩
theorem union_val (l m r : List Dt) (a b : Option Addr) (n k c d q : Nat) (h : unionR l m = r) (w : World) (hx : RowD w a l) (hy : RowD w b m) (hna : a = none → c = 0) (hnb : b = none → d = 0) (hn : l.length = n) (hk : m.length = k) (hq : r.length = q) (hlx : n ≤ 1000) (hly : k ≤ 1000) :
    Calls Tryd.prog 22 #[.slice a n c, .slice b k d] w fun e w' => ∃ v, e = .returned v ∧ Sl w' v q r ∧ Below w.heap.size w w' := by
  rw [← hn, ← hk]
  refine (union_any l m a b c d w hx hy hna hnb (by omega) (by omega)).mono ?_
  rintro e w' ⟨v, h1, h2, h3⟩
  rw [h] at h2
  obtain ⟨a, c, e2, -, hr⟩ := h2.row
  exact ⟨v, h1, ⟨a, c, by rw [e2, hq], hr⟩, h3⟩
theorem minus_val (l m r : List Dt) (a b : Option Addr) (n k c d q : Nat) (h : minusR l m = r) (w : World) (hx : RowD w a l) (hy : RowD w b m) (hn : l.length = n) (hk : m.length = k) (hq : r.length = q) (hlx : n ≤ 1000) (hly : k ≤ 1000) :
    Calls Tryd.prog 24 #[.slice a n c, .slice b k d] w fun e w' => ∃ v, e = .returned v ∧ Sl w' v q r ∧ Below w.heap.size w w' := by
  rw [← hn, ← hk]
  refine (minus_any l m a b c d w hx hy (by omega) (by omega)).mono ?_
  rintro e w' ⟨v, h1, h2, h3⟩
  rw [h] at h2
  obtain ⟨a, c, e2, -, hr⟩ := h2.row
  exact ⟨v, h1, ⟨a, c, by rw [e2, hq], hr⟩, h3⟩
theorem valid_val (d : Dt) (b : Bool) (h : validR d = b) (w : World) : Calls Tryd.prog 8 #[dv d] w fun e w' => e = .returned (.bool b) ∧ Below w.heap.size w w' := by
  rw [← h]; exact valid_any d w

set_option maxRecDepth 100000 in
set_option maxHeartbeats 8000000 in
theorem known_any (w : World) (hL : Ld w) : Calls Tryd.prog 14 #[] w fun e w' => e = .returned (.bool true) ∧ Below w.heap.size w w' := by
  have HLd := Lib.hid hL
  clear hL
  have HOf := Lib.hid (fun a b w => of_any a b w)
  have HC := Lib.hid (fun x y c (h : cmpR x y = c) w => cmp_val x y c h w)
  have HIs := Lib.hid (fun l a n c b (h : isSetR l = b) w hx hn hl => isSet_val l a n c b h w hx hn hl)
  have HSa := Lib.hid (fun xs ys a b n m c d q (h : decide (xs = ys) = q) w hx hy hn hm h1 h2 => same_val xs ys a b n m c d q h w hx hy hn hm h1 h2)
  have HSe := Lib.hid (fun l m a n k c (h : setR l = m) w hx hn hk hl => set_val l m a n k c h w hx hn hk hl)
  have HUn := Lib.hid (fun l m r a b n k c d q (h : unionR l m = r) w hx hy hna hnb hn hk hq h1 h2 => union_val l m r a b n k c d q h w hx hy hna hnb hn hk hq h1 h2)
  have HMi := Lib.hid (fun l m r a b n k c d q (h : minusR l m = r) w hx hy hn hk hq h1 h2 => minus_val l m r a b n k c d q h w hx hy hn hk hq h1 h2)
  have HHa := Lib.hid (fun l d a n c q (h : decide (d ∈ l) = q) w hx hn hl => has_val l d a n c q h w hx hn hl)
  have HVa := Lib.hid (fun d b (h : validR d = b) w => valid_val d b h w)
  have HRo := Lib.hid (fun w => root_any (0, 0) w)
  rw [show rootR (0, 0) = true from rfl] at HRo
  have HPa := Lib.hid (fun s d q w hL hlen (h : prsR s = (d, q)) => parses_any s d q w hL hlen h)
  have HTx := Lib.hid (fun d s q w hL (h : txtR d = (s, q)) => texts_any d s q w hL h)
  go_enter Tryd.func14, Tryd.ntmps14
  go_wp2_with fail
  refine (HOf.out _ _ _).mono ?_
  rintro e w1 ⟨rfl, hb⟩
  have HB := Lib.hid hb
  clear hb
  go_wp2_with fail
  refine (HOf.out _ _ _).mono ?_
  rintro e w2 ⟨rfl, hb⟩
  replace HB := bel_tr HB hb
  clear hb
  go_wp2_with fail
  refine (HOf.out _ _ _).mono ?_
  rintro e w3 ⟨rfl, hb⟩
  replace HB := bel_tr HB hb
  clear hb
  go_wp2_with fail
  have hK0 : KS w3.heap.size ((((w3.alloc (Obj.cells #[Value.int IntKind.i64 3, Value.int IntKind.i64 7] 23)).alloc (Obj.cells #[Value.int IntKind.i64 5, Value.int IntKind.i64 6] 23)).alloc (Obj.cells #[Value.int IntKind.i64 5, Value.int IntKind.i64 7] 23)).alloc (Obj.cells #[Value.int IntKind.i64 0, Value.int IntKind.i64 0] 23)) := by
    refine ⟨⟨?_, ?_⟩, ⟨?_, ?_⟩, ⟨?_, ?_⟩, ?_, ?_⟩ <;> go_simp
  have hB0 : Below w3.heap.size w3 ((((w3.alloc (Obj.cells #[Value.int IntKind.i64 3, Value.int IntKind.i64 7] 23)).alloc (Obj.cells #[Value.int IntKind.i64 5, Value.int IntKind.i64 6] 23)).alloc (Obj.cells #[Value.int IntKind.i64 5, Value.int IntKind.i64 7] 23)).alloc (Obj.cells #[Value.int IntKind.i64 0, Value.int IntKind.i64 0] 23)) := by
    refine ((((Below.refl _ _).alloc (Nat.le_refl _) _).alloc ?_ _).alloc ?_ _).alloc ?_ _ <;> simp <;> omega
  generalize (((w3.alloc (Obj.cells #[Value.int IntKind.i64 3, Value.int IntKind.i64 7] 23)).alloc (Obj.cells #[Value.int IntKind.i64 5, Value.int IntKind.i64 6] 23)).alloc (Obj.cells #[Value.int IntKind.i64 5, Value.int IntKind.i64 7] 23)).alloc (Obj.cells #[Value.int IntKind.i64 0, Value.int IntKind.i64 0] 23) = w5 at *
  replace HB := bel_tr HB hB0
  clear hB0
  generalize w3.heap.size = g at *
  clear w3
  have HK := Lib.hid hK0
  clear hK0
  refine Sch.wp_region_tree (KS g) (.take 0 (.take 1 (.one 2 (.take 3 (.take 4 (.take 5 (.take 6 (.one 7 (.take 8 (.take 9 (.take 10 (.take 11 (.take 12 (.one 13 (.take 14 (.take 15 (.take 16 (.take 17 (.one 18 (.one 19 (.take 20 (.take 21 (.take 22 (.take 23 (.take 24 (.take 25 (.one 26 (.one 27 (.take 28 (.take 29 (.take 30 (.take 31 (.take 32 (.one 33 (.one 34 (.take 35 (.take 36 (.one 37 (.take 38 (.take 39 .done)))))))))))))))))))))))))))))))))))))))) (by kernel_rfl) (by kernel_rfl) (HK.out.keep ((Below.refl _ _).drew)) ?_
  have hb : Below w5.heap.size w5 w5.drew := (Below.refl _ _).drew
  replace HK := Lib.hid (HK.out.keep hb)
  replace HB := bel_tr HB hb
  clear hb
  generalize w5.drew = w6 at *
  repeat (first
    | (refine Sch.tree_q rfl rfl (fun K hK => ?_); go_big_quiet_op; (first | refine hK _ ?_ | refine ⟨_, fun _ _ => rfl, hK _ ?_⟩); clear hK K)
    | (refine tree_load _ _ _ _ _ rfl rfl rfl rfl (by first | exact KS.a | exact KS.b | exact KS.c | exact KS.n) rfl ?_; simp only [Act.put, List.setIfInBounds_toArray, List.set_cons_zero, List.set_cons_succ]))
  refine Sch.tree_e rfl rfl (fun K hK => ?_)
  go_wp2_with fail
  refine (HC.out (3, 7) (5, 6) 1 rfl _).mono ?_
  rintro e w7 ⟨rfl, hb⟩
  replace HK := Lib.hid (HK.out.keep hb)
  replace HB := bel_tr HB hb
  clear hb
  refine hK _ _ HK.out ?_
  clear hK K
  repeat (first
    | (refine Sch.tree_q rfl rfl (fun K hK => ?_); go_big_quiet_op; (first | refine hK _ ?_ | refine ⟨_, fun _ _ => rfl, hK _ ?_⟩); clear hK K)
    | (refine tree_load _ _ _ _ _ rfl rfl rfl rfl (by first | exact KS.a | exact KS.b | exact KS.c | exact KS.n) rfl ?_; simp only [Act.put, List.setIfInBounds_toArray, List.set_cons_zero, List.set_cons_succ]))
  refine Sch.tree_e rfl rfl (fun K hK => ?_)
  go_wp2_with fail
  refine (HC.out (3, 7) (5, 7) (-1) rfl _).mono ?_
  rintro e w8 ⟨rfl, hb⟩
  replace HK := Lib.hid (HK.out.keep hb)
  replace HB := bel_tr HB hb
  clear hb
  refine hK _ _ HK.out ?_
  clear hK K
  repeat (first
    | (refine Sch.tree_q rfl rfl (fun K hK => ?_); go_big_quiet_op; (first | refine hK _ ?_ | refine ⟨_, fun _ _ => rfl, hK _ ?_⟩); clear hK K)
    | (refine tree_load _ _ _ _ _ rfl rfl rfl rfl (by first | exact KS.a | exact KS.b | exact KS.c | exact KS.n) rfl ?_; simp only [Act.put, List.setIfInBounds_toArray, List.set_cons_zero, List.set_cons_succ]))
  refine Sch.tree_e rfl rfl (fun K hK => ?_)
  go_wp2_with fail
  refine (HC.out (3, 7) (3, 7) 0 rfl _).mono ?_
  rintro e w9 ⟨rfl, hb⟩
  replace HK := Lib.hid (HK.out.keep hb)
  replace HB := bel_tr HB hb
  clear hb
  refine hK _ _ HK.out ?_
  clear hK K
  repeat (first
    | (refine Sch.tree_q rfl rfl (fun K hK => ?_); go_big_quiet_op; (first | refine hK _ ?_ | refine ⟨_, fun _ _ => rfl, hK _ ?_⟩); clear hK K)
    | (refine tree_load _ _ _ _ _ rfl rfl rfl rfl (by first | exact KS.a | exact KS.b | exact KS.c | exact KS.n) rfl ?_; simp only [Act.put, List.setIfInBounds_toArray, List.set_cons_zero, List.set_cons_succ]))
  refine Sch.tree_e rfl rfl (fun K hK => ?_)
  go_wp2_with fail
  refine (HOf.out 1 1 _).mono ?_
  rintro e w10 ⟨rfl, hb⟩
  replace HK := Lib.hid (HK.out.keep hb)
  replace HB := bel_tr HB hb
  clear hb
  refine hK _ _ HK.out ?_
  clear hK K
  refine Sch.tree_e rfl rfl (fun K hK => ?_)
  go_wp2_with fail
  refine (HC.out (0, 0) (1, 1) (-1) rfl _).mono ?_
  rintro e w11 ⟨rfl, hb⟩
  replace HK := Lib.hid (HK.out.keep hb)
  replace HB := bel_tr HB hb
  clear hb
  refine hK _ _ HK.out ?_
  clear hK K
  repeat (first
    | (refine Sch.tree_q rfl rfl (fun K hK => ?_); go_big_quiet_op; (first | refine hK _ ?_ | refine ⟨_, fun _ _ => rfl, hK _ ?_⟩); clear hK K)
    | (refine tree_load _ _ _ _ _ rfl rfl rfl rfl (by first | exact KS.a | exact KS.b | exact KS.c | exact KS.n) rfl ?_; simp only [Act.put, List.setIfInBounds_toArray, List.set_cons_zero, List.set_cons_succ]))
  refine Sch.tree_e rfl rfl (fun K hK => ?_)
  go_wp2_with fail
  have HR1 := Lib.hid (RowD.lit w11 [(5, 6), (3, 7), (5, 7)] #[.int .i64 5, .int .i64 6, .int .i64 3, .int .i64 7, .int .i64 5, .int .i64 7] 23 (0, 0) rfl)
  have hb := bel_box w11 (.cells #[.int .i64 5, .int .i64 6, .int .i64 3, .int .i64 7, .int .i64 5, .int .i64 7] 23)
  replace HK := Lib.hid (HK.out.keep hb)
  replace HB := bel_tr HB hb
  clear hb
  refine hK _ _ HK.out ?_
  clear hK K
  generalize w11.alloc (.cells #[.int .i64 5, .int .i64 6, .int .i64 3, .int .i64 7, .int .i64 5, .int .i64 7] 23) = w12 at *
  refine Sch.tree_e rfl rfl (fun K hK => ?_)
  go_wp2_with fail
  refine (HIs.out [(5, 6), (3, 7), (5, 7)] (some ⟨w11.heap.size, 0, none⟩) 3 3 true (by decide) w12 HR1.out rfl (by decide)).mono ?_
  rintro e w13 ⟨rfl, hb⟩
  replace HK := Lib.hid (HK.out.keep hb)
  replace HR1 := Lib.hid (HR1.out.keep hb)
  replace HB := bel_tr HB hb
  clear hb
  refine hK _ _ HK.out ?_
  clear hK K
  clear HR1
  repeat (first
    | (refine Sch.tree_q rfl rfl (fun K hK => ?_); go_big_quiet_op; (first | refine hK _ ?_ | refine ⟨_, fun _ _ => rfl, hK _ ?_⟩); clear hK K)
    | (refine tree_load _ _ _ _ _ rfl rfl rfl rfl (by first | exact KS.a | exact KS.b | exact KS.c | exact KS.n) rfl ?_; simp only [Act.put, List.setIfInBounds_toArray, List.set_cons_zero, List.set_cons_succ]))
  refine Sch.tree_e rfl rfl (fun K hK => ?_)
  go_wp2_with fail
  have HR1 := Lib.hid (RowD.lit w13 [(3, 7), (3, 7)] #[.int .i64 3, .int .i64 7, .int .i64 3, .int .i64 7] 23 (0, 0) rfl)
  have hb := bel_box w13 (.cells #[.int .i64 3, .int .i64 7, .int .i64 3, .int .i64 7] 23)
  replace HK := Lib.hid (HK.out.keep hb)
  replace HB := bel_tr HB hb
  clear hb
  refine hK _ _ HK.out ?_
  clear hK K
  generalize w13.alloc (.cells #[.int .i64 3, .int .i64 7, .int .i64 3, .int .i64 7] 23) = w14 at *
  refine Sch.tree_e rfl rfl (fun K hK => ?_)
  go_wp2_with fail
  refine (HIs.out [(3, 7), (3, 7)] (some ⟨w13.heap.size, 0, none⟩) 2 2 false (by decide) w14 HR1.out rfl (by decide)).mono ?_
  rintro e w15 ⟨rfl, hb⟩
  replace HK := Lib.hid (HK.out.keep hb)
  replace HR1 := Lib.hid (HR1.out.keep hb)
  replace HB := bel_tr HB hb
  clear hb
  refine hK _ _ HK.out ?_
  clear hK K
  clear HR1
  repeat (first
    | (refine Sch.tree_q rfl rfl (fun K hK => ?_); go_big_quiet_op; (first | refine hK _ ?_ | refine ⟨_, fun _ _ => rfl, hK _ ?_⟩); clear hK K)
    | (refine tree_load _ _ _ _ _ rfl rfl rfl rfl (by first | exact KS.a | exact KS.b | exact KS.c | exact KS.n) rfl ?_; simp only [Act.put, List.setIfInBounds_toArray, List.set_cons_zero, List.set_cons_succ]))
  refine Sch.tree_e rfl rfl (fun K hK => ?_)
  go_wp2_with fail
  refine (HIs.out [] none 0 0 true rfl w15 (.inl rfl) rfl (by decide)).mono ?_
  rintro e w16 ⟨rfl, hb⟩
  replace HK := Lib.hid (HK.out.keep hb)
  replace HB := bel_tr HB hb
  clear hb
  refine hK _ _ HK.out ?_
  clear hK K
  repeat (first
    | (refine Sch.tree_q rfl rfl (fun K hK => ?_); go_big_quiet_op; (first | refine hK _ ?_ | refine ⟨_, fun _ _ => rfl, hK _ ?_⟩); clear hK K)
    | (refine tree_load _ _ _ _ _ rfl rfl rfl rfl (by first | exact KS.a | exact KS.b | exact KS.c | exact KS.n) rfl ?_; simp only [Act.put, List.setIfInBounds_toArray, List.set_cons_zero, List.set_cons_succ]))
  refine Sch.tree_n ?_
  go_wp2_with fail
  go_cut [5, 6, 7] from 52 to 61 (fun p q r wx => ∃ x y z : Nat, p = .slice (some ⟨x, 0, none⟩) 3 3 ∧ q = .slice (some ⟨y, 0, none⟩) 2 2 ∧ r = .slice (some ⟨z, 0, none⟩) 2 2 ∧ Hid (RowD wx (some ⟨x, 0, none⟩) [(5, 6), (3, 7), (5, 7)]) ∧ Hid (RowD wx (some ⟨y, 0, none⟩) [(5, 7), (3, 7)]) ∧ Hid (RowD wx (some ⟨z, 0, none⟩) [(5, 6), (3, 7)]) ∧ Hid (KS g wx) ∧ Hid (Below w.heap.size w wx))
  case first =>
    refine Sch.wp_region_tree (KS g) (.take 0 (.take 1 (.take 2 (.take 4 (.take 5 (.take 7 (.take 8 (.three 3 (.take 10 (.two 6 (.take 11 (.one 9 (.take 12 .done))) 9 (.one 6 (.take 11 (.take 12 .done))))) 6 (.two 3 (.take 10 (.take 11 (.one 9 (.take 12 .done)))) 9 (.one 3 (.take 10 (.take 11 (.take 12 .done))))) 9 (.two 3 (.take 10 (.one 6 (.take 11 (.take 12 .done)))) 6 (.one 3 (.take 10 (.take 11 (.take 12 .done))))))))))))) (by kernel_rfl) (by kernel_rfl) (HK.out.keep ((Below.refl _ _).drew)) ?_
    have hb : Below w16.heap.size w16 w16.drew := (Below.refl _ _).drew
    replace HK := Lib.hid (HK.out.keep hb)
    replace HB := bel_tr HB hb
    clear hb
    generalize w16.drew = w17 at *
    repeat (first
      | (refine Sch.tree_q rfl rfl (fun K hK => ?_); go_big_quiet_op; (first | refine hK _ ?_ | refine ⟨_, fun _ _ => rfl, hK _ ?_⟩); clear hK K)
      | (refine tree_load _ _ _ _ _ rfl rfl rfl rfl (by first | exact KS.a | exact KS.b | exact KS.c | exact KS.n) rfl ?_; simp only [Act.put, List.setIfInBounds_toArray, List.set_cons_zero, List.set_cons_succ]))
    refine Sch.tree_three ?_ ?_ ?_
    · refine Sch.tree_e rfl rfl (fun K hK => ?_)
      go_wp2_with fail
      have HRx := Lib.hid (RowD.lit w17 [(5, 6), (3, 7), (5, 7)] #[.int .i64 5, .int .i64 6, .int .i64 3, .int .i64 7, .int .i64 5, .int .i64 7] 23 (0, 0) rfl)
      have hb := bel_box w17 (.cells #[.int .i64 5, .int .i64 6, .int .i64 3, .int .i64 7, .int .i64 5, .int .i64 7] 23)
      replace HK := Lib.hid (HK.out.keep hb)
      replace HB := bel_tr HB hb
      clear hb
      refine hK _ _ HK.out ?_
      clear hK K
      generalize w17.alloc (.cells #[.int .i64 5, .int .i64 6, .int .i64 3, .int .i64 7, .int .i64 5, .int .i64 7] 23) = w18 at *
      repeat (first
        | (refine Sch.tree_q rfl rfl (fun K hK => ?_); go_big_quiet_op; (first | refine hK _ ?_ | refine ⟨_, fun _ _ => rfl, hK _ ?_⟩); clear hK K)
        | (refine tree_load _ _ _ _ _ rfl rfl rfl rfl (by first | exact KS.a | exact KS.b | exact KS.c | exact KS.n) rfl ?_; simp only [Act.put, List.setIfInBounds_toArray, List.set_cons_zero, List.set_cons_succ]))
      refine Sch.tree_two ?_ ?_
      · refine Sch.tree_e rfl rfl (fun K hK => ?_)
        go_wp2_with fail
        have HRy := Lib.hid (RowD.lit w18 [(5, 7), (3, 7)] #[.int .i64 5, .int .i64 7, .int .i64 3, .int .i64 7] 23 (0, 0) rfl)
        have hb := bel_box w18 (.cells #[.int .i64 5, .int .i64 7, .int .i64 3, .int .i64 7] 23)
        replace HK := Lib.hid (HK.out.keep hb)
        replace HRx := Lib.hid (HRx.out.keep hb)
        replace HB := bel_tr HB hb
        clear hb
        refine hK _ _ HK.out ?_
        clear hK K
        generalize w18.alloc (.cells #[.int .i64 5, .int .i64 7, .int .i64 3, .int .i64 7] 23) = w19 at *
        repeat (first
          | (refine Sch.tree_q rfl rfl (fun K hK => ?_); go_big_quiet_op; (first | refine hK _ ?_ | refine ⟨_, fun _ _ => rfl, hK _ ?_⟩); clear hK K)
          | (refine tree_load _ _ _ _ _ rfl rfl rfl rfl (by first | exact KS.a | exact KS.b | exact KS.c | exact KS.n) rfl ?_; simp only [Act.put, List.setIfInBounds_toArray, List.set_cons_zero, List.set_cons_succ]))
        refine Sch.tree_e rfl rfl (fun K hK => ?_)
        go_wp2_with fail
        have HRz := Lib.hid (RowD.lit w19 [(5, 6), (3, 7)] #[.int .i64 5, .int .i64 6, .int .i64 3, .int .i64 7] 23 (0, 0) rfl)
        have hb := bel_box w19 (.cells #[.int .i64 5, .int .i64 6, .int .i64 3, .int .i64 7] 23)
        replace HK := Lib.hid (HK.out.keep hb)
        replace HRx := Lib.hid (HRx.out.keep hb)
        replace HRy := Lib.hid (HRy.out.keep hb)
        replace HB := bel_tr HB hb
        clear hb
        refine hK _ _ HK.out ?_
        clear hK K
        generalize w19.alloc (.cells #[.int .i64 5, .int .i64 6, .int .i64 3, .int .i64 7] 23) = w20 at *
        repeat (first
          | (refine Sch.tree_q rfl rfl (fun K hK => ?_); go_big_quiet_op; (first | refine hK _ ?_ | refine ⟨_, fun _ _ => rfl, hK _ ?_⟩); clear hK K)
          | (refine tree_load _ _ _ _ _ rfl rfl rfl rfl (by first | exact KS.a | exact KS.b | exact KS.c | exact KS.n) rfl ?_; simp only [Act.put, List.setIfInBounds_toArray, List.set_cons_zero, List.set_cons_succ]))
        refine Sch.tree_n ?_
        go_wp2_with fail
        go_meet
        case rel => exact ⟨_, _, _, rfl, rfl, rfl, HRx, HRy, HRz, HK, HB⟩
      · refine Sch.tree_e rfl rfl (fun K hK => ?_)
        go_wp2_with fail
        have HRz := Lib.hid (RowD.lit w18 [(5, 6), (3, 7)] #[.int .i64 5, .int .i64 6, .int .i64 3, .int .i64 7] 23 (0, 0) rfl)
        have hb := bel_box w18 (.cells #[.int .i64 5, .int .i64 6, .int .i64 3, .int .i64 7] 23)
        replace HK := Lib.hid (HK.out.keep hb)
        replace HRx := Lib.hid (HRx.out.keep hb)
        replace HB := bel_tr HB hb
        clear hb
        refine hK _ _ HK.out ?_
        clear hK K
        generalize w18.alloc (.cells #[.int .i64 5, .int .i64 6, .int .i64 3, .int .i64 7] 23) = w19 at *
        repeat (first
          | (refine Sch.tree_q rfl rfl (fun K hK => ?_); go_big_quiet_op; (first | refine hK _ ?_ | refine ⟨_, fun _ _ => rfl, hK _ ?_⟩); clear hK K)
          | (refine tree_load _ _ _ _ _ rfl rfl rfl rfl (by first | exact KS.a | exact KS.b | exact KS.c | exact KS.n) rfl ?_; simp only [Act.put, List.setIfInBounds_toArray, List.set_cons_zero, List.set_cons_succ]))
        refine Sch.tree_e rfl rfl (fun K hK => ?_)
        go_wp2_with fail
        have HRy := Lib.hid (RowD.lit w19 [(5, 7), (3, 7)] #[.int .i64 5, .int .i64 7, .int .i64 3, .int .i64 7] 23 (0, 0) rfl)
        have hb := bel_box w19 (.cells #[.int .i64 5, .int .i64 7, .int .i64 3, .int .i64 7] 23)
        replace HK := Lib.hid (HK.out.keep hb)
        replace HRx := Lib.hid (HRx.out.keep hb)
        replace HRz := Lib.hid (HRz.out.keep hb)
        replace HB := bel_tr HB hb
        clear hb
        refine hK _ _ HK.out ?_
        clear hK K
        generalize w19.alloc (.cells #[.int .i64 5, .int .i64 7, .int .i64 3, .int .i64 7] 23) = w20 at *
        repeat (first
          | (refine Sch.tree_q rfl rfl (fun K hK => ?_); go_big_quiet_op; (first | refine hK _ ?_ | refine ⟨_, fun _ _ => rfl, hK _ ?_⟩); clear hK K)
          | (refine tree_load _ _ _ _ _ rfl rfl rfl rfl (by first | exact KS.a | exact KS.b | exact KS.c | exact KS.n) rfl ?_; simp only [Act.put, List.setIfInBounds_toArray, List.set_cons_zero, List.set_cons_succ]))
        refine Sch.tree_n ?_
        go_wp2_with fail
        go_meet
        case rel => exact ⟨_, _, _, rfl, rfl, rfl, HRx, HRy, HRz, HK, HB⟩
    · refine Sch.tree_e rfl rfl (fun K hK => ?_)
      go_wp2_with fail
      have HRy := Lib.hid (RowD.lit w17 [(5, 7), (3, 7)] #[.int .i64 5, .int .i64 7, .int .i64 3, .int .i64 7] 23 (0, 0) rfl)
      have hb := bel_box w17 (.cells #[.int .i64 5, .int .i64 7, .int .i64 3, .int .i64 7] 23)
      replace HK := Lib.hid (HK.out.keep hb)
      replace HB := bel_tr HB hb
      clear hb
      refine hK _ _ HK.out ?_
      clear hK K
      generalize w17.alloc (.cells #[.int .i64 5, .int .i64 7, .int .i64 3, .int .i64 7] 23) = w18 at *
      repeat (first
        | (refine Sch.tree_q rfl rfl (fun K hK => ?_); go_big_quiet_op; (first | refine hK _ ?_ | refine ⟨_, fun _ _ => rfl, hK _ ?_⟩); clear hK K)
        | (refine tree_load _ _ _ _ _ rfl rfl rfl rfl (by first | exact KS.a | exact KS.b | exact KS.c | exact KS.n) rfl ?_; simp only [Act.put, List.setIfInBounds_toArray, List.set_cons_zero, List.set_cons_succ]))
      refine Sch.tree_two ?_ ?_
      · refine Sch.tree_e rfl rfl (fun K hK => ?_)
        go_wp2_with fail
        have HRx := Lib.hid (RowD.lit w18 [(5, 6), (3, 7), (5, 7)] #[.int .i64 5, .int .i64 6, .int .i64 3, .int .i64 7, .int .i64 5, .int .i64 7] 23 (0, 0) rfl)
        have hb := bel_box w18 (.cells #[.int .i64 5, .int .i64 6, .int .i64 3, .int .i64 7, .int .i64 5, .int .i64 7] 23)
        replace HK := Lib.hid (HK.out.keep hb)
        replace HRy := Lib.hid (HRy.out.keep hb)
        replace HB := bel_tr HB hb
        clear hb
        refine hK _ _ HK.out ?_
        clear hK K
        generalize w18.alloc (.cells #[.int .i64 5, .int .i64 6, .int .i64 3, .int .i64 7, .int .i64 5, .int .i64 7] 23) = w19 at *
        repeat (first
          | (refine Sch.tree_q rfl rfl (fun K hK => ?_); go_big_quiet_op; (first | refine hK _ ?_ | refine ⟨_, fun _ _ => rfl, hK _ ?_⟩); clear hK K)
          | (refine tree_load _ _ _ _ _ rfl rfl rfl rfl (by first | exact KS.a | exact KS.b | exact KS.c | exact KS.n) rfl ?_; simp only [Act.put, List.setIfInBounds_toArray, List.set_cons_zero, List.set_cons_succ]))
        refine Sch.tree_e rfl rfl (fun K hK => ?_)
        go_wp2_with fail
        have HRz := Lib.hid (RowD.lit w19 [(5, 6), (3, 7)] #[.int .i64 5, .int .i64 6, .int .i64 3, .int .i64 7] 23 (0, 0) rfl)
        have hb := bel_box w19 (.cells #[.int .i64 5, .int .i64 6, .int .i64 3, .int .i64 7] 23)
        replace HK := Lib.hid (HK.out.keep hb)
        replace HRy := Lib.hid (HRy.out.keep hb)
        replace HRx := Lib.hid (HRx.out.keep hb)
        replace HB := bel_tr HB hb
        clear hb
        refine hK _ _ HK.out ?_
        clear hK K
        generalize w19.alloc (.cells #[.int .i64 5, .int .i64 6, .int .i64 3, .int .i64 7] 23) = w20 at *
        repeat (first
          | (refine Sch.tree_q rfl rfl (fun K hK => ?_); go_big_quiet_op; (first | refine hK _ ?_ | refine ⟨_, fun _ _ => rfl, hK _ ?_⟩); clear hK K)
          | (refine tree_load _ _ _ _ _ rfl rfl rfl rfl (by first | exact KS.a | exact KS.b | exact KS.c | exact KS.n) rfl ?_; simp only [Act.put, List.setIfInBounds_toArray, List.set_cons_zero, List.set_cons_succ]))
        refine Sch.tree_n ?_
        go_wp2_with fail
        go_meet
        case rel => exact ⟨_, _, _, rfl, rfl, rfl, HRx, HRy, HRz, HK, HB⟩
      · refine Sch.tree_e rfl rfl (fun K hK => ?_)
        go_wp2_with fail
        have HRz := Lib.hid (RowD.lit w18 [(5, 6), (3, 7)] #[.int .i64 5, .int .i64 6, .int .i64 3, .int .i64 7] 23 (0, 0) rfl)
        have hb := bel_box w18 (.cells #[.int .i64 5, .int .i64 6, .int .i64 3, .int .i64 7] 23)
        replace HK := Lib.hid (HK.out.keep hb)
        replace HRy := Lib.hid (HRy.out.keep hb)
        replace HB := bel_tr HB hb
        clear hb
        refine hK _ _ HK.out ?_
        clear hK K
        generalize w18.alloc (.cells #[.int .i64 5, .int .i64 6, .int .i64 3, .int .i64 7] 23) = w19 at *
        repeat (first
          | (refine Sch.tree_q rfl rfl (fun K hK => ?_); go_big_quiet_op; (first | refine hK _ ?_ | refine ⟨_, fun _ _ => rfl, hK _ ?_⟩); clear hK K)
          | (refine tree_load _ _ _ _ _ rfl rfl rfl rfl (by first | exact KS.a | exact KS.b | exact KS.c | exact KS.n) rfl ?_; simp only [Act.put, List.setIfInBounds_toArray, List.set_cons_zero, List.set_cons_succ]))
        refine Sch.tree_e rfl rfl (fun K hK => ?_)
        go_wp2_with fail
        have HRx := Lib.hid (RowD.lit w19 [(5, 6), (3, 7), (5, 7)] #[.int .i64 5, .int .i64 6, .int .i64 3, .int .i64 7, .int .i64 5, .int .i64 7] 23 (0, 0) rfl)
        have hb := bel_box w19 (.cells #[.int .i64 5, .int .i64 6, .int .i64 3, .int .i64 7, .int .i64 5, .int .i64 7] 23)
        replace HK := Lib.hid (HK.out.keep hb)
        replace HRy := Lib.hid (HRy.out.keep hb)
        replace HRz := Lib.hid (HRz.out.keep hb)
        replace HB := bel_tr HB hb
        clear hb
        refine hK _ _ HK.out ?_
        clear hK K
        generalize w19.alloc (.cells #[.int .i64 5, .int .i64 6, .int .i64 3, .int .i64 7, .int .i64 5, .int .i64 7] 23) = w20 at *
        repeat (first
          | (refine Sch.tree_q rfl rfl (fun K hK => ?_); go_big_quiet_op; (first | refine hK _ ?_ | refine ⟨_, fun _ _ => rfl, hK _ ?_⟩); clear hK K)
          | (refine tree_load _ _ _ _ _ rfl rfl rfl rfl (by first | exact KS.a | exact KS.b | exact KS.c | exact KS.n) rfl ?_; simp only [Act.put, List.setIfInBounds_toArray, List.set_cons_zero, List.set_cons_succ]))
        refine Sch.tree_n ?_
        go_wp2_with fail
        go_meet
        case rel => exact ⟨_, _, _, rfl, rfl, rfl, HRx, HRy, HRz, HK, HB⟩
    · refine Sch.tree_e rfl rfl (fun K hK => ?_)
      go_wp2_with fail
      have HRz := Lib.hid (RowD.lit w17 [(5, 6), (3, 7)] #[.int .i64 5, .int .i64 6, .int .i64 3, .int .i64 7] 23 (0, 0) rfl)
      have hb := bel_box w17 (.cells #[.int .i64 5, .int .i64 6, .int .i64 3, .int .i64 7] 23)
      replace HK := Lib.hid (HK.out.keep hb)
      replace HB := bel_tr HB hb
      clear hb
      refine hK _ _ HK.out ?_
      clear hK K
      generalize w17.alloc (.cells #[.int .i64 5, .int .i64 6, .int .i64 3, .int .i64 7] 23) = w18 at *
      repeat (first
        | (refine Sch.tree_q rfl rfl (fun K hK => ?_); go_big_quiet_op; (first | refine hK _ ?_ | refine ⟨_, fun _ _ => rfl, hK _ ?_⟩); clear hK K)
        | (refine tree_load _ _ _ _ _ rfl rfl rfl rfl (by first | exact KS.a | exact KS.b | exact KS.c | exact KS.n) rfl ?_; simp only [Act.put, List.setIfInBounds_toArray, List.set_cons_zero, List.set_cons_succ]))
      refine Sch.tree_two ?_ ?_
      · refine Sch.tree_e rfl rfl (fun K hK => ?_)
        go_wp2_with fail
        have HRx := Lib.hid (RowD.lit w18 [(5, 6), (3, 7), (5, 7)] #[.int .i64 5, .int .i64 6, .int .i64 3, .int .i64 7, .int .i64 5, .int .i64 7] 23 (0, 0) rfl)
        have hb := bel_box w18 (.cells #[.int .i64 5, .int .i64 6, .int .i64 3, .int .i64 7, .int .i64 5, .int .i64 7] 23)
        replace HK := Lib.hid (HK.out.keep hb)
        replace HRz := Lib.hid (HRz.out.keep hb)
        replace HB := bel_tr HB hb
        clear hb
        refine hK _ _ HK.out ?_
        clear hK K
        generalize w18.alloc (.cells #[.int .i64 5, .int .i64 6, .int .i64 3, .int .i64 7, .int .i64 5, .int .i64 7] 23) = w19 at *
        repeat (first
          | (refine Sch.tree_q rfl rfl (fun K hK => ?_); go_big_quiet_op; (first | refine hK _ ?_ | refine ⟨_, fun _ _ => rfl, hK _ ?_⟩); clear hK K)
          | (refine tree_load _ _ _ _ _ rfl rfl rfl rfl (by first | exact KS.a | exact KS.b | exact KS.c | exact KS.n) rfl ?_; simp only [Act.put, List.setIfInBounds_toArray, List.set_cons_zero, List.set_cons_succ]))
        refine Sch.tree_e rfl rfl (fun K hK => ?_)
        go_wp2_with fail
        have HRy := Lib.hid (RowD.lit w19 [(5, 7), (3, 7)] #[.int .i64 5, .int .i64 7, .int .i64 3, .int .i64 7] 23 (0, 0) rfl)
        have hb := bel_box w19 (.cells #[.int .i64 5, .int .i64 7, .int .i64 3, .int .i64 7] 23)
        replace HK := Lib.hid (HK.out.keep hb)
        replace HRz := Lib.hid (HRz.out.keep hb)
        replace HRx := Lib.hid (HRx.out.keep hb)
        replace HB := bel_tr HB hb
        clear hb
        refine hK _ _ HK.out ?_
        clear hK K
        generalize w19.alloc (.cells #[.int .i64 5, .int .i64 7, .int .i64 3, .int .i64 7] 23) = w20 at *
        repeat (first
          | (refine Sch.tree_q rfl rfl (fun K hK => ?_); go_big_quiet_op; (first | refine hK _ ?_ | refine ⟨_, fun _ _ => rfl, hK _ ?_⟩); clear hK K)
          | (refine tree_load _ _ _ _ _ rfl rfl rfl rfl (by first | exact KS.a | exact KS.b | exact KS.c | exact KS.n) rfl ?_; simp only [Act.put, List.setIfInBounds_toArray, List.set_cons_zero, List.set_cons_succ]))
        refine Sch.tree_n ?_
        go_wp2_with fail
        go_meet
        case rel => exact ⟨_, _, _, rfl, rfl, rfl, HRx, HRy, HRz, HK, HB⟩
      · refine Sch.tree_e rfl rfl (fun K hK => ?_)
        go_wp2_with fail
        have HRy := Lib.hid (RowD.lit w18 [(5, 7), (3, 7)] #[.int .i64 5, .int .i64 7, .int .i64 3, .int .i64 7] 23 (0, 0) rfl)
        have hb := bel_box w18 (.cells #[.int .i64 5, .int .i64 7, .int .i64 3, .int .i64 7] 23)
        replace HK := Lib.hid (HK.out.keep hb)
        replace HRz := Lib.hid (HRz.out.keep hb)
        replace HB := bel_tr HB hb
        clear hb
        refine hK _ _ HK.out ?_
        clear hK K
        generalize w18.alloc (.cells #[.int .i64 5, .int .i64 7, .int .i64 3, .int .i64 7] 23) = w19 at *
        repeat (first
          | (refine Sch.tree_q rfl rfl (fun K hK => ?_); go_big_quiet_op; (first | refine hK _ ?_ | refine ⟨_, fun _ _ => rfl, hK _ ?_⟩); clear hK K)
          | (refine tree_load _ _ _ _ _ rfl rfl rfl rfl (by first | exact KS.a | exact KS.b | exact KS.c | exact KS.n) rfl ?_; simp only [Act.put, List.setIfInBounds_toArray, List.set_cons_zero, List.set_cons_succ]))
        refine Sch.tree_e rfl rfl (fun K hK => ?_)
        go_wp2_with fail
        have HRx := Lib.hid (RowD.lit w19 [(5, 6), (3, 7), (5, 7)] #[.int .i64 5, .int .i64 6, .int .i64 3, .int .i64 7, .int .i64 5, .int .i64 7] 23 (0, 0) rfl)
        have hb := bel_box w19 (.cells #[.int .i64 5, .int .i64 6, .int .i64 3, .int .i64 7, .int .i64 5, .int .i64 7] 23)
        replace HK := Lib.hid (HK.out.keep hb)
        replace HRz := Lib.hid (HRz.out.keep hb)
        replace HRy := Lib.hid (HRy.out.keep hb)
        replace HB := bel_tr HB hb
        clear hb
        refine hK _ _ HK.out ?_
        clear hK K
        generalize w19.alloc (.cells #[.int .i64 5, .int .i64 6, .int .i64 3, .int .i64 7, .int .i64 5, .int .i64 7] 23) = w20 at *
        repeat (first
          | (refine Sch.tree_q rfl rfl (fun K hK => ?_); go_big_quiet_op; (first | refine hK _ ?_ | refine ⟨_, fun _ _ => rfl, hK _ ?_⟩); clear hK K)
          | (refine tree_load _ _ _ _ _ rfl rfl rfl rfl (by first | exact KS.a | exact KS.b | exact KS.c | exact KS.n) rfl ?_; simp only [Act.put, List.setIfInBounds_toArray, List.set_cons_zero, List.set_cons_succ]))
        refine Sch.tree_n ?_
        go_wp2_with fail
        go_meet
        case rel => exact ⟨_, _, _, rfl, rfl, rfl, HRx, HRy, HRz, HK, HB⟩
  case rest =>
    obtain ⟨x, y, z, rfl, rfl, rfl, HRx, HRy, HRz, HK, HB⟩ := hcut
    generalize wc = w18 at *
    go_wp2_with fail
    refine Sch.wp_region_tree (KS g) (.take 0 (.take 1 (.take 2 (.take 3 (.take 6 (.one 4 (.one 5 (.one 7 (.take 8 (.take 9 (.take 10 (.take 11 (.take 13 (.one 12 (.one 14 (.take 15 (.take 16 (.take 17 (.take 18 (.take 19 (.take 21 (.two 20 (.one 22 (.one 23 (.take 24 (.take 25 (.take 26 (.take 27 (.take 28 (.one 29 (.take 30 (.take 31 .done)))))))))) 22 (.one 20 (.one 23 (.take 24 (.take 25 (.take 26 (.take 27 (.take 28 (.one 29 (.take 30 (.take 31 .done)))))))))))))))))))))))))))))))) (by kernel_rfl) (by kernel_rfl) (HK.out.keep ((Below.refl _ _).drew)) ?_
    have hb : Below w18.heap.size w18 w18.drew := (Below.refl _ _).drew
    replace HK := Lib.hid (HK.out.keep hb)
    replace HRx := Lib.hid (HRx.out.keep hb)
    replace HRy := Lib.hid (HRy.out.keep hb)
    replace HRz := Lib.hid (HRz.out.keep hb)
    replace HB := bel_tr HB hb
    clear hb
    generalize w18.drew = w19 at *
    repeat (first
      | (refine Sch.tree_q rfl rfl (fun K hK => ?_); go_big_quiet_op; (first | refine hK _ ?_ | refine ⟨_, fun _ _ => rfl, hK _ ?_⟩); clear hK K)
      | (refine tree_load _ _ _ _ _ rfl rfl rfl rfl (by first | exact KS.a | exact KS.b | exact KS.c | exact KS.n) rfl ?_; simp only [Act.put, List.setIfInBounds_toArray, List.set_cons_zero, List.set_cons_succ]))
    refine Sch.tree_e rfl rfl (fun K hK => ?_)
    go_wp2_with fail
    have HR1 := Lib.hid (RowD.lit w19 [(5, 7), (3, 7), (5, 6), (3, 7)] #[.int .i64 5, .int .i64 7, .int .i64 3, .int .i64 7, .int .i64 5, .int .i64 6, .int .i64 3, .int .i64 7] 23 (0, 0) rfl)
    have hb := bel_box w19 (.cells #[.int .i64 5, .int .i64 7, .int .i64 3, .int .i64 7, .int .i64 5, .int .i64 6, .int .i64 3, .int .i64 7] 23)
    replace HK := Lib.hid (HK.out.keep hb)
    replace HRx := Lib.hid (HRx.out.keep hb)
    replace HRy := Lib.hid (HRy.out.keep hb)
    replace HRz := Lib.hid (HRz.out.keep hb)
    replace HB := bel_tr HB hb
    clear hb
    refine hK _ _ HK.out ?_
    clear hK K
    generalize w19.alloc (.cells #[.int .i64 5, .int .i64 7, .int .i64 3, .int .i64 7, .int .i64 5, .int .i64 6, .int .i64 3, .int .i64 7] 23) = w20 at *
    refine Sch.tree_e rfl rfl (fun K hK => ?_)
    go_wp2_with fail
    refine (HSe.out [(5, 7), (3, 7), (5, 6), (3, 7)] [(5, 6), (3, 7), (5, 7)] (some ⟨w19.heap.size, 0, none⟩) 4 3 4 (by decide) w20 HR1.out rfl rfl (by decide)).mono ?_
    rintro e w21 ⟨v1, rfl, ⟨a1, c1, rfl, hr1⟩, hb⟩
    replace HK := Lib.hid (HK.out.keep hb)
    replace HRx := Lib.hid (HRx.out.keep hb)
    replace HRy := Lib.hid (HRy.out.keep hb)
    replace HRz := Lib.hid (HRz.out.keep hb)
    replace HR1 := Lib.hid (HR1.out.keep hb)
    have HS1 := Lib.hid hr1
    clear hr1
    replace HB := bel_tr HB hb
    clear hb
    refine hK _ _ HK.out ?_
    clear hK K
    clear HR1
    refine Sch.tree_e rfl rfl (fun K hK => ?_)
    go_wp2_with fail
    refine (HSa.out [(5, 6), (3, 7), (5, 7)] [(5, 6), (3, 7), (5, 7)] a1 (some ⟨x, 0, none⟩) 3 3 c1 3 true (by decide) w21 HS1.out HRx.out rfl rfl (by decide) (by decide)).mono ?_
    rintro e w22 ⟨rfl, hb⟩
    replace HK := Lib.hid (HK.out.keep hb)
    replace HRx := Lib.hid (HRx.out.keep hb)
    replace HRy := Lib.hid (HRy.out.keep hb)
    replace HRz := Lib.hid (HRz.out.keep hb)
    replace HS1 := Lib.hid (HS1.out.keep hb)
    replace HB := bel_tr HB hb
    clear hb
    refine hK _ _ HK.out ?_
    clear hK K
    clear HS1
    repeat (first
      | (refine Sch.tree_q rfl rfl (fun K hK => ?_); go_big_quiet_op; (first | refine hK _ ?_ | refine ⟨_, fun _ _ => rfl, hK _ ?_⟩); clear hK K)
      | (refine tree_load _ _ _ _ _ rfl rfl rfl rfl (by first | exact KS.a | exact KS.b | exact KS.c | exact KS.n) rfl ?_; simp only [Act.put, List.setIfInBounds_toArray, List.set_cons_zero, List.set_cons_succ]))
    refine Sch.tree_e rfl rfl (fun K hK => ?_)
    go_wp2_with fail
    refine (HUn.out [(5, 7), (3, 7)] [(5, 6), (3, 7)] [(5, 6), (3, 7), (5, 7)] (some ⟨y, 0, none⟩) (some ⟨z, 0, none⟩) 2 2 2 2 3 (by decide) w22 HRy.out HRz.out (fun h => by cases h) (fun h => by cases h) rfl rfl rfl (by decide) (by decide)).mono ?_
    rintro e w23 ⟨v2, rfl, ⟨a2, c2, rfl, hr1⟩, hb⟩
    replace HK := Lib.hid (HK.out.keep hb)
    replace HRx := Lib.hid (HRx.out.keep hb)
    replace HRy := Lib.hid (HRy.out.keep hb)
    replace HRz := Lib.hid (HRz.out.keep hb)
    have HS1 := Lib.hid hr1
    clear hr1
    replace HB := bel_tr HB hb
    clear hb
    refine hK _ _ HK.out ?_
    clear hK K
    refine Sch.tree_e rfl rfl (fun K hK => ?_)
    go_wp2_with fail
    refine (HSa.out [(5, 6), (3, 7), (5, 7)] [(5, 6), (3, 7), (5, 7)] a2 (some ⟨x, 0, none⟩) 3 3 c2 3 true (by decide) w23 HS1.out HRx.out rfl rfl (by decide) (by decide)).mono ?_
    rintro e w24 ⟨rfl, hb⟩
    replace HK := Lib.hid (HK.out.keep hb)
    replace HRx := Lib.hid (HRx.out.keep hb)
    replace HRy := Lib.hid (HRy.out.keep hb)
    replace HRz := Lib.hid (HRz.out.keep hb)
    replace HS1 := Lib.hid (HS1.out.keep hb)
    replace HB := bel_tr HB hb
    clear hb
    refine hK _ _ HK.out ?_
    clear hK K
    clear HS1
    repeat (first
      | (refine Sch.tree_q rfl rfl (fun K hK => ?_); go_big_quiet_op; (first | refine hK _ ?_ | refine ⟨_, fun _ _ => rfl, hK _ ?_⟩); clear hK K)
      | (refine tree_load _ _ _ _ _ rfl rfl rfl rfl (by first | exact KS.a | exact KS.b | exact KS.c | exact KS.n) rfl ?_; simp only [Act.put, List.setIfInBounds_toArray, List.set_cons_zero, List.set_cons_succ]))
    refine Sch.tree_two ?_ ?_
    · refine Sch.tree_e rfl rfl (fun K hK => ?_)
      go_wp2_with fail
      refine (HMi.out [(5, 7), (3, 7)] [(5, 6), (3, 7)] [(5, 7)] (some ⟨y, 0, none⟩) (some ⟨z, 0, none⟩) 2 2 2 2 1 (by decide) w24 HRy.out HRz.out rfl rfl rfl (by decide) (by decide)).mono ?_
      rintro e w25 ⟨v3, rfl, ⟨a3, c3, rfl, hr1⟩, hb⟩
      replace HK := Lib.hid (HK.out.keep hb)
      replace HRx := Lib.hid (HRx.out.keep hb)
      replace HRy := Lib.hid (HRy.out.keep hb)
      replace HRz := Lib.hid (HRz.out.keep hb)
      have HS1 := Lib.hid hr1
      clear hr1
      replace HB := bel_tr HB hb
      clear hb
      refine hK _ _ HK.out ?_
      clear hK K
      repeat (first
        | (refine Sch.tree_q rfl rfl (fun K hK => ?_); go_big_quiet_op; (first | refine hK _ ?_ | refine ⟨_, fun _ _ => rfl, hK _ ?_⟩); clear hK K)
        | (refine tree_load _ _ _ _ _ rfl rfl rfl rfl (by first | exact KS.a | exact KS.b | exact KS.c | exact KS.n) rfl ?_; simp only [Act.put, List.setIfInBounds_toArray, List.set_cons_zero, List.set_cons_succ]))
      refine Sch.tree_e rfl rfl (fun K hK => ?_)
      go_wp2_with fail
      have HR1 := Lib.hid (RowD.lit w25 [(5, 7)] #[.int .i64 5, .int .i64 7] 23 (0, 0) rfl)
      have hb := bel_box w25 (.cells #[.int .i64 5, .int .i64 7] 23)
      replace HK := Lib.hid (HK.out.keep hb)
      replace HRx := Lib.hid (HRx.out.keep hb)
      replace HRy := Lib.hid (HRy.out.keep hb)
      replace HRz := Lib.hid (HRz.out.keep hb)
      replace HS1 := Lib.hid (HS1.out.keep hb)
      replace HB := bel_tr HB hb
      clear hb
      refine hK _ _ HK.out ?_
      clear hK K
      generalize w25.alloc (.cells #[.int .i64 5, .int .i64 7] 23) = w26 at *
      repeat (first
        | (refine Sch.tree_q rfl rfl (fun K hK => ?_); go_big_quiet_op; (first | refine hK _ ?_ | refine ⟨_, fun _ _ => rfl, hK _ ?_⟩); clear hK K)
        | (refine tree_load _ _ _ _ _ rfl rfl rfl rfl (by first | exact KS.a | exact KS.b | exact KS.c | exact KS.n) rfl ?_; simp only [Act.put, List.setIfInBounds_toArray, List.set_cons_zero, List.set_cons_succ]))
      refine Sch.tree_e rfl rfl (fun K hK => ?_)
      go_wp2_with fail
      refine (HSa.out [(5, 7)] [(5, 7)] a3 (some ⟨w25.heap.size, 0, none⟩) 1 1 c3 1 true (by decide) w26 HS1.out HR1.out rfl rfl (by decide) (by decide)).mono ?_
      rintro e w27 ⟨rfl, hb⟩
      replace HK := Lib.hid (HK.out.keep hb)
      replace HRx := Lib.hid (HRx.out.keep hb)
      replace HRy := Lib.hid (HRy.out.keep hb)
      replace HRz := Lib.hid (HRz.out.keep hb)
      replace HS1 := Lib.hid (HS1.out.keep hb)
      replace HR1 := Lib.hid (HR1.out.keep hb)
      replace HB := bel_tr HB hb
      clear hb
      refine hK _ _ HK.out ?_
      clear hK K
      clear HS1 HR1
      repeat (first
        | (refine Sch.tree_q rfl rfl (fun K hK => ?_); go_big_quiet_op; (first | refine hK _ ?_ | refine ⟨_, fun _ _ => rfl, hK _ ?_⟩); clear hK K)
        | (refine tree_load _ _ _ _ _ rfl rfl rfl rfl (by first | exact KS.a | exact KS.b | exact KS.c | exact KS.n) rfl ?_; simp only [Act.put, List.setIfInBounds_toArray, List.set_cons_zero, List.set_cons_succ]))
      refine Sch.tree_e rfl rfl (fun K hK => ?_)
      go_wp2_with fail
      refine (HHa.out [(5, 7), (3, 7)] (3, 7) (some ⟨y, 0, none⟩) 2 2 true (by decide) w27 HRy.out rfl (by decide)).mono ?_
      rintro e w28 ⟨rfl, hb⟩
      replace HK := Lib.hid (HK.out.keep hb)
      replace HRx := Lib.hid (HRx.out.keep hb)
      replace HRy := Lib.hid (HRy.out.keep hb)
      replace HRz := Lib.hid (HRz.out.keep hb)
      replace HB := bel_tr HB hb
      clear hb
      refine hK _ _ HK.out ?_
      clear hK K
      repeat (first
        | (refine Sch.tree_q rfl rfl (fun K hK => ?_); go_big_quiet_op; (first | refine hK _ ?_ | refine ⟨_, fun _ _ => rfl, hK _ ?_⟩); clear hK K)
        | (refine tree_load _ _ _ _ _ rfl rfl rfl rfl (by first | exact KS.a | exact KS.b | exact KS.c | exact KS.n) rfl ?_; simp only [Act.put, List.setIfInBounds_toArray, List.set_cons_zero, List.set_cons_succ]))
      refine Sch.tree_n ?_
      clear HRx HRy HRz
      go_wp2_with fail
      refine (HOf.out 64 4294967295 _).mono ?_
      rintro e w29 ⟨rfl, hb⟩
      replace HK := Lib.hid (HK.out.keep hb)
      replace HB := bel_tr HB hb
      clear hb
      go_wp2_with fail
      refine (HVa.out (64, 4294967295) true rfl _).mono ?_
      rintro e w30 ⟨rfl, hb⟩
      replace HK := Lib.hid (HK.out.keep hb)
      replace HB := bel_tr HB hb
      clear hb
      go_wp2_with fail
      refine (HOf.out 65 1 _).mono ?_
      rintro e w31 ⟨rfl, hb⟩
      replace HK := Lib.hid (HK.out.keep hb)
      replace HB := bel_tr HB hb
      clear hb
      go_wp2_with fail
      refine (HVa.out (65, 1) false rfl _).mono ?_
      rintro e w32 ⟨rfl, hb⟩
      replace HK := Lib.hid (HK.out.keep hb)
      replace HB := bel_tr HB hb
      clear hb
      go_wp2_with fail
      refine (HOf.out 1 0 _).mono ?_
      rintro e w33 ⟨rfl, hb⟩
      replace HK := Lib.hid (HK.out.keep hb)
      replace HB := bel_tr HB hb
      clear hb
      go_wp2_with fail
      refine (HVa.out (1, 0) false rfl _).mono ?_
      rintro e w34 ⟨rfl, hb⟩
      replace HK := Lib.hid (HK.out.keep hb)
      replace HB := bel_tr HB hb
      clear hb
      have k0 := HK.out.2.2.2.1
      have k1 := HK.out.2.2.2.2
      go_wp2_with fail
      refine (HVa.out (0, 0) false rfl _).mono ?_
      rintro e w35 ⟨rfl, hb⟩
      replace HK := Lib.hid (HK.out.keep hb)
      replace HB := bel_tr HB hb
      clear hb
      clear k0 k1
      have k0 := HK.out.2.2.2.1
      have k1 := HK.out.2.2.2.2
      go_wp2_with fail
      refine (HRo.out _).mono ?_
      rintro e w36 ⟨rfl, hb⟩
      replace HK := Lib.hid (HK.out.keep hb)
      replace HB := bel_tr HB hb
      clear hb
      clear k0 k1
      have k0 := HK.out.1.1
      have k1 := HK.out.1.2
      go_wp2_with fail
      refine (HPa.out [51, 46, 55] (3, 7) 0 w36 (HLd.out.below HB.out) (by decide) (by decide +kernel)).mono ?_
      rintro e w37 ⟨rfl, hb⟩
      replace HK := Lib.hid (HK.out.keep hb)
      replace HB := bel_tr HB hb
      clear hb
      clear k0 k1
      have k0 := HK.out.2.2.2.1
      have k1 := HK.out.2.2.2.2
      go_wp2_with fail
      refine (HPa.out [114, 111, 111, 116] (0, 0) 0 w37 (HLd.out.below HB.out) (by decide) (by decide +kernel)).mono ?_
      rintro e w38 ⟨rfl, hb⟩
      replace HK := Lib.hid (HK.out.keep hb)
      replace HB := bel_tr HB hb
      clear hb
      clear k0 k1
      have k0 := HK.out.2.2.2.1
      have k1 := HK.out.2.2.2.2
      go_wp2_with fail
      refine (HPa.out [48, 46, 48] (0, 0) 6 w38 (HLd.out.below HB.out) (by decide) (by decide +kernel)).mono ?_
      rintro e w39 ⟨rfl, hb⟩
      replace HK := Lib.hid (HK.out.keep hb)
      replace HB := bel_tr HB hb
      clear hb
      clear k0 k1
      go_wp2_with fail
      refine (HOf.out 65 1 _).mono ?_
      rintro e w40 ⟨rfl, hb⟩
      replace HK := Lib.hid (HK.out.keep hb)
      replace HB := bel_tr HB hb
      clear hb
      go_wp2_with fail
      refine (HTx.out (65, 1) [] 2 w40 (HLd.out.below HB.out) (by decide +kernel)).mono ?_
      rintro e w41 ⟨rfl, hb⟩
      replace HK := Lib.hid (HK.out.keep hb)
      replace HB := bel_tr HB hb
      clear hb
      have k0 := HK.out.2.2.2.1
      have k1 := HK.out.2.2.2.2
      go_wp2_with fail
      refine (HPa.out [48, 51, 46, 55] (0, 0) 6 w41 (HLd.out.below HB.out) (by decide) (by decide +kernel)).mono ?_
      rintro e w42 ⟨rfl, hb⟩
      replace HK := Lib.hid (HK.out.keep hb)
      replace HB := bel_tr HB hb
      clear hb
      clear k0 k1
      have k0 := HK.out.2.2.2.1
      have k1 := HK.out.2.2.2.2
      go_wp2_with fail
      refine (HPa.out [51, 46, 52, 50, 57, 52, 57, 54, 55, 50, 57, 54] (0, 0) 6 w42 (HLd.out.below HB.out) (by decide) (by decide +kernel)).mono ?_
      rintro e w43 ⟨rfl, hb⟩
      replace HK := Lib.hid (HK.out.keep hb)
      replace HB := bel_tr HB hb
      clear hb
      clear k0 k1
      have k0 := HK.out.2.2.2.1
      have k1 := HK.out.2.2.2.2
      go_wp2_with fail
      refine (HPa.out [51] (0, 0) 6 w43 (HLd.out.below HB.out) (by decide) (by decide +kernel)).mono ?_
      rintro e w44 ⟨rfl, hb⟩
      replace HK := Lib.hid (HK.out.keep hb)
      replace HB := bel_tr HB hb
      clear hb
      clear k0 k1
      go_wp2_with fail
      go_ret
      exact ⟨rfl, HB.out⟩
    · refine Sch.tree_e rfl rfl (fun K hK => ?_)
      go_wp2_with fail
      have HR1 := Lib.hid (RowD.lit w24 [(5, 7)] #[.int .i64 5, .int .i64 7] 23 (0, 0) rfl)
      have hb := bel_box w24 (.cells #[.int .i64 5, .int .i64 7] 23)
      replace HK := Lib.hid (HK.out.keep hb)
      replace HRx := Lib.hid (HRx.out.keep hb)
      replace HRy := Lib.hid (HRy.out.keep hb)
      replace HRz := Lib.hid (HRz.out.keep hb)
      replace HB := bel_tr HB hb
      clear hb
      refine hK _ _ HK.out ?_
      clear hK K
      generalize w24.alloc (.cells #[.int .i64 5, .int .i64 7] 23) = w25 at *
      repeat (first
        | (refine Sch.tree_q rfl rfl (fun K hK => ?_); go_big_quiet_op; (first | refine hK _ ?_ | refine ⟨_, fun _ _ => rfl, hK _ ?_⟩); clear hK K)
        | (refine tree_load _ _ _ _ _ rfl rfl rfl rfl (by first | exact KS.a | exact KS.b | exact KS.c | exact KS.n) rfl ?_; simp only [Act.put, List.setIfInBounds_toArray, List.set_cons_zero, List.set_cons_succ]))
      refine Sch.tree_e rfl rfl (fun K hK => ?_)
      go_wp2_with fail
      refine (HMi.out [(5, 7), (3, 7)] [(5, 6), (3, 7)] [(5, 7)] (some ⟨y, 0, none⟩) (some ⟨z, 0, none⟩) 2 2 2 2 1 (by decide) w25 HRy.out HRz.out rfl rfl rfl (by decide) (by decide)).mono ?_
      rintro e w26 ⟨v3, rfl, ⟨a3, c3, rfl, hr1⟩, hb⟩
      replace HK := Lib.hid (HK.out.keep hb)
      replace HRx := Lib.hid (HRx.out.keep hb)
      replace HRy := Lib.hid (HRy.out.keep hb)
      replace HRz := Lib.hid (HRz.out.keep hb)
      replace HR1 := Lib.hid (HR1.out.keep hb)
      have HS1 := Lib.hid hr1
      clear hr1
      replace HB := bel_tr HB hb
      clear hb
      refine hK _ _ HK.out ?_
      clear hK K
      repeat (first
        | (refine Sch.tree_q rfl rfl (fun K hK => ?_); go_big_quiet_op; (first | refine hK _ ?_ | refine ⟨_, fun _ _ => rfl, hK _ ?_⟩); clear hK K)
        | (refine tree_load _ _ _ _ _ rfl rfl rfl rfl (by first | exact KS.a | exact KS.b | exact KS.c | exact KS.n) rfl ?_; simp only [Act.put, List.setIfInBounds_toArray, List.set_cons_zero, List.set_cons_succ]))
      refine Sch.tree_e rfl rfl (fun K hK => ?_)
      go_wp2_with fail
      refine (HSa.out [(5, 7)] [(5, 7)] a3 (some ⟨w24.heap.size, 0, none⟩) 1 1 c3 1 true (by decide) w26 HS1.out HR1.out rfl rfl (by decide) (by decide)).mono ?_
      rintro e w27 ⟨rfl, hb⟩
      replace HK := Lib.hid (HK.out.keep hb)
      replace HRx := Lib.hid (HRx.out.keep hb)
      replace HRy := Lib.hid (HRy.out.keep hb)
      replace HRz := Lib.hid (HRz.out.keep hb)
      replace HR1 := Lib.hid (HR1.out.keep hb)
      replace HS1 := Lib.hid (HS1.out.keep hb)
      replace HB := bel_tr HB hb
      clear hb
      refine hK _ _ HK.out ?_
      clear hK K
      clear HS1 HR1
      repeat (first
        | (refine Sch.tree_q rfl rfl (fun K hK => ?_); go_big_quiet_op; (first | refine hK _ ?_ | refine ⟨_, fun _ _ => rfl, hK _ ?_⟩); clear hK K)
        | (refine tree_load _ _ _ _ _ rfl rfl rfl rfl (by first | exact KS.a | exact KS.b | exact KS.c | exact KS.n) rfl ?_; simp only [Act.put, List.setIfInBounds_toArray, List.set_cons_zero, List.set_cons_succ]))
      refine Sch.tree_e rfl rfl (fun K hK => ?_)
      go_wp2_with fail
      refine (HHa.out [(5, 7), (3, 7)] (3, 7) (some ⟨y, 0, none⟩) 2 2 true (by decide) w27 HRy.out rfl (by decide)).mono ?_
      rintro e w28 ⟨rfl, hb⟩
      replace HK := Lib.hid (HK.out.keep hb)
      replace HRx := Lib.hid (HRx.out.keep hb)
      replace HRy := Lib.hid (HRy.out.keep hb)
      replace HRz := Lib.hid (HRz.out.keep hb)
      replace HB := bel_tr HB hb
      clear hb
      refine hK _ _ HK.out ?_
      clear hK K
      repeat (first
        | (refine Sch.tree_q rfl rfl (fun K hK => ?_); go_big_quiet_op; (first | refine hK _ ?_ | refine ⟨_, fun _ _ => rfl, hK _ ?_⟩); clear hK K)
        | (refine tree_load _ _ _ _ _ rfl rfl rfl rfl (by first | exact KS.a | exact KS.b | exact KS.c | exact KS.n) rfl ?_; simp only [Act.put, List.setIfInBounds_toArray, List.set_cons_zero, List.set_cons_succ]))
      refine Sch.tree_n ?_
      clear HRx HRy HRz
      go_wp2_with fail
      refine (HOf.out 64 4294967295 _).mono ?_
      rintro e w29 ⟨rfl, hb⟩
      replace HK := Lib.hid (HK.out.keep hb)
      replace HB := bel_tr HB hb
      clear hb
      go_wp2_with fail
      refine (HVa.out (64, 4294967295) true rfl _).mono ?_
      rintro e w30 ⟨rfl, hb⟩
      replace HK := Lib.hid (HK.out.keep hb)
      replace HB := bel_tr HB hb
      clear hb
      go_wp2_with fail
      refine (HOf.out 65 1 _).mono ?_
      rintro e w31 ⟨rfl, hb⟩
      replace HK := Lib.hid (HK.out.keep hb)
      replace HB := bel_tr HB hb
      clear hb
      go_wp2_with fail
      refine (HVa.out (65, 1) false rfl _).mono ?_
      rintro e w32 ⟨rfl, hb⟩
      replace HK := Lib.hid (HK.out.keep hb)
      replace HB := bel_tr HB hb
      clear hb
      go_wp2_with fail
      refine (HOf.out 1 0 _).mono ?_
      rintro e w33 ⟨rfl, hb⟩
      replace HK := Lib.hid (HK.out.keep hb)
      replace HB := bel_tr HB hb
      clear hb
      go_wp2_with fail
      refine (HVa.out (1, 0) false rfl _).mono ?_
      rintro e w34 ⟨rfl, hb⟩
      replace HK := Lib.hid (HK.out.keep hb)
      replace HB := bel_tr HB hb
      clear hb
      have k0 := HK.out.2.2.2.1
      have k1 := HK.out.2.2.2.2
      go_wp2_with fail
      refine (HVa.out (0, 0) false rfl _).mono ?_
      rintro e w35 ⟨rfl, hb⟩
      replace HK := Lib.hid (HK.out.keep hb)
      replace HB := bel_tr HB hb
      clear hb
      clear k0 k1
      have k0 := HK.out.2.2.2.1
      have k1 := HK.out.2.2.2.2
      go_wp2_with fail
      refine (HRo.out _).mono ?_
      rintro e w36 ⟨rfl, hb⟩
      replace HK := Lib.hid (HK.out.keep hb)
      replace HB := bel_tr HB hb
      clear hb
      clear k0 k1
      have k0 := HK.out.1.1
      have k1 := HK.out.1.2
      go_wp2_with fail
      refine (HPa.out [51, 46, 55] (3, 7) 0 w36 (HLd.out.below HB.out) (by decide) (by decide +kernel)).mono ?_
      rintro e w37 ⟨rfl, hb⟩
      replace HK := Lib.hid (HK.out.keep hb)
      replace HB := bel_tr HB hb
      clear hb
      clear k0 k1
      have k0 := HK.out.2.2.2.1
      have k1 := HK.out.2.2.2.2
      go_wp2_with fail
      refine (HPa.out [114, 111, 111, 116] (0, 0) 0 w37 (HLd.out.below HB.out) (by decide) (by decide +kernel)).mono ?_
      rintro e w38 ⟨rfl, hb⟩
      replace HK := Lib.hid (HK.out.keep hb)
      replace HB := bel_tr HB hb
      clear hb
      clear k0 k1
      have k0 := HK.out.2.2.2.1
      have k1 := HK.out.2.2.2.2
      go_wp2_with fail
      refine (HPa.out [48, 46, 48] (0, 0) 6 w38 (HLd.out.below HB.out) (by decide) (by decide +kernel)).mono ?_
      rintro e w39 ⟨rfl, hb⟩
      replace HK := Lib.hid (HK.out.keep hb)
      replace HB := bel_tr HB hb
      clear hb
      clear k0 k1
      go_wp2_with fail
      refine (HOf.out 65 1 _).mono ?_
      rintro e w40 ⟨rfl, hb⟩
      replace HK := Lib.hid (HK.out.keep hb)
      replace HB := bel_tr HB hb
      clear hb
      go_wp2_with fail
      refine (HTx.out (65, 1) [] 2 w40 (HLd.out.below HB.out) (by decide +kernel)).mono ?_
      rintro e w41 ⟨rfl, hb⟩
      replace HK := Lib.hid (HK.out.keep hb)
      replace HB := bel_tr HB hb
      clear hb
      have k0 := HK.out.2.2.2.1
      have k1 := HK.out.2.2.2.2
      go_wp2_with fail
      refine (HPa.out [48, 51, 46, 55] (0, 0) 6 w41 (HLd.out.below HB.out) (by decide) (by decide +kernel)).mono ?_
      rintro e w42 ⟨rfl, hb⟩
      replace HK := Lib.hid (HK.out.keep hb)
      replace HB := bel_tr HB hb
      clear hb
      clear k0 k1
      have k0 := HK.out.2.2.2.1
      have k1 := HK.out.2.2.2.2
      go_wp2_with fail
      refine (HPa.out [51, 46, 52, 50, 57, 52, 57, 54, 55, 50, 57, 54] (0, 0) 6 w42 (HLd.out.below HB.out) (by decide) (by decide +kernel)).mono ?_
      rintro e w43 ⟨rfl, hb⟩
      replace HK := Lib.hid (HK.out.keep hb)
      replace HB := bel_tr HB hb
      clear hb
      clear k0 k1
      have k0 := HK.out.2.2.2.1
      have k1 := HK.out.2.2.2.2
      go_wp2_with fail
      refine (HPa.out [51] (0, 0) 6 w43 (HLd.out.below HB.out) (by decide) (by decide +kernel)).mono ?_
      rintro e w44 ⟨rfl, hb⟩
      replace HK := Lib.hid (HK.out.keep hb)
      replace HB := bel_tr HB hb
      clear hb
      clear k0 k1
      go_wp2_with fail
      go_ret
      exact ⟨rfl, HB.out⟩
end Go.Proofs.YtjdhdnlcaonnkaaDoor.D
