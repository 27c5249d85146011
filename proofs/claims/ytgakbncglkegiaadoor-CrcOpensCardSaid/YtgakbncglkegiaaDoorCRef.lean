/-
  The reference's Append and Open.
-/
import Derived.Test.YtgakbncglkegiaaDoorCOpen
import Derived.Test.YtgakbncglkegiaaDoorCUpdR
import Derived.Test.YtgakbncglkegiaaDoorSched
import Derived.Deep.RegionWith
import Derived.RegionTactic
namespace Go.Proofs.YtgakbncglkegiaaDoor.C
set_option linter.unusedVariables false
open Go.RowKit V

/-- Four bytes that are written out, in a new row. -/
theorem lit4 (w : World) (a b c d : UInt8) (t : TypeId) : Row8 (w.alloc (.cells #[.int .u8 (a.toNat : Int), .int .u8 (b.toNat : Int), .int .u8 (c.toNat : Int), .int .u8 (d.toNat : Int)] t)) (some ⟨w.heap.size, 0, none⟩) [a, b, c, d] := by
  refine .inr ⟨_, _, rfl, fun i hi => ?_⟩
  have : i = 0 ∨ i = 1 ∨ i = 2 ∨ i = 3 := by simp at hi; omega
  rcases this with rfl | rfl | rfl | rfl <;> (rw [World.cell?_alloc_new]; rfl)

set_option maxRecDepth 100000 in
set_option maxHeartbeats 1000000 in
theorem append_ref (l : List UInt8) (a : Option Addr) (c : Nat) (w : World) (hrow : Row8 w a l) (hnil : a = none → c = 0) (hlen : l.length ≤ 35184372088832) :
    Calls Tryd.prog 14 #[.slice a l.length c] w fun e w' => ∃ v, e = .returned v ∧ O8 w' w.heap.size v (app l) ∧ Below w.heap.size w w' := by
  have HC := Lib.hid (sum_ref l a c w hrow (by omega))
  have HR := Lib.hid hrow
  have HN := Lib.hid hnil
  have HL := Lib.hid hlen
  have HA : Hid (l ++ be (sum l) = app l) := rfl
  have HZ := Lib.hid (sum_lt l)
  clear hrow hnil hlen
  generalize sum l = z at *
  generalize app l = A at *
  have HBe : Hid (be z = [u (z / 16777216), u (z / 65536 % 256), u (z / 256 % 256), u (z % 256)]) := rfl
  generalize be z = m at *
  have e1 := u_toNat (show z / 16777216 < 256 by have := HZ.out; omega)
  have e2 := u_toNat (show z / 65536 % 256 < 256 by omega)
  have e3 := u_toNat (show z / 256 % 256 < 256 by omega)
  have e4 := u_toNat (show z % 256 < 256 by omega)
  have p1 : (z : Int) / 16777216 % 256 = ((u (z / 16777216)).toNat : Int) := by have := HZ.out; omega
  have p2 : (z : Int) / 65536 % 256 = ((u (z / 65536 % 256)).toNat : Int) := by omega
  have p3 : (z : Int) / 256 % 256 = ((u (z / 256 % 256)).toNat : Int) := by omega
  have p4 : (z : Int) % 256 = ((u (z % 256)).toNat : Int) := by omega
  clear e1 e2 e3 e4
  generalize u (z / 16777216) = b1 at *
  generalize u (z / 65536 % 256) = b2 at *
  generalize u (z / 256 % 256) = b3 at *
  generalize u (z % 256) = b4 at *
  go_enter Tryd.func14, Tryd.ntmps14
  go_wp2_with fail
  refine HC.out.mono ?_
  rintro e w1 ⟨rfl, rfl⟩
  go_wp2_with (at_builtin; refine wpList_app8 rfl _ _ rfl w.heap.size _ _ rfl (O8.nil w w.heap.size) a l c rfl HR.out HN.out (by have := HL.out; simp; omega) (Nat.le_refl _) ?_)
  intro v w1 ho hg _
  have HO : Hid (O8 w1 w.heap.size v l) := ho
  have HB : Hid (Below w.heap.size w w1) := (Below.refl _ _).grown hg (Nat.le_refl _) (fun k hk => by cases hk)
  clear ho hg HC
  have HO1 : Hid (O8 (w1.alloc (.cells #[.int .u8 (b1.toNat : Int), .int .u8 (b2.toNat : Int), .int .u8 (b3.toNat : Int), .int .u8 (b4.toNat : Int)] 5)) w.heap.size v l) := HO.out.below ((Below.refl _ _).alloc (Nat.le_refl _) _)
  have HB1 : Hid (Below w.heap.size w (w1.alloc (.cells #[.int .u8 (b1.toNat : Int), .int .u8 (b2.toNat : Int), .int .u8 (b3.toNat : Int), .int .u8 (b4.toNat : Int)] 5))) := HB.out.alloc HB.out.size _
  go_wp2_with (at_builtin; refine wpList_app8 rfl _ _ rfl w.heap.size _ _ rfl HO1.out (some ⟨w1.heap.size, 0, none⟩) [b1, b2, b3, b4] 4 rfl (lit4 w1 b1 b2 b3 b4 _) (fun h => by cases h) (by have := HL.out; simp; omega) HB1.out.size ?_)
  intro v2 w2 ho hg _
  have HO2 : Hid (O8 w2 w.heap.size v2 A) := by
    show O8 _ _ _ _
    rw [← HA.out, HBe.out]
    exact ho
  have HB2 := Lib.hid (HB1.out.grown hg HB1.out.size (fun k hk => (HO1.out.lt k hk).1))
  clear ho hg
  go_wp2_with fail
  go_ret
  exact ⟨_, rfl, HO2.out, HB2.out⟩

set_option maxRecDepth 100000 in
set_option maxHeartbeats 1000000 in
theorem open_ref_long (l : List UInt8) (n : Nat) (a : Option Addr) (c : Nat) (w : World) (hn : l.length = n + 4) (hrow : Row8 w a l) (hnil : a = none → c = 0) (hlc : l.length ≤ c) (hlen : l.length ≤ 35184372088832) :
    Calls Tryd.prog 16 #[.slice a (n + 4) c] w fun e w' => Below w.heap.size w w' ∧
      ((e = .returned (.tuple #[.slice a n c, .int .i64 0]) ∧ opn l = (l.take n, 0)) ∨ (e = .returned (.tuple #[.slice none 0 0, .int .i64 10]) ∧ opn l = ([], 10))) := by
  have s1 := cut_lo a (n + 4) c n (by omega)
  have hT : (l.take n).length = n := by rw [List.length_take]; omega
  have hA := append_ref (l.take n) a c w.drew (take_row hrow n).drew hnil (by omega)
  rw [hT] at hA
  have HA := Lib.hid hA
  have hcv := G.conv_row (P := Tryd.prog) hrow.drew (n + 4) hn.symm c 23 9 5 Tryd.underlying23 Tryd.underlying5 Tryd.underlying9
  have HR := Lib.hid (hrow.drew)
  have hsame : (app (l.take n) = l) ↔ be (sum (l.take n)) = l.drop n := by
    unfold app
    constructor
    · intro h
      have := congrArg (List.drop n) h
      rwa [List.drop_left' hT] at this
    · intro h
      rw [h, List.take_append_drop]
  have HS := Lib.hid hsame
  have HN := Lib.hid hn
  have hn2 : (n : Int) ≤ 35184372088832 := by omega
  have hlt : ¬ (n : Int) + 4 < 4 := by omega
  clear hnil hlc hlen hT hA hsame hn hrow
  go_enter Tryd.func16, Tryd.ntmps16
  go_wp2_with fail
  refine Sch.wp_region_tree (fun w' => Sem.run Tryd.prog (convert 23 9 (.slice a (n + 4) c)) w' = .ok (.string ⟨l.toArray⟩) w') (.take 0 (.take 3 (.take 4 (.one 1 (.one 2 (.take 5 .done)))))) (by kernel_rfl) (by kernel_rfl) hcv ?_
  repeat (first | (refine Sch.tree_q rfl rfl (fun K hK => ?_); go_big_quiet_op; (first | refine hK _ ?_ | refine ⟨_, fun _ _ => rfl, hK _ ?_⟩); clear hK K) | (refine Sch.tree_s _ rfl rfl rfl ?_; simp only [Act.put, List.setIfInBounds_toArray, List.set_cons_zero, List.set_cons_succ]))
  refine Sch.tree_conv _ _ _ _ _ rfl rfl rfl (fun w h => h) rfl ?_
  simp only [Act.put, List.setIfInBounds_toArray, List.set_cons_zero, List.set_cons_succ]
  refine Sch.tree_e rfl rfl (fun K hK => ?_)
  go_wp2_with fail
  refine HA.out.mono ?_
  rintro e w1 ⟨v, rfl, ho, hb⟩
  obtain ⟨b, d, rfl, hrow1, -, -⟩ := ho.row
  have hcv1 := G.conv_row (P := Tryd.prog) hrow1 _ rfl d 23 9 5 Tryd.underlying23 Tryd.underlying5 Tryd.underlying9
  have hcv2 := G.conv_row (P := Tryd.prog) (HR.out.keep hb) (n + 4) HN.out.symm c 23 9 5 Tryd.underlying23 Tryd.underlying5 Tryd.underlying9
  have HB : Hid (Below w.heap.size w w1) := ((Below.refl _ _).drew).trans hb
  clear ho hb hrow1 HA
  go_wp2_with fail
  refine hK _ _ hcv2 ?_
  clear hK K
  refine Sch.tree_e rfl rfl (fun K hK => ?_)
  go_wp2_with fail
  refine hK _ _ hcv2 ?_
  clear hK K hcv hcv1 hcv2
  by_cases he : app (l.take n) = l
  · have hb : ((⟨(app (l.take n)).toArray⟩ : ByteArray).toList == (⟨l.toArray⟩ : ByteArray).toList) = true := by rw [he]; simp
    have HO := Lib.hid (opn_ok HN.out (HS.out.1 he))
    generalize (⟨(app (l.take n)).toArray⟩ : ByteArray) = S1 at *
    generalize (⟨l.toArray⟩ : ByteArray) = S2 at *
    clear he
    repeat (first | (refine Sch.tree_q rfl rfl (fun K hK => ?_); go_big_quiet_op; (first | refine hK _ ?_ | refine ⟨_, fun _ _ => rfl, hK _ ?_⟩); clear hK K) | (refine Sch.tree_s _ rfl rfl rfl ?_; simp only [Act.put, List.setIfInBounds_toArray, List.set_cons_zero, List.set_cons_succ]))
    refine Sch.tree_n ?_
    go_wp2_with fail
    go_ret2
    exact ⟨HB.out, .inl ⟨rfl, HO.out⟩⟩
  · have hb : ((⟨(app (l.take n)).toArray⟩ : ByteArray).toList == (⟨l.toArray⟩ : ByteArray).toList) = false := by
      rw [beq_eq_false_iff_ne]
      intro h
      exact he (by simpa using h)
    have HO := Lib.hid (opn_bad HN.out (fun h => he (HS.out.2 h)))
    generalize (⟨(app (l.take n)).toArray⟩ : ByteArray) = S1 at *
    generalize (⟨l.toArray⟩ : ByteArray) = S2 at *
    clear he
    repeat (first | (refine Sch.tree_q rfl rfl (fun K hK => ?_); go_big_quiet_op; (first | refine hK _ ?_ | refine ⟨_, fun _ _ => rfl, hK _ ?_⟩); clear hK K) | (refine Sch.tree_s _ rfl rfl rfl ?_; simp only [Act.put, List.setIfInBounds_toArray, List.set_cons_zero, List.set_cons_succ]))
    refine Sch.tree_n ?_
    go_wp2_with fail
    go_ret2
    exact ⟨HB.out, .inr ⟨rfl, HO.out⟩⟩

set_option maxRecDepth 100000 in
set_option maxHeartbeats 1000000 in
theorem open_ref (l : List UInt8) (a : Option Addr) (c : Nat) (w : World) (hrow : Row8 w a l) (hnil : a = none → c = 0) (hlc : l.length ≤ c) (hlen : l.length ≤ 35184372088832) :
    Calls Tryd.prog 16 #[.slice a l.length c] w fun e w' => Below w.heap.size w w' ∧ ∃ b d, e = .returned (.tuple #[.slice b (opn l).1.length d, .int .i64 ((opn l).2 : Int)]) ∧ Row8 w b (opn l).1 := by
  by_cases h : l.length < 4
  · rw [opn_no h]
    have hd : (l.length : Int) < 4 := by omega
    clear hrow hnil hlc hlen h
    go_enter Tryd.func16, Tryd.ntmps16
    go_wp2_with fail
    go_ret2
    exact ⟨Below.refl _ _, none, 0, rfl, .inl rfl⟩
  · obtain ⟨n, hn⟩ : ∃ n, l.length = n + 4 := ⟨l.length - 4, by omega⟩
    have h1 := open_ref_long l n a c w hn hrow hnil hlc hlen
    rw [← hn] at h1
    refine h1.mono fun e w' ⟨hb, h2⟩ => ⟨hb, ?_⟩
    rcases h2 with ⟨rfl, ho⟩ | ⟨rfl, ho⟩
    · rw [ho]
      refine ⟨a, c, ?_, take_row hrow n⟩
      rw [show (l.take n, 0).1.length = n by simp; omega]
      rfl
    · rw [ho]
      exact ⟨none, 0, rfl, .inl rfl⟩
end Go.Proofs.YtgakbncglkegiaaDoor.C
