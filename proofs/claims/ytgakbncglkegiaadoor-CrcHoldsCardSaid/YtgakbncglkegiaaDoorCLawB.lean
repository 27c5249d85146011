/-
  The law on many equal bytes.
-/
import Derived.Test.YtgakbncglkegiaaDoorCLawA
import Derived.Deep.CutRange
namespace Go.Proofs.YtgakbncglkegiaaDoor.C
set_option linter.unusedVariables false
open Go.RowKit V

theorem cut_lo16 (a : Option Addr) (len cap n : Nat) (hn : n ≤ cap) (h16 : n ≤ 65535) : ∀ wx : World,
    (Instr.slice 23 (.slice a len cap) none (some (.int .u16 (n : Int))) none).run Tryd.prog wx = .ok (.slice a n cap) wx := by
  obtain ⟨i, hi, hz0, hz1, hz2⟩ := info_parts info8
  intro wx
  have h1 : (Instr.sliceBound (.int .u16 (n : Int)) cap .sliceAcap).run Tryd.prog wx = .ok n wx := by
    rw [run_sliceBound _ _ _ _ _ (by omega) (by omega)]; rfl
  by_cases hc : cap = 0
  · rw [hc] at h1
    simp [Instr.slice, run_underlying Tryd.underlying23, Instr.sliceBounds, h1, Result.andThen, sizeOf, typeInfo, hi, hz1, hc]
  · have : a.map (fun x => x.add 0) = a := by
      rcases a with _ | ⟨b, o, s⟩
      · rfl
      · simp [Addr.add]
    simp [Instr.slice, run_underlying Tryd.underlying23, Instr.sliceBounds, h1, Result.andThen, sizeOf, typeInfo, hi, hz1, hc, this]
theorem cut_hi16 (a : Option Addr) (len cap m k : Nat) (hk : len = m + k) (hlc : len ≤ cap) (h16 : m ≤ 65535) : ∀ wx : World,
    (Instr.slice 23 (.slice a len cap) (some (.int .u16 (m : Int))) none none).run Tryd.prog wx = .ok (.slice (off a cap m) k (cap - m)) wx := by
  obtain ⟨i, hi, hz0, hz1, hz2⟩ := info_parts info8
  intro wx
  have h2 : (Instr.sliceBound (.int .u16 (m : Int)) len .sliceB).run Tryd.prog wx = .ok m wx := by
    rw [run_sliceBound _ _ _ _ _ (by omega) (by omega)]; rfl
  have e : len - m = k := by omega
  simp [Instr.slice, run_underlying Tryd.underlying23, Instr.sliceBounds, h2, Result.andThen, sizeOf, typeInfo, hi, hz1, e, off]

/-- k bytes are written, the others are 0. -/
def fill (n k : Nat) (x : UInt8) : List UInt8 := List.replicate k x ++ List.replicate (n - k) 0
theorem fill_len {n k : Nat} (x : UInt8) (h : k ≤ n) : (fill n k x).length = n := by unfold fill; rw [List.length_append, List.length_replicate, List.length_replicate]; omega
theorem fill_set {n k : Nat} (x : UInt8) (h : k < n) : (fill n k x).set k x = fill n (k + 1) x := by
  unfold fill
  rw [List.set_append, if_neg (by simp), List.length_replicate, Nat.sub_self, show n - k = (n - (k + 1)) + 1 by omega, List.replicate_succ, List.set_cons_zero, List.replicate_succ', List.append_assoc]
  rfl
theorem fill_all (n : Nat) (x : UInt8) : fill n n x = List.replicate n x := by unfold fill; simp

set_option maxRecDepth 100000 in
set_option maxHeartbeats 2000000 in
theorem longs_any (n p : Nat) (x : UInt8) (hn16 : n ≤ 65535) (hp16 : p ≤ 65535) (w : World) (hL : Ld w) :
    Calls Tryd.prog 5 #[.int .u16 (n : Int), .int .u8 (x.toNat : Int), .int .u16 (p : Int)] w fun e w' => e = .returned (.bool true) ∧ Below w.heap.size w w' := by
  have HL := Lib.hid hL
  have HK := Lib.hid (fun (wx : World) h => known_any wx h)
  have HP16 := Lib.hid hp16
  clear hL hp16
  by_cases hn : (5000 : Int) < (n : Int)
  · clear hn16
    go_enter Tryd.func5, Tryd.ntmps5
    go_wp2_with fail
    refine (HK.out _ HL.out).mono ?_
    rintro e w1 ⟨rfl, hb⟩
    have HB := Lib.hid hb
    clear hb
    go_wp2_with fail
    go_ret
    exact ⟨rfl, HB.out⟩
  by_cases hp : (n : Int) < (p : Int)
  · clear hn16
    go_enter Tryd.func5, Tryd.ntmps5
    go_wp2_with fail
    refine (HK.out _ HL.out).mono ?_
    rintro e w1 ⟨rfl, hb⟩
    have HB := Lib.hid hb
    clear hb
    go_wp2_with fail
    go_ret
    exact ⟨rfl, HB.out⟩
  have hmk := mk8 n (by omega) .u16 .u16 w
  have hn5 : n ≤ 5000 := by omega
  have hnp : p ≤ n := by omega
  clear hn16
  go_enter Tryd.func5, Tryd.ntmps5
  go_wp2_with fail
  have HO : Hid (O8 (w.alloc (.cells (madeCells #[.int .u8 0] n) 5)) w.heap.size (.slice (some ⟨w.heap.size, 0, none⟩) n n) (fill n 0 x)) := made8 w w.heap.size n (by omega) (Nat.le_refl _)
  have HB : Hid (Below w.heap.size w (w.alloc (.cells (madeCells #[.int .u8 0] n) 5))) := (Below.refl _ _).alloc (Nat.le_refl _) _
  clear hmk
  generalize w.alloc (.cells (madeCells #[.int .u8 0] n) 5) = w1 at *
  go_loopw [8, 22] (fun _ i wr => ∃ k : Nat, k ≤ n ∧ i = .int .i64 k ∧ Hid (O8 wr w.heap.size (.slice (some ⟨w.heap.size, 0, none⟩) n n) (fill n k x)) ∧ Hid (Below w.heap.size w wr)) (fun _ i _ => n - (intOf i).toNat)
  case atStart => exact ⟨0, by omega, rfl, HO, HB⟩
  case round =>
    obtain ⟨k, hk, rfl, HO, HB⟩ := hrel
    by_cases hlt : k < n
    · have hcell := cell8 HO.out k (by rw [fill_len x (by omega)]; exact hlt)
      have hfree := free8 HO.out k
      have hX := stored8 HO.out k x
      rw [fill_set x hlt] at hX
      have HX := Lib.hid hX
      have HBel := Lib.hid (below_gb HB.out (gb_setCell wr w.heap.size k (.int .u8 (x.toNat : Int))) HB.out.size (Nat.le_refl _))
      clear hX
      generalize ((fill n k x)[k]'(_)).toNat = old at hcell
      go_wp2_with fail
      go_roundw
      case rel => exact ⟨k + 1, by omega, by go_num, HX, HBel⟩
      case measure => simp [intOf]; omega
    · obtain rfl : k = n := by omega
      rw [fill_all] at HO
      have hlen : (List.replicate k x).length = k := List.length_replicate
      obtain ⟨a, c, he, hrow, -, -⟩ := HO.out.row
      simp only [Value.slice.injEq] at he
      obtain ⟨rfl, -, rfl⟩ := he
      have HR := Lib.hid hrow
      have HL1 := Lib.hid (HL.out.below HB.out)
      generalize List.replicate k x = L at *
      obtain rfl : k = L.length := hlen.symm
      have HS := Lib.hid (sum_any L (some ⟨w.heap.size, 0, none⟩) L.length wr HL1.out HR.out (by omega))
      clear hrow
      go_wp2_with fail
      refine HS.out.mono ?_
      rintro e w' ⟨rfl, rfl⟩
      go_wp2_with fail
      have hR := HR.out.drew
      have hl1 := HL1.out.below ((Below.refl _ _).drew)
      have HSr := Lib.hid (sum_ref L (some ⟨w.heap.size, 0, none⟩) L.length wr.drew hR (by omega))
      have hT : (L.take p).length = p := by rw [List.length_take]; omega
      have hD : (L.drop p).length = L.length - p := by rw [List.length_drop]
      have hS1 := sum_any (L.take p) (some ⟨w.heap.size, 0, none⟩) L.length wr.drew hl1 (take_row hR p) (by omega)
      have hU := update_any (sum (L.take p)) (sum_lt _) (L.drop p) (off (some ⟨w.heap.size, 0, none⟩) L.length p) (L.length - p) wr.drew hl1 (off_row hR _ p (Nat.le_refl _) hnp) (by omega)
      rw [sum_parts, List.take_append_drop, hD] at hU
      rw [hT] at hS1
      have HS1 := Lib.hid hS1
      have HU := Lib.hid hU
      have s1 := cut_lo16 (some ⟨w.heap.size, 0, none⟩) L.length L.length p hnp HP16.out
      have s2 := cut_hi16 (some ⟨w.heap.size, 0, none⟩) L.length L.length p (L.length - p) (by omega) (Nat.le_refl _) HP16.out
      have HK1 := Lib.hid (known_any wr.drew hl1)
      have HB1 : Hid (Below w.heap.size w wr.drew) := HB.out.drew
      have h1 : ((sum L : Int) == (sum L : Int)) = true := by rw [beq_iff_eq]
      clear hR hl1 hT hD hS1 hU HS HO HL1 HR
      generalize sum (L.take p) = z1 at *
      generalize sum L = z at *
      generalize off (some ⟨w.heap.size, 0, none⟩) L.length p = b at *
      generalize L.length - p = k2 at *
      refine Sch.wp_region_tree (fun _ => True) (.take 0 (.take 1 (.one 2 (.take 3 (.take 4 (.take 5 (.take 6 (.take 7 (.take 9 (.take 10 (.take 11 (.take 13 (.one 8 (.one 12 (.take 14 (.take 15 (.take 16 (.one 17 (.take 18 (.take 19 .done)))))))))))))))))))) (by kernel_rfl) (by kernel_rfl) trivial ?_
      generalize wr.drew = W0 at *
      repeat (first | (refine Sch.tree_q rfl rfl (fun K hK => ?_); go_big_quiet_op; (first | refine hK _ ?_ | refine ⟨_, fun _ _ => rfl, hK _ ?_⟩); clear hK K) | (refine Sch.tree_s _ rfl rfl rfl ?_; simp only [Act.put, List.setIfInBounds_toArray, List.set_cons_zero, List.set_cons_succ]))
      refine Sch.tree_e rfl rfl (fun K hK => ?_)
      go_wp2_with fail
      refine HSr.out.mono ?_
      rintro e w' ⟨rfl, rfl⟩
      go_wp2_with fail
      refine hK _ _ trivial ?_
      clear hK K
      repeat (first | (refine Sch.tree_q rfl rfl (fun K hK => ?_); go_big_quiet_op; (first | refine hK _ ?_ | refine ⟨_, fun _ _ => rfl, hK _ ?_⟩); clear hK K) | (refine Sch.tree_s _ rfl rfl rfl ?_; simp only [Act.put, List.setIfInBounds_toArray, List.set_cons_zero, List.set_cons_succ]))
      refine Sch.tree_e rfl rfl (fun K hK => ?_)
      go_wp2_with fail
      refine HS1.out.mono ?_
      rintro e w' ⟨rfl, rfl⟩
      go_wp2_with fail
      refine hK _ _ trivial ?_
      clear hK K
      refine Sch.tree_e rfl rfl (fun K hK => ?_)
      go_wp2_with fail
      refine HU.out.mono ?_
      rintro e w' ⟨rfl, rfl⟩
      go_wp2_with fail
      refine hK _ _ trivial ?_
      clear hK K
      repeat (first | (refine Sch.tree_q rfl rfl (fun K hK => ?_); go_big_quiet_op; (first | refine hK _ ?_ | refine ⟨_, fun _ _ => rfl, hK _ ?_⟩); clear hK K) | (refine Sch.tree_s _ rfl rfl rfl ?_; simp only [Act.put, List.setIfInBounds_toArray, List.set_cons_zero, List.set_cons_succ]))
      refine Sch.tree_e rfl rfl (fun K hK => ?_)
      go_wp2_with fail
      refine HK1.out.mono ?_
      rintro e w2 ⟨rfl, hb⟩
      have HB2 := bel_tr HB1 hb
      clear hb
      go_wp2_with fail
      refine hK _ _ trivial ?_
      clear hK K
      repeat (first | (refine Sch.tree_q rfl rfl (fun K hK => ?_); go_big_quiet_op; (first | refine hK _ ?_ | refine ⟨_, fun _ _ => rfl, hK _ ?_⟩); clear hK K) | (refine Sch.tree_s _ rfl rfl rfl ?_; simp only [Act.put, List.setIfInBounds_toArray, List.set_cons_zero, List.set_cons_succ]))
      refine Sch.tree_n ?_
      go_wp2_with fail
      go_ret
      exact ⟨rfl, HB2.out⟩
end Go.Proofs.YtgakbncglkegiaaDoor.C
