/-
  The reference's Parse.
-/
import Derived.Test.YtmmcnpcijeahcabGreatDoorDParse
namespace Go.Proofs.YtmmcnpcijeahcabGreatDoor.D
set_option linter.unusedVariables false
open Go.RowKit V Go.Sort

theorem idx_str (l : List UInt8) (k : Nat) (hk : k < l.length) (kd : IntKind) (w : World) (hb : k ≤ 140737488355328) :
    (Instr.index 9 (.string ⟨l.toArray⟩) (.int kd (k : Int))).run Tryz.prog w = .ok (.int .u8 ((l.getD k 0).toNat : Int)) w := by
  have h1 : (⟨l.toArray⟩ : ByteArray).size = l.length := by simp [ByteArray.size]
  have hk' : k < (⟨l.toArray⟩ : ByteArray).size := by rw [h1]; exact hk
  have h2 : (⟨l.toArray⟩ : ByteArray)[k]? = some ((⟨l.toArray⟩ : ByteArray)[k]'hk') := by rw [getElem?_pos]
  have h3 : (⟨l.toArray⟩ : ByteArray)[k]'hk' = l.getD k 0 := by
    show l.toArray[k] = _
    simp [List.getD, hk]
  have h4 : IntKind.i64.wrap (k : Int) = (k : Int) := by rw [IntKind.wrap_i64]; omega
  simp [Instr.index, run_underlying Tryz.underlying9, asIntOf, Result.andThen, hk', h3]
/-- What Parse of the reference says. -/
def prsB (l : List UInt8) : Dt × Bool := match prsD l with | some d => (d, true) | none => ((0, 0), false)
/-- Two records of two numbers, one behind the other: the result's and the two numbers read. -/
def PW (w : World) (B : Nat) (wr : World) (a b : Int) : Prop :=
  Below B w wr ∧ (wr.cell? ⟨B, 0, none⟩ = some (.int .i64 0) ∧ wr.cell? ⟨B, 1, none⟩ = some (.int .i64 0) ∧ wr.frozen? ⟨B, 0, none⟩ = false ∧ wr.frozen? ⟨B, 1, none⟩ = false) ∧
  (wr.cell? ⟨B + 1, 0, none⟩ = some (.int .i64 a) ∧ wr.cell? ⟨B + 1, 1, none⟩ = some (.int .i64 b) ∧ wr.frozen? ⟨B + 1, 0, none⟩ = false ∧ wr.frozen? ⟨B + 1, 1, none⟩ = false)
theorem PW.put0 {w wr : World} {B : Nat} {a b : Int} (h : PW w B wr a b) (z : Int) : PW w B ((wr.setCell ⟨B + 1, 0, none⟩ (.int .i64 z)).drew) z b := by
  obtain ⟨h1, ⟨h2, h3, h4, h5⟩, h6, h7, h8, h9⟩ := h
  refine ⟨(h1.setCell (p := ⟨B + 1, 0, none⟩) (by show B ≤ B + 1; omega) _).drew, ⟨?_, ?_, ?_, ?_⟩, ?_, ?_, ?_, ?_⟩
  · exact (World.cell?_setCell_other _ _ _ _ (by simp)).trans h2
  · exact (World.cell?_setCell_other _ _ _ _ (by simp)).trans h3
  · exact (World.frozen?_setCell _ _ _ _).trans h4
  · exact (World.frozen?_setCell _ _ _ _).trans h5
  · exact World.cell?_setCell_same _ _ _ (u := .int .i64 a) h6
  · exact (World.cell?_setCell_other _ _ _ _ (by simp)).trans h7
  · exact (World.frozen?_setCell _ _ _ _).trans h8
  · exact (World.frozen?_setCell _ _ _ _).trans h9
theorem PW.put1 {w wr : World} {B : Nat} {a b : Int} (h : PW w B wr a b) (z : Int) : PW w B ((wr.setCell ⟨B + 1, 1, none⟩ (.int .i64 z)).drew) a z := by
  obtain ⟨h1, ⟨h2, h3, h4, h5⟩, h6, h7, h8, h9⟩ := h
  refine ⟨(h1.setCell (p := ⟨B + 1, 1, none⟩) (by show B ≤ B + 1; omega) _).drew, ⟨?_, ?_, ?_, ?_⟩, ?_, ?_, ?_, ?_⟩
  · exact (World.cell?_setCell_other _ _ _ _ (by simp)).trans h2
  · exact (World.cell?_setCell_other _ _ _ _ (by simp)).trans h3
  · exact (World.frozen?_setCell _ _ _ _).trans h4
  · exact (World.frozen?_setCell _ _ _ _).trans h5
  · exact (World.cell?_setCell_other _ _ _ _ (by simp)).trans h6
  · exact World.cell?_setCell_same _ _ _ (u := .int .i64 b) h7
  · exact (World.frozen?_setCell _ _ _ _).trans h8
  · exact (World.frozen?_setCell _ _ _ _).trans h9
theorem fP_dig1 {a b : Nat} {c : UInt8} {t : List UInt8} (h : 48 ≤ c.toNat ∧ c.toNat ≤ 57) : fP a b false (c :: t) = fP (min 1099511627776 (10 * a + c.toNat - 48)) b false t := by rw [fP, if_pos h, if_neg (by simp)]
theorem fP_dig2 {a b : Nat} {c : UInt8} {t : List UInt8} (h : 48 ≤ c.toNat ∧ c.toNat ≤ 57) : fP a b true (c :: t) = fP a (min 1099511627776 (10 * b + c.toNat - 48)) true t := by rw [fP, if_pos h, if_pos rfl]
theorem fP_stop {a b : Nat} {c : UInt8} {t : List UInt8} (h : c.toNat = 46) : fP a b false (c :: t) = fP a b true t := by rw [fP, if_neg (by omega), if_pos ⟨h, rfl⟩]
theorem fP_no {a b : Nat} {k : Bool} {c : UInt8} {t : List UInt8} (h : ¬ (48 ≤ c.toNat ∧ c.toNat ≤ 57)) (h2 : ¬ (c.toNat = 46 ∧ k = false)) : fP a b k (c :: t) = none := by rw [fP, if_neg h, if_neg h2]
def fin (l : List UInt8) : Option (Nat × Nat) → Option Dt
  | none => none
  | some (a, b) => if validR ((a : Int), (b : Int)) = true ∧ txtD ((a : Int), (b : Int)) = l then some ((a : Int), (b : Int)) else none
def Tru (w : World) : Prop := True

set_option maxRecDepth 100000 in
set_option maxHeartbeats 4000000 in
theorem parse_ref (l : List UInt8) (w : World) (hlen : l.length ≤ 1000000) :
    Calls Tryz.prog 40 #[.string ⟨l.toArray⟩] w fun e w' => e = .returned (.tuple #[dv (prsB l).1, .bool (prsB l).2]) ∧ Below w.heap.size w w' := by
  have hsz := ba_size l
  by_cases hroot : l = rootT
  · have HE : Hid (prsB l = ((0, 0), true)) := by show _ = _; unfold prsB prsD; rw [if_pos hroot]
    have hb : ((⟨l.toArray⟩ : ByteArray).toList == [114, 111, 111, 116]) = true := by rw [hroot]; simp [rootT]
    clear hroot hlen hsz
    generalize (⟨l.toArray⟩ : ByteArray) = S at *
    go_enter Tryz.func40, Tryz.ntmps40
    go_wp2_with fail
    (try simp only [Exit.inBlock, Exit.then])
    refine bodyPost_ret (v := .tuple #[dv (0, 0), .bool true]) (by rw [results_cell_tmp (fn := Tryz.f40) (p := 2) (u := 3) (ty := 23) rfl]; go_simp) rfl ?_
    rw [HE.out]
    exact ⟨rfl, bel_box w _⟩
  · have hb : ((⟨l.toArray⟩ : ByteArray).toList == [114, 111, 111, 116]) = false := by
      rw [beq_eq_false_iff_ne]
      intro h
      exact hroot (by have : l = [114, 111, 111, 116] := by simpa using h
                      exact this)
    have HP : Hid (prsD l = fin l (fP 0 0 false l)) := by show _ = _; unfold prsD; rw [if_neg hroot]; rcases fP 0 0 false l with _ | ⟨a, b⟩ <;> rfl
    have HG : Hid (∀ k : Nat, k < l.length → ∀ wx : World, (Instr.index 9 (.string ⟨l.toArray⟩) (.int .i64 (k : Int))).run Tryz.prog wx = .ok (.int .u8 ((l.getD k 0).toNat : Int)) wx) := fun k hk wx => idx_str l k hk .i64 wx (by omega)
    have HD : Hid (∀ k, k < l.length → l.drop k = l.getD k 0 :: l.drop (k + 1)) := by
      intro k hk
      rw [List.drop_eq_getElem_cons hk]
      simp [List.getD, hk]
    have HN : Hid (l.drop l.length = []) := by show _ = _; rw [List.drop_eq_nil_iff]; omega
    have HT := Lib.hid (fun (a b : Nat) (h : validR ((a : Int), (b : Int)) = true) wx => text_ref ((a : Int), (b : Int)) (.inl h) wx)
    have HV := Lib.hid (fun (d : Dt) (wx : World) => valid_ref d wx)
    have hli : (l.length : Int) ≤ 1000000 := by omega
    clear hroot hlen
    have hl0 : Hid (⟨l.toArray⟩ = (⟨l.toArray⟩ : ByteArray)) := rfl
    generalize hS : (⟨l.toArray⟩ : ByteArray) = S at hb hsz HG hl0 ⊢
    have HS := Lib.hid hS
    clear hS hl0
    go_enter Tryz.func40, Tryz.ntmps40
    go_wp2_with fail
    have hPW : PW w w.heap.size ((w.alloc (Obj.cells #[Value.int IntKind.i64 0, Value.int IntKind.i64 0] 23)).alloc (Obj.cells #[Value.int IntKind.i64 0, Value.int IntKind.i64 0] 67)) 0 0 := by
      refine ⟨((Below.refl _ _).alloc (Nat.le_refl _) _).alloc (by simp) _, ⟨?_, ?_, ?_, ?_⟩, ?_, ?_, ?_, ?_⟩ <;> go_simp
    generalize (w.alloc (Obj.cells #[Value.int IntKind.i64 0, Value.int IntKind.i64 0] 23)).alloc (Obj.cells #[Value.int IntKind.i64 0, Value.int IntKind.i64 0] 67) = w1 at *
    have HPW := Lib.hid hPW
    clear hPW
    go_loopw [5, 6] (fun s5 s6 wr => ∃ (i a b : Nat) (k : Bool), i ≤ l.length ∧ s6 = .int .i64 (i : Int) ∧ ((k = false ∧ s5 = .int .i64 0) ∨ (k = true ∧ s5 = .int .i64 1)) ∧ Hid (a ≤ 1099511627776 ∧ b ≤ 1099511627776) ∧ Hid (fP 0 0 false l = fP a b k (l.drop i)) ∧ Hid (PW w w.heap.size wr a b)) (fun _ i _ => l.length - (intOf i).toNat)
    case atStart => exact ⟨0, 0, 0, false, by omega, rfl, .inl ⟨rfl, rfl⟩, by show _ ∧ _; omega, rfl, HPW⟩
    case round =>
      obtain ⟨i, a, b, k, hi, rfl, hk, HM, HF, HW⟩ := hrel
      by_cases hlt : i < l.length
      · have hi1 : (i : Int) < (l.length : Int) := by omega
        have hg := HG.out i hlt
        have HF2 : Hid (fP 0 0 false l = fP a b k (l.getD i 0 :: l.drop (i + 1))) := by show _ = _; rw [HF.out, HD.out i hlt]
        generalize l.getD i 0 = c at *
        have hm8 : (c.toNat : Int) < 256 := by have := c.toNat_lt; omega
        by_cases hA : 48 ≤ c.toNat ∧ c.toNat ≤ 57
        · have HD1 := Lib.hid (fun a b t => fP_dig1 (a := a) (b := b) (t := t) hA)
          have HD2 := Lib.hid (fun a b t => fP_dig2 (a := a) (b := b) (t := t) hA)
          obtain ⟨hA1, hA2⟩ := hA
          have q1 : (48 : Int) ≤ (c.toNat : Int) := by omega
          have q2 : (c.toNat : Int) ≤ 57 := by omega
          obtain ⟨-, -, c0, c1, f0, f1⟩ := HW.out
          have hab := HM.out
          have ha : (a : Int) ≤ 1099511627776 := by omega
          have hb2 : (b : Int) ≤ 1099511627776 := by omega
          clear hab
          rcases hk with ⟨rfl, rfl⟩ | ⟨rfl, rfl⟩
          · have HF3 : Hid (fP 0 0 false l = fP (min 1099511627776 (10 * a + c.toNat - 48)) b false (l.drop (i + 1))) := by show _ = _; rw [HF2.out, HD1.out]
            clear HD1 HD2
            go_wp2_with fail
            refine Sch.wp_region_tree Tru (.take 0 (.take 1 (.take 2 (.take 5 (.take 6 (.take 7 (.take 8 (.one 3 (.take 4 (.take 9 (.take 10 (.one 11 (.take 12 (.one 13 .done)))))))))))))) (by kernel_rfl) (by kernel_rfl) trivial ?_
            repeat (refine Sch.tree_q rfl rfl (fun K hK => ?_); go_big_quiet_op; (first | refine hK _ ?_ | refine ⟨_, fun _ _ => rfl, hK _ ?_⟩); clear hK K)
            refine Sch.tree_e rfl rfl (fun K hK => ?_)
            go_wp2_with fail
            refine hK _ _ trivial ?_
            clear hK K
            repeat (refine Sch.tree_q rfl rfl (fun K hK => ?_); go_big_quiet_op; (first | refine hK _ ?_ | refine ⟨_, fun _ _ => rfl, hK _ ?_⟩); clear hK K)
            refine Sch.tree_e rfl rfl (fun K hK => ?_)
            go_wp2_with fail
            refine hK _ _ trivial ?_
            clear hK K
            repeat (refine Sch.tree_q rfl rfl (fun K hK => ?_); go_big_quiet_op; (first | refine hK _ ?_ | refine ⟨_, fun _ _ => rfl, hK _ ?_⟩); clear hK K)
            refine Sch.tree_e rfl rfl (fun K hK => ?_)
            go_wp2_with fail
            refine hK _ _ trivial ?_
            clear hK K
            refine Sch.tree_n ?_
            go_wp2_with fail
            go_roundw
            case rel =>
              have e : min 1099511627776 (10 * (a : Int) + (c.toNat : Int) - 48) = ((min 1099511627776 (10 * a + c.toNat - 48) : Nat) : Int) := by omega
              rw [e]
              exact ⟨i + 1, min 1099511627776 (10 * a + c.toNat - 48), b, false, by omega, by go_num, .inl ⟨rfl, rfl⟩, by show _ ∧ _; have := HM.out; omega, HF3, HW.out.put0 _⟩
            case measure => simp [intOf]; omega
          · have HF3 : Hid (fP 0 0 false l = fP a (min 1099511627776 (10 * b + c.toNat - 48)) true (l.drop (i + 1))) := by show _ = _; rw [HF2.out, HD2.out]
            clear HD1 HD2
            go_wp2_with fail
            refine Sch.wp_region_tree Tru (.take 0 (.take 1 (.take 2 (.take 5 (.take 6 (.take 7 (.take 8 (.one 3 (.take 4 (.take 9 (.take 10 (.one 11 (.take 12 (.one 13 .done)))))))))))))) (by kernel_rfl) (by kernel_rfl) trivial ?_
            repeat (refine Sch.tree_q rfl rfl (fun K hK => ?_); go_big_quiet_op; (first | refine hK _ ?_ | refine ⟨_, fun _ _ => rfl, hK _ ?_⟩); clear hK K)
            refine Sch.tree_e rfl rfl (fun K hK => ?_)
            go_wp2_with fail
            refine hK _ _ trivial ?_
            clear hK K
            repeat (refine Sch.tree_q rfl rfl (fun K hK => ?_); go_big_quiet_op; (first | refine hK _ ?_ | refine ⟨_, fun _ _ => rfl, hK _ ?_⟩); clear hK K)
            refine Sch.tree_e rfl rfl (fun K hK => ?_)
            go_wp2_with fail
            refine hK _ _ trivial ?_
            clear hK K
            repeat (refine Sch.tree_q rfl rfl (fun K hK => ?_); go_big_quiet_op; (first | refine hK _ ?_ | refine ⟨_, fun _ _ => rfl, hK _ ?_⟩); clear hK K)
            refine Sch.tree_e rfl rfl (fun K hK => ?_)
            go_wp2_with fail
            refine hK _ _ trivial ?_
            clear hK K
            refine Sch.tree_n ?_
            go_wp2_with fail
            go_roundw
            case rel =>
              have e : min 1099511627776 (10 * (b : Int) + (c.toNat : Int) - 48) = ((min 1099511627776 (10 * b + c.toNat - 48) : Nat) : Int) := by omega
              rw [e]
              exact ⟨i + 1, a, min 1099511627776 (10 * b + c.toNat - 48), true, by omega, by go_num, .inr ⟨rfl, rfl⟩, by show _ ∧ _; have := HM.out; omega, HF3, HW.out.put1 _⟩
            case measure => simp [intOf]; omega
        · have HS46 := Lib.hid (fun a b t h => fP_stop (a := a) (b := b) (c := c) (t := t) h)
          have HNo := Lib.hid (fun a b k t h => fP_no (a := a) (b := b) (k := k) (c := c) (t := t) hA h)
          obtain ⟨-, ⟨z0, z1, y0, y1⟩, -⟩ := HW.out
          have HBw := Lib.hid HW.out.1
          generalize c.toNat = m at *
          by_cases h46 : m = 46
          · subst h46
            rcases hk with ⟨rfl, rfl⟩ | ⟨rfl, rfl⟩
            · have HF3 : Hid (fP 0 0 false l = fP a b true (l.drop (i + 1))) := by show _ = _; rw [HF2.out, HS46.out _ _ _ rfl]
              clear HS46 HNo hA z0 z1 y0 y1
              go_wp2_with fail
              go_roundw
              case rel => exact ⟨i + 1, a, b, true, by omega, by go_num, .inr ⟨rfl, rfl⟩, HM, HF3, HW⟩
              case measure => simp [intOf]; omega
            · have HZ : Hid (prsB l = ((0, 0), false)) := by show _ = _; unfold prsB; rw [HP.out, HF2.out, HNo.out _ _ _ _ (by simp)]; rfl
              clear HS46 HNo hA
              go_wp2_with fail
              (try simp only [Exit.inBlock, Exit.then])
              refine bodyPost_ret (v := .tuple #[dv (0, 0), .bool false]) (by rw [results_cell_tmp (fn := Tryz.f40) (p := 2) (u := 3) (ty := 23) rfl]; go_simp) rfl ?_
              rw [HZ.out]
              exact ⟨rfl, (HBw.out.setCell (p := ⟨w.heap.size, 0, none⟩) (Nat.le_refl _) _).setCell (p := ⟨w.heap.size, 1, none⟩) (Nat.le_refl _) _⟩
          · have HZ : Hid (prsB l = ((0, 0), false)) := by show _ = _; unfold prsB; rw [HP.out, HF2.out, HNo.out _ _ _ _ (fun h => h46 h.1)]; rfl
            have hm46 : ((m : Int) == 46) = false := by rw [beq_eq_false_iff_ne]; omega
            have hor : (m : Int) < 48 ∨ 57 < (m : Int) := by omega
            clear HS46 HNo hA h46
            rcases hor with hor | hor
            · go_wp2_with fail
              (try simp only [Exit.inBlock, Exit.then])
              refine bodyPost_ret (v := .tuple #[dv (0, 0), .bool false]) (by rw [results_cell_tmp (fn := Tryz.f40) (p := 2) (u := 3) (ty := 23) rfl]; go_simp) rfl ?_
              rw [HZ.out]
              exact ⟨rfl, (HBw.out.setCell (p := ⟨w.heap.size, 0, none⟩) (Nat.le_refl _) _).setCell (p := ⟨w.heap.size, 1, none⟩) (Nat.le_refl _) _⟩
            · have hor2 : (48 : Int) ≤ (m : Int) := by omega
              go_wp2_with fail
              (try simp only [Exit.inBlock, Exit.then])
              refine bodyPost_ret (v := .tuple #[dv (0, 0), .bool false]) (by rw [results_cell_tmp (fn := Tryz.f40) (p := 2) (u := 3) (ty := 23) rfl]; go_simp) rfl ?_
              rw [HZ.out]
              exact ⟨rfl, (HBw.out.setCell (p := ⟨w.heap.size, 0, none⟩) (Nat.le_refl _) _).setCell (p := ⟨w.heap.size, 1, none⟩) (Nat.le_refl _) _⟩
      · obtain rfl : i = l.length := by omega
        have hi1 : ¬ (l.length : Int) < (l.length : Int) := by omega
        obtain ⟨hbel, ⟨z0, z1, y0, y1⟩, c0, c1, -, -⟩ := HW.out
        have HF2 : Hid (prsD l = fin l (some (a, b))) := by show _ = _; rw [HP.out, HF.out, HN.out]; rfl
        have hB4 : Below wr.heap.size wr (wr.alloc (Obj.cells #[Value.int IntKind.i64 a, Value.int IntKind.i64 b] 23)) := bel_box wr _
        have h3 : wr.heap.size < (wr.alloc (Obj.cells #[Value.int IntKind.i64 a, Value.int IntKind.i64 b] 23)).heap.size := by simp
        have h2 : w.heap.size < wr.heap.size := lt_of_cell z0
        go_wp2_with fail
        refine (HV.out ((a : Int), (b : Int)) _).mono ?_
        rintro e w5 ⟨rfl, hb5⟩
        have k0 : w5.cell? ⟨wr.heap.size, 0, none⟩ = some (.int .i64 (a : Int)) := (hb5.cell (p := ⟨wr.heap.size, 0, none⟩) h3).trans (by go_simp)
        have k1 : w5.cell? ⟨wr.heap.size, 1, none⟩ = some (.int .i64 (b : Int)) := (hb5.cell (p := ⟨wr.heap.size, 1, none⟩) h3).trans (by go_simp)
        have hB5 : Below wr.heap.size wr w5 := hB4.trans (hb5.mono (Nat.le_of_lt h3))
        replace z0 := (hB5.cell (p := ⟨w.heap.size, 0, none⟩) h2).trans z0
        replace z1 := (hB5.cell (p := ⟨w.heap.size, 1, none⟩) h2).trans z1
        replace y0 := (hB5.frozen (p := ⟨w.heap.size, 0, none⟩) h2).trans y0
        replace y1 := (hB5.frozen (p := ⟨w.heap.size, 1, none⟩) h2).trans y1
        have HBw : Hid (Below w.heap.size w w5) := hbel.trans (hB5.mono (Nat.le_of_lt h2))
        clear hbel hB4 h3 hb5 hB5 c0 c1 h2 HG HD HN HP HF HW
        rcases hv : validR ((a : Int), (b : Int)) with _ | _
        · have HZ : Hid (prsB l = ((0, 0), false)) := by
            show _ = _
            unfold prsB fin at *
            rw [HF2.out]
            simp only
            rw [if_neg (by rw [hv]; simp)]
          clear HT HV HF2 hv k0 k1
          go_wp2_with fail
          (try simp only [Exit.inBlock, Exit.then])
          refine bodyPost_ret (v := .tuple #[dv (0, 0), .bool false]) (by rw [results_cell_tmp (fn := Tryz.f40) (p := 2) (u := 3) (ty := 23) rfl]; go_simp) rfl ?_
          rw [HZ.out]
          exact ⟨rfl, (HBw.out.setCell (p := ⟨w.heap.size, 0, none⟩) (Nat.le_refl _) _).setCell (p := ⟨w.heap.size, 1, none⟩) (Nat.le_refl _) _⟩
        · have HTx := Lib.hid (fun wx => HT.out a b hv wx)
          have HZ : Hid (¬ txtD ((a : Int), (b : Int)) = l → prsB l = ((0, 0), false)) := by
            intro h
            unfold prsB fin at *
            rw [HF2.out]
            simp only
            rw [if_neg (fun hh => h hh.2)]
          have HO : Hid (txtD ((a : Int), (b : Int)) = l → prsB l = (((a : Int), (b : Int)), true)) := by
            intro h
            unfold prsB fin at *
            rw [HF2.out]
            simp only
            rw [if_pos ⟨hv, h⟩]
          clear HT HV HF2 hv
          generalize txtD ((a : Int), (b : Int)) = x at *
          go_wp2_with fail
          refine (HTx.out w5).mono ?_
          rintro e w6 ⟨rfl, hb6⟩
          have h2 : w.heap.size < w5.heap.size := lt_of_cell z0
          have h4 : wr.heap.size < w5.heap.size := lt_of_cell k0
          replace z0 := (hb6.cell (p := ⟨w.heap.size, 0, none⟩) h2).trans z0
          replace z1 := (hb6.cell (p := ⟨w.heap.size, 1, none⟩) h2).trans z1
          replace y0 := (hb6.frozen (p := ⟨w.heap.size, 0, none⟩) h2).trans y0
          replace y1 := (hb6.frozen (p := ⟨w.heap.size, 1, none⟩) h2).trans y1
          replace k0 := (hb6.cell (p := ⟨wr.heap.size, 0, none⟩) h4).trans k0
          replace k1 := (hb6.cell (p := ⟨wr.heap.size, 1, none⟩) h4).trans k1
          replace HBw := bel_tr HBw hb6
          clear hb6 h2 h4 HTx
          by_cases hx : x = l
          · have HE := Lib.hid (HO.out hx)
            have hbx : ((⟨x.toArray⟩ : ByteArray).toList == S.toList) = true := by rw [beq_iff_eq, hx, HS.out]
            clear HO HZ hx
            generalize (⟨x.toArray⟩ : ByteArray) = S2 at *
            go_wp2_with fail
            (try simp only [Exit.inBlock, Exit.then])
            refine bodyPost_ret (v := .tuple #[dv ((a : Int), (b : Int)), .bool true]) (by rw [results_cell_tmp (fn := Tryz.f40) (p := 2) (u := 3) (ty := 23) rfl]; go_simp) rfl ?_
            rw [HE.out]
            exact ⟨rfl, (HBw.out.setCell (p := ⟨w.heap.size, 0, none⟩) (Nat.le_refl _) _).setCell (p := ⟨w.heap.size, 1, none⟩) (Nat.le_refl _) _⟩
          · have HE := Lib.hid (HZ.out hx)
            have hbx : ((⟨x.toArray⟩ : ByteArray).toList == S.toList) = false := by
              rw [beq_eq_false_iff_ne, ← HS.out]
              intro h
              exact hx (by simpa using h)
            clear HO HZ hx
            generalize (⟨x.toArray⟩ : ByteArray) = S2 at *
            go_wp2_with fail
            (try simp only [Exit.inBlock, Exit.then])
            refine bodyPost_ret (v := .tuple #[dv (0, 0), .bool false]) (by rw [results_cell_tmp (fn := Tryz.f40) (p := 2) (u := 3) (ty := 23) rfl]; go_simp) rfl ?_
            rw [HE.out]
            exact ⟨rfl, (HBw.out.setCell (p := ⟨w.heap.size, 0, none⟩) (Nat.le_refl _) _).setCell (p := ⟨w.heap.size, 1, none⟩) (Nat.le_refl _) _⟩
end Go.Proofs.YtmmcnpcijeahcabGreatDoor.D
