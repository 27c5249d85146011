/-
  The library's Index and Contains, the program's Has; the library's Grow and Concat at dots.
-/
import Derived.Test.YtgopkffgljiblaaGreatMDRefB
import Derived.Lib.AppendZeros
namespace Go.Proofs.YtgopkffgljiblaaGreat.D
set_option linter.unusedVariables false
open Go.RowKit V Go.Sort

theorem run_gr (n : Nat) (h0 : 0 < n) (h : n ≤ 2000000) (ty : TypeId) (w : World) :
    ∃ c w', (Builtin.append_ #[22, 3] ty #[.slice none 0 0, .int .i64 (n : Int)]).run Tryz.prog w = .ok (.slice (some ⟨w.heap.size, 0, none⟩) n c) w' ∧ n ≤ c ∧ OD w' w.heap.size E (.slice (some ⟨w.heap.size, 0, none⟩) 0 c) [] ∧ Below w.heap.size w w' := by
  obtain ⟨i, hi, hz0, hz1, hz2⟩ := G.info_of infoD
  have hr := Lib.run_append_nil_zeros (P := Tryz.prog) w 22 3 ty 48 i (.agg #[.int .i64 0, .int .i64 0]) .i64 .i64 Tryz.underlying22 Tryz.underlying3 hi hz0 n h0 (by rw [hz1]; omega) (by omega) (by rw [hz2]; omega)
  have hge := grownCap_ge w n 0 48
  have hle := grownCap_le_maxLen w n 0 48 (by unfold maxLen; omega)
  refine ⟨_, _, hr, hge, ?_, ((Below.refl _ _).drew).alloc (Nat.le_refl _) _⟩
  exact World.ownsRow_made (base := w.heap.size) (size := 2) (e := 48) w.drew _ (grownCap w n 0 48) (Nat.le_refl _) hle (by simp [Builtin.zeroCells, Value.cells]; omega)

set_option maxRecDepth 100000 in
set_option maxHeartbeats 1000000 in
theorem grow_nil (n : Nat) (h : n ≤ 2000000) (w : World) :
    Calls Tryz.prog 99 #[.slice none 0 0, .int .i64 (n : Int)] w fun e w' => ∃ v, e = .returned v ∧ OD w' w.heap.size E v [] ∧ Below w.heap.size w w' := by
  have HN := Lib.hid h
  rcases Nat.eq_zero_or_pos n with rfl | h0
  · clear h
    go_enter Tryz.func99, Tryz.ntmps99
    go_wp2_with fail
    go_ret
    exact ⟨_, rfl, OD.nil _ _ _, Below.refl _ _⟩
  · have H0 := Lib.hid h0
    have hn0 : ¬ (n : Int) < 0 := by omega
    have hp : (0 : Int) < (n : Int) := by omega
    have hn2 : (n : Int) ≤ 2000000 := by omega
    obtain ⟨c1, w1, hr, hc1, hO, hB⟩ := run_gr n h0 h 22 w
    have HO := Lib.hid hO
    have HB := Lib.hid hB
    clear h h0 hO hB
    have HR := Lib.hid hr
    clear hr
    go_enter Tryz.func99, Tryz.ntmps99
    go_wp2_with (at_builtin; refine Lib.wpList_append_run _ rfl _ _ _ _ rfl _ _ rfl rfl _ _ HR.out ?_)
    go_ret
    exact ⟨_, rfl, HO.out, HB.out⟩

/-- A row of two slices, in memory. -/
def Two (w : World) (g : Nat) (x y : Value) : Prop := w.cell? ⟨g, 0, none⟩ = some x ∧ w.cell? ⟨g, 1, none⟩ = some y

set_option maxRecDepth 100000 in
set_option maxHeartbeats 1000000 in
theorem concat_any (l m : List Dt) (a b : Option Addr) (c d g : Nat) (w : World) (hT : Two w g (.slice a l.length c) (.slice b m.length d)) (hl : RowD w a l) (hm : RowD w b m) (ha : a = none → c = 0) (hb : b = none → d = 0) (hlen : l.length ≤ 1000000) (hlen2 : m.length ≤ 1000000) :
    Calls Tryz.prog 91 #[.slice (some ⟨g, 0, none⟩) 2 2] w fun e w' => ∃ v, e = .returned v ∧ OD w' w.heap.size E v (l ++ m) ∧ Below w.heap.size w w' := by
  have HT := Lib.hid hT
  have HL := Lib.hid hl
  have HM := Lib.hid hm
  have HA := Lib.hid ha
  have HB := Lib.hid hb
  have HLn := Lib.hid hlen
  have HMn := Lib.hid hlen2
  have hl2 : (l.length : Int) ≤ 1000000 := by omega
  have hm2 : (m.length : Int) ≤ 1000000 := by omega
  have c0 := hT.1
  have c1 := hT.2
  have hG := grow_nil (l.length + m.length) (by omega) w
  rw [Int.natCast_add] at hG
  have HG := Lib.hid hG
  clear hT hl hm ha hb hlen hlen2 hG
  go_enter Tryz.func91, Tryz.ntmps91
  go_wp2_with fail
  go_loop [3, 5, 11, 21] (fun sz _ i _ => (i = .int .i64 0 ∧ sz = .int .i64 0) ∨ (i = .int .i64 1 ∧ sz = .int .i64 (l.length : Int)) ∨ (i = .int .i64 2 ∧ sz = .int .i64 ((l.length : Int) + (m.length : Int)))) (fun _ _ i _ => 2 - (intOf i).toNat)
  case atStart => exact .inl ⟨rfl, rfl⟩
  case round =>
    rcases hrel with ⟨rfl, rfl⟩ | ⟨rfl, rfl⟩ | ⟨rfl, rfl⟩
    · go_wp2_with fail
      go_round
      case rel => exact .inr (.inl ⟨rfl, rfl⟩)
      case measure => simp [intOf]
    · go_wp2_with fail
      go_round
      case rel => exact .inr (.inr ⟨rfl, rfl⟩)
      case measure => simp [intOf]
    · go_wp2_with fail
      refine HG.out.mono ?_
      rintro e w1 ⟨v, rfl, ho, hb⟩
      have HO := Lib.hid ho
      have HBe := Lib.hid hb
      clear ho hb HG c0 c1
      go_wp2_with fail
      go_loopw [6, 8, 27] (fun v x i wr => Hid (Below w.heap.size w wr) ∧ ((i = .int .i64 0 ∧ Hid (OD wr w.heap.size E v [])) ∨ (i = .int .i64 1 ∧ Hid (OD wr w.heap.size E v l)) ∨ (i = .int .i64 2 ∧ Hid (OD wr w.heap.size E v (l ++ m))))) (fun _ _ i _ => 2 - (intOf i).toNat)
      case atStart => exact ⟨HBe, .inl ⟨rfl, HO⟩⟩
      case round =>
        obtain ⟨HBe, ⟨rfl, HO⟩ | ⟨rfl, HO⟩ | ⟨rfl, HO⟩⟩ := hrel
        · have c0 : wr.cell? ⟨g, 0, none⟩ = some (.slice a l.length c) := by rw [HBe.out.cell (p := ⟨g, 0, none⟩) (lt_of_cell HT.out.1)]; exact HT.out.1
          have HB0 := Lib.hid HBe.out.size
          go_wp2_with (at_builtin; refine wpList_appD rfl _ _ _ rfl Tryz.underlying22 infoD _ _ rfl HO.out a l c rfl (HL.out.keep HBe.out) HA.out (by have h1 := HLn.out; have h2 := HMn.out; simp; omega) HB0.out ?_)
          intro v' w' ho hg _
          have HO2 : Hid (OD w' w.heap.size E v' (l)) := ho
          have HB2 := Lib.hid (HBe.out.grown hg HBe.out.size (fun k hk => (HO.out.lt k hk).1))
          clear ho hg
          go_wp2_with fail
          go_roundw
          case rel => exact ⟨HB2, .inr (.inl ⟨rfl, HO2⟩)⟩
          case measure => simp [intOf]
        · have c1 : wr.cell? ⟨g, 1, none⟩ = some (.slice b m.length d) := by rw [HBe.out.cell (p := ⟨g, 1, none⟩) (lt_of_cell HT.out.2)]; exact HT.out.2
          have HB0 := Lib.hid HBe.out.size
          go_wp2_with (at_builtin; refine wpList_appD rfl _ _ _ rfl Tryz.underlying22 infoD _ _ rfl HO.out b m d rfl (HM.out.keep HBe.out) HB.out (by have h1 := HLn.out; have h2 := HMn.out; simp; omega) HB0.out ?_)
          intro v' w' ho hg _
          have HO2 : Hid (OD w' w.heap.size E v' (l ++ m)) := ho
          have HB2 := Lib.hid (HBe.out.grown hg HBe.out.size (fun k hk => (HO.out.lt k hk).1))
          clear ho hg
          go_wp2_with fail
          go_roundw
          case rel => exact ⟨HB2, .inr (.inr ⟨rfl, HO2⟩)⟩
          case measure => simp [intOf]
        · go_wp2_with fail
          go_ret
          exact ⟨_, rfl, HO.out, HBe.out⟩
end Go.Proofs.YtgopkffgljiblaaGreat.D
