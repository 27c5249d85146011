/-
  The law's helpers; the reference's Same.
-/
import Derived.Test.YtmmcnpcijeahcaaJNo
import Derived.Laws.StructEq
namespace Go.Proofs.Ytmmcnpcijeahcaa.J
set_option linter.unusedVariables false
open Go.RowKit V Go.Shelf

/-- A pair, or a zero one. -/
def pk : Option Pr → Pr
  | some p => p
  | none => (0, ⟨#[]⟩)
theorem tops_pk (p : Option Pr) : tops p = .tuple #[.int .i64 (pk p).1, .string (pk p).2, .bool p.isSome] := by cases p <;> rfl
abbrev pv (x : Pr) : Value := .agg #[.int .i64 x.1, .string x.2]

theorem neq_no (p : Pr) : ∀ w, Sem.run Try.prog (binOp .neq E (.agg #[.int .i64 p.1, .string p.2]) (.agg #[.int .i64 p.1, .string p.2])) w = .ok (.bool false) w := by
  intro w
  have u3 := Try.underlying3
  have a3 := Try.isAgg3
  have z3 := Try.sizeOf3
  have u9 := Try.underlying9
  have a9 := Try.isAgg9
  have z9 := Try.sizeOf9
  have hS : Try.prog.underlying E = some (.struct (Try.prog.fieldsOf E)) := by kernel_rfl
  have hp : Try.prog.stoodInHeld E = false := by kernel_rfl
  rw [run_neq_struct, show (10000 : Nat) = 9999 + 1 from rfl, run_equalIn_agg w 9999 E _ _ hS hp]
  simp only [Program.fieldsOf, Try.underlying49]
  go_simp
theorem RowP.get {w wr : World} {a : Option Addr} {l : List Pr} (h : RowP w a l) (hb : Below w.heap.size w wr) (k : Nat) (hk : k < l.length) :
    ∃ b o, a = some ⟨b, o, none⟩ ∧ wr.cell? ⟨b, o + k * 2, none⟩ = some (.int .i64 l[k].1) ∧ wr.cell? ⟨b, o + k * 2 + 1, none⟩ = some (.string l[k].2) := by
  have h' := h.keep hb
  rcases h' with rfl | ⟨b, o, rfl, hc⟩
  · simp at hk
  · exact ⟨b, o, rfl, hc k hk⟩

set_option maxRecDepth 100000 in
set_option maxHeartbeats 1000000 in
theorem same_ref (xs : List Pr) (a b : Option Addr) (c d : Nat) (w : World) (hx : RowP w a xs) (hy : RowP w b xs) (hlx : xs.length ≤ 140737488355328) :
    Calls Try.prog 21 #[.slice a xs.length c, .slice b xs.length d] w fun e w' => e = .returned (.bool true) ∧ Below w.heap.size w w' := by
  have HX := Lib.hid hx
  have HY := Lib.hid hy
  have hli : (xs.length : Int) ≤ 140737488355328 := by omega
  clear hx hy hlx
  have q0 : ((xs.length : Int) != (xs.length : Int)) = false := by simp
  go_enter Try.func21, Try.ntmps21
  go_wp2_with fail
  go_loopw [5] (fun i wr => ∃ k : Nat, k ≤ xs.length ∧ i = .int .i64 k ∧ Hid (Below w.heap.size w wr)) (fun i _ => xs.length - (intOf i).toNat)
  case atStart => exact ⟨0, Nat.zero_le _, rfl, Below.refl _ _⟩
  case round =>
    obtain ⟨k, hk, rfl, hh⟩ := hrel
    by_cases hlt : k < xs.length
    · obtain ⟨b1, o1, rfl, p0, p1⟩ := HX.out.get hh.out k hlt
      obtain ⟨b2, o2, rfl, q0, q1⟩ := HY.out.get hh.out k hlt
      obtain ⟨p, hp⟩ : ∃ p, p = xs[k] := ⟨_, rfl⟩
      rw [← hp] at p0 p1 q0 q1
      clear hp
      have hne := neq_no p
      go_wp2_with fail
      go_quiet (fail)
      go_wp2_with fail
      go_roundw
      case rel => exact ⟨k + 1, by omega, by go_num, hh.out.trans ⟨rfl, rfl, rfl, Nat.le_refl _, fun _ _ => rfl⟩⟩
      case measure => simp [intOf]; omega
    · obtain rfl : k = xs.length := by omega
      have hend : ¬ (xs.length : Int) < (xs.length : Int) := by omega
      go_wp2_with fail
      go_ret
      exact ⟨rfl, hh.out⟩

set_option maxRecDepth 100000 in
theorem is_true (x : Pr) (bb : Bool) (w : World) : Calls Try.prog 60 #[.int .i64 x.1, .string x.2, .bool bb, pv x, .bool bb] w fun e w' => e = .returned (.bool true) ∧ Below w.heap.size w w' := by
  obtain ⟨k, v⟩ := x
  go_enter Try.func60, Try.ntmps60
  go_wp2_with fail
  go_ret
  exact ⟨by simp, bel_box _ _⟩

set_option maxRecDepth 100000 in
set_option maxHeartbeats 1000000 in
theorem at_law (a : Option Addr) (i : Int) (p : Option Pr) (w : World) (hc : ∀ w', Below w.heap.size w w' → Calls Try.prog 59 #[.pointer a, .int .i64 i] w' fun e w'' => e = .returned (tops p) ∧ Below w'.heap.size w' w'') :
    Calls Try.prog 32 #[.pointer a, .int .i64 i, pv (pk p), .bool p.isSome] w fun e w' => e = .returned (.bool true) ∧ Below w.heap.size w w' := by
  have HC := Lib.hid (hc _ (bel_box w (.cells #[.int .i64 (pk p).1, .string (pk p).2] E)))
  rw [tops_pk] at HC
  have HI := Lib.hid (fun w => is_true (pk p) p.isSome w)
  clear hc
  generalize p.isSome = bb at *
  generalize pk p = x at *
  obtain ⟨k, v⟩ := x
  go_enter Try.func32, Try.ntmps32
  go_wp2_with fail
  have x0 : (w.alloc (.cells #[.int .i64 k, .string v] E)).cell? ⟨w.heap.size, 0, none⟩ = some (.int .i64 k) := by go_simp
  have x1 : (w.alloc (.cells #[.int .i64 k, .string v] E)).cell? ⟨w.heap.size, 1, none⟩ = some (.string v) := by go_simp
  refine HC.out.mono ?_
  rintro e w2 ⟨rfl, hb⟩
  have y0 := keep_cell x0 hb
  have y1 := keep_cell x1 hb
  have HB := Lib.hid (bel_tr (bel_box w (.cells #[.int .i64 k, .string v] E)) hb)
  clear hb HC x0 x1
  go_wp2_with fail
  refine (HI.out _).mono ?_
  rintro e w3 ⟨rfl, hb⟩
  replace HB := Lib.hid (bel_tr HB.out hb)
  clear hb
  go_wp2_with fail
  go_ret
  exact ⟨rfl, HB.out⟩

set_option maxRecDepth 100000 in
set_option maxHeartbeats 1000000 in
theorem floor_law (a : Option Addr) (i : Int) (p : Option Pr) (w : World) (hc : ∀ w', Below w.heap.size w w' → Calls Try.prog 61 #[.pointer a, .int .i64 i] w' fun e w'' => e = .returned (tops p) ∧ Below w'.heap.size w' w'') :
    Calls Try.prog 34 #[.pointer a, .int .i64 i, pv (pk p), .bool p.isSome] w fun e w' => e = .returned (.bool true) ∧ Below w.heap.size w w' := by
  have HC := Lib.hid (hc _ (bel_box w (.cells #[.int .i64 (pk p).1, .string (pk p).2] E)))
  rw [tops_pk] at HC
  have HI := Lib.hid (fun w => is_true (pk p) p.isSome w)
  clear hc
  generalize p.isSome = bb at *
  generalize pk p = x at *
  obtain ⟨k, v⟩ := x
  go_enter Try.func34, Try.ntmps34
  go_wp2_with fail
  have x0 : (w.alloc (.cells #[.int .i64 k, .string v] E)).cell? ⟨w.heap.size, 0, none⟩ = some (.int .i64 k) := by go_simp
  have x1 : (w.alloc (.cells #[.int .i64 k, .string v] E)).cell? ⟨w.heap.size, 1, none⟩ = some (.string v) := by go_simp
  refine HC.out.mono ?_
  rintro e w2 ⟨rfl, hb⟩
  have y0 := keep_cell x0 hb
  have y1 := keep_cell x1 hb
  have HB := Lib.hid (bel_tr (bel_box w (.cells #[.int .i64 k, .string v] E)) hb)
  clear hb HC x0 x1
  go_wp2_with fail
  refine (HI.out _).mono ?_
  rintro e w3 ⟨rfl, hb⟩
  replace HB := Lib.hid (bel_tr HB.out hb)
  clear hb
  go_wp2_with fail
  go_ret
  exact ⟨rfl, HB.out⟩

set_option maxRecDepth 100000 in
set_option maxHeartbeats 1000000 in
theorem ceil_law (a : Option Addr) (i : Int) (p : Option Pr) (w : World) (hc : ∀ w', Below w.heap.size w w' → Calls Try.prog 62 #[.pointer a, .int .i64 i] w' fun e w'' => e = .returned (tops p) ∧ Below w'.heap.size w' w'') :
    Calls Try.prog 35 #[.pointer a, .int .i64 i, pv (pk p), .bool p.isSome] w fun e w' => e = .returned (.bool true) ∧ Below w.heap.size w w' := by
  have HC := Lib.hid (hc _ (bel_box w (.cells #[.int .i64 (pk p).1, .string (pk p).2] E)))
  rw [tops_pk] at HC
  have HI := Lib.hid (fun w => is_true (pk p) p.isSome w)
  clear hc
  generalize p.isSome = bb at *
  generalize pk p = x at *
  obtain ⟨k, v⟩ := x
  go_enter Try.func35, Try.ntmps35
  go_wp2_with fail
  have x0 : (w.alloc (.cells #[.int .i64 k, .string v] E)).cell? ⟨w.heap.size, 0, none⟩ = some (.int .i64 k) := by go_simp
  have x1 : (w.alloc (.cells #[.int .i64 k, .string v] E)).cell? ⟨w.heap.size, 1, none⟩ = some (.string v) := by go_simp
  refine HC.out.mono ?_
  rintro e w2 ⟨rfl, hb⟩
  have y0 := keep_cell x0 hb
  have y1 := keep_cell x1 hb
  have HB := Lib.hid (bel_tr (bel_box w (.cells #[.int .i64 k, .string v] E)) hb)
  clear hb HC x0 x1
  go_wp2_with fail
  refine (HI.out _).mono ?_
  rintro e w3 ⟨rfl, hb⟩
  replace HB := Lib.hid (bel_tr HB.out hb)
  clear hb
  go_wp2_with fail
  go_ret
  exact ⟨rfl, HB.out⟩

set_option maxRecDepth 100000 in
theorem sets_law (R : World → Prop) (a : Option Addr) (k : Int) (v x : ByteArray) (bb : Bool) (w : World) (hc : Calls Try.prog 17 #[.pointer a, .int .i64 k, .string v] w fun e w' => e = .returned (.tuple #[.string x, .bool bb]) ∧ R w') :
    Calls Try.prog 12 #[.pointer a, .int .i64 k, .string v, .string x, .bool bb] w fun e w' => e = .returned (.bool true) ∧ R w' := by
  have HC := Lib.hid hc
  clear hc
  go_enter Try.func12, Try.ntmps12
  go_wp2_with fail
  refine HC.out.mono ?_
  rintro e w2 ⟨rfl, hr⟩
  have HR := Lib.hid hr
  clear hr HC
  go_wp2_with fail
  go_ret
  exact ⟨by simp, HR.out⟩
set_option maxRecDepth 100000 in
theorem gets_law (R : World → Prop) (a : Option Addr) (k : Int) (x : ByteArray) (bb : Bool) (w : World) (hc : Calls Try.prog 57 #[.pointer a, .int .i64 k] w fun e w' => e = .returned (.tuple #[.string x, .bool bb]) ∧ R w') :
    Calls Try.prog 30 #[.pointer a, .int .i64 k, .string x, .bool bb] w fun e w' => e = .returned (.bool true) ∧ R w' := by
  have HC := Lib.hid hc
  clear hc
  go_enter Try.func30, Try.ntmps30
  go_wp2_with fail
  refine HC.out.mono ?_
  rintro e w2 ⟨rfl, hr⟩
  have HR := Lib.hid hr
  clear hr HC
  go_wp2_with fail
  go_ret
  exact ⟨by simp, HR.out⟩
set_option maxRecDepth 100000 in
theorem made_any (d : Bool) (w : World) : Calls Try.prog 10 #[.bool d] w fun e w' => ∃ g', e = .returned (.pointer (some ⟨g', 0, none⟩)) ∧ w.heap.size ≤ g' ∧ Mp w' g' d [] ∧ Below w.heap.size w w' := by
  have HC := Lib.hid (new_yes d w)
  cases d
  · rw [show fnOf false = 38 from rfl] at HC
    go_enter Try.func10, Try.ntmps10
    go_wp2_with fail
    refine HC.out.mono ?_
    rintro e w2 ⟨g', rfl, h1, h2, h3⟩
    have HR := Lib.hid h1
    have HM := Lib.hid h2
    have HB := Lib.hid h3
    clear h1 h2 h3 HC
    go_wp2_with fail
    go_ret
    exact ⟨g', rfl, HR.out, HM.out, HB.out⟩
  · rw [show fnOf true = 37 from rfl] at HC
    go_enter Try.func10, Try.ntmps10
    go_wp2_with fail
    refine HC.out.mono ?_
    rintro e w2 ⟨g', rfl, h1, h2, h3⟩
    have HR := Lib.hid h1
    have HM := Lib.hid h2
    have HB := Lib.hid h3
    clear h1 h2 h3 HC
    go_wp2_with fail
    go_ret
    exact ⟨g', rfl, HR.out, HM.out, HB.out⟩
end Go.Proofs.Ytmmcnpcijeahcaa.J
