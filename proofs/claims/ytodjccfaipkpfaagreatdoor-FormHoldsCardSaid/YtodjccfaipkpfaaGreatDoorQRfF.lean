/-
  The reference's Find, Dots, Time.
-/
import Derived.Test.YtodjccfaipkpfaaGreatDoorMQAsk
import Derived.Test.YtodjccfaipkpfaaGreatDoorQOwn
namespace Go.Proofs.YtodjccfaipkpfaaGreatDoor.Qs
set_option linter.unusedVariables false
open Go.RowKit V Go.Sort D Nd

theorem eqlD_yes (p : Dt) : ∀ w, Sem.run Tryz.prog (binOp .eql 33 (.agg #[.int .i64 p.1, .int .i64 p.2]) (.agg #[.int .i64 p.1, .int .i64 p.2])) w = .ok (.bool true) w := fun w => by
  have := eql_dot p p w
  rwa [decide_eq_true rfl] at this
set_option maxRecDepth 100000 in
set_option maxHeartbeats 2000000 in
theorem find_ref (l : List Nt) (d : Dt) (a : Option Addr) (c : Nat) (w : World) (hx : RowN w a l) (hlx : l.length ≤ 1000000) :
    Calls Tryz.prog 11 #[.slice a l.length c, dv d] w fun e w' => e = .returned (.int .i64 (idxS l d)) ∧ Below w.heap.size w w' := by
  have HB := Lib.hid (bel_box w (.cells #[.int .i64 d.1, .int .i64 d.2] 33))
  have HX := Lib.hid (hx.keep HB.out)
  have HD : Hid ((w.alloc (.cells #[.int .i64 d.1, .int .i64 d.2] 33)).cell? ⟨w.heap.size, 0, none⟩ = some (.int .i64 d.1) ∧ (w.alloc (.cells #[.int .i64 d.1, .int .i64 d.2] 33)).cell? ⟨w.heap.size, 1, none⟩ = some (.int .i64 d.2)) := by
    constructor <;> go_simp
  have hli : (l.length : Int) ≤ 1000000 := by omega
  have hRe : Hid (∀ k (hk : k < l.length), (∀ j (hj : j < l.length), j < k → l[j].1 ≠ d) → l[k].1 = d → idxS l d = (k : Int)) := fun k hk h e => (idx_hit hk h e).1
  have hRn : Hid ((∀ j (hj : j < l.length), l[j].1 ≠ d) → idxS l d = -1) := fun h => (idx_none h).1
  clear hx hlx
  generalize idxS l d = R at *
  obtain ⟨d1, d2⟩ := d
  go_enter Tryz.func11, Tryz.ntmps11
  go_wp2_with fail
  generalize w.alloc (.cells #[.int .i64 d1, .int .i64 d2] 33) = w1 at *
  go_loopw [5] (fun i wr => ∃ k : Nat, k ≤ l.length ∧ i = .int .i64 (k : Int) ∧ Hid (Below w1.heap.size w1 wr) ∧ Hid (∀ j (hj : j < l.length), j < k → l[j].1 ≠ (d1, d2))) (fun i _ => l.length - (intOf i).toNat)
  case atStart => exact ⟨0, Nat.zero_le _, rfl, Below.refl _ _, fun j _ h => by omega⟩
  case round =>
    obtain ⟨k, hk, rfl, hh, HV⟩ := hrel
    by_cases hlt : k < l.length
    · have hi0 : (k : Int) < (l.length : Int) := by omega
      obtain ⟨b1, o1, rfl, hna⟩ := na_of (HX.out.keep hh.out) k hlt
      have HRk := Lib.hid (hRe.out k hlt HV.out)
      have HVk : Hid (l[k].1 ≠ (d1, d2) → ∀ j (hj : j < l.length), j < k + 1 → l[j].1 ≠ (d1, d2)) := fun h j hj hjk => by
        by_cases e : j = k
        · subst e; exact h
        · exact HV.out j hj (by omega)
      obtain ⟨q, hq⟩ : ∃ q, q = l[k] := ⟨_, rfl⟩
      rw [← hq] at hna HRk HVk
      clear hq
      obtain ⟨n0, n1, -⟩ := hna
      have x0 := (hh.out.cell (p := ⟨w.heap.size, 0, none⟩) (lt_of_cell HD.out.1)).trans HD.out.1
      have x1 := (hh.out.cell (p := ⟨w.heap.size, 1, none⟩) (lt_of_cell HD.out.2)).trans HD.out.2
      by_cases e : q.1 = (d1, d2)
      · have hr := HRk.out e
        have hE := eqlD_yes (d1, d2)
        obtain ⟨⟨q1, q2⟩, q3⟩ := q
        simp only [Prod.mk.injEq] at e
        obtain ⟨rfl, rfl⟩ := e
        clear HRk HVk hRe hRn
        have HR := Lib.hid hr
        clear hr
        go_wp2_with fail
        go_quiet (fail)
        go_wp2_with fail
        go_ret
        exact ⟨by rw [HR.out]; rfl, bel_drewN (HB.out.trans (hh.out.mono HB.out.size)) _⟩
      · have hE := eql_no e
        have HVn := Lib.hid (HVk.out e)
        clear HRk HVk e
        obtain ⟨⟨q1, q2⟩, q3⟩ := q
        go_wp2_with fail
        go_quiet (fail)
        go_wp2_with fail
        go_roundw
        case rel => exact ⟨k + 1, by omega, by go_num, bel_drewN hh.out _, HVn⟩
        case measure => simp [intOf]; omega
    · have hend : ¬ (k : Int) < (l.length : Int) := by omega
      have HR := Lib.hid (hRn.out fun j hj => HV.out j hj (by omega))
      go_wp2_with fail
      go_ret
      exact ⟨by rw [HR.out]; rfl, HB.out.trans (hh.out.mono HB.out.size)⟩
end Go.Proofs.YtodjccfaipkpfaaGreatDoor.Qs
