/-
  The reference's Lost.
-/
import Derived.Test.YteojbekkbgcmnaaGreatMWRfP
import Derived.Test.YteojbekkbgcmnaaGreatMDRefB
import Derived.Test.YteojbekkbgcmnaaGreatMNPure
namespace Go.Proofs.YteojbekkbgcmnaaGreat.Un
set_option linter.unusedVariables false
open Go.RowKit V Go.Shelf D Nd Qs Wk
attribute [local irreducible] Sch.heldN Sch.stepV Sch.stepE

theorem lost_step {l : List Nt} {k : Nat} (h : k < l.length) : (l.take (k + 1)).foldl (lostF l) [] = if (pathR l l[k].1).isSome = true then (l.take k).foldl (lostF l) [] else ins ((l.take k).foldl (lostF l) []) l[k].1 := by
  rw [List.take_succ_eq_append_getElem h, List.foldl_append]
  show lostF l _ _ = _
  unfold lostF isLost pathR
  rcases pathS l (l.length + 1) l[k].1 with _ | p
  · rfl
  · rfl
theorem lost_lenF (l : List Nt) : ∀ (t : List Nt) (o : List Dt), (t.foldl (lostF l) o).length ≤ o.length + t.length
  | [], o => Nat.le_refl _
  | n :: t, o => by
    rw [List.foldl_cons]
    have h1 := lost_lenF l t (lostF l o n)
    have h2 : (lostF l o n).length ≤ o.length + 1 := by
      unfold lostF
      split
      · exact D.ins_len _ _
      · omega
    rw [List.length_cons]
    omega
set_option maxRecDepth 100000 in
set_option maxHeartbeats 4000000 in
theorem lost_ref (l : List Nt) (a : Option Addr) (c : Nat) (w : World) (hx : RowN w a l) (hlx : l.length ≤ 400000) :
    Calls Tryz.prog 10 #[.slice a l.length c] w fun e w' => ∃ v, e = .returned v ∧ OD w' w.heap.size ED v (lostS l) ∧ Below w.heap.size w w' := by
  have HP := Lib.hid (fun d w h => path_ref l d a c w h hlx)
  have HX := Lib.hid hx
  have HE : Hid (lostS l = l.foldl (lostF l) []) := rfl
  have hli : (l.length : Int) ≤ 400000 := by omega
  clear hx hlx
  go_enter Tryz.func10, Tryz.ntmps10
  go_wp2_with fail
  go_loopw [3, 4, 5, 6] (fun v i _ _ wr => ∃ k : Nat, k ≤ l.length ∧ i = .int .i64 (k : Int) ∧ Hid (Below w.heap.size w wr) ∧ Hid (OD wr w.heap.size ED v ((l.take k).foldl (lostF l) []))) (fun _ i _ _ _ => l.length - (intOf i).toNat)
  case atStart => exact ⟨0, Nat.zero_le _, rfl, Below.refl _ _, OD.nil _ _ _⟩
  case round =>
    obtain ⟨k, hk, rfl, HB, HO⟩ := hrel
    by_cases hlt : k < l.length
    · have hi0 : (k : Int) < (l.length : Int) := by omega
      obtain ⟨b1, o1, rfl, hna⟩ := na_of (HX.out.keep HB.out) k hlt
      have hix := ixN b1 o1 l.length c k (k : Int) rfl hlt
      have HSt := Lib.hid (lost_step hlt)
      have HLl : Hid (((l.take k).foldl (lostF l) []).length ≤ 400000) := by have h1 := lost_lenF l (l.take k) []; rw [List.length_take, List.length_nil] at h1; show _ ≤ _; omega
      obtain ⟨q, hq⟩ : ∃ q, q = l[k] := ⟨_, rfl⟩
      rw [← hq] at hna HSt
      clear hq
      have HC := Lib.hid (HP.out q.1 wr (HX.out.keep HB.out))
      have HNa := Lib.hid hna
      obtain ⟨n0, n1, n2, n3, n4, n5⟩ := hna
      generalize hF : (l.take k).foldl (lostF l) [] = F at *
      generalize hF2 : (l.take (k + 1)).foldl (lostF l) [] = F2 at *
      clear hF
      generalize pathR l q.1 = pr at *
      go_wp2_with fail
      refine HC.out.mono ?_
      rintro e w3 ⟨v3, rfl, ho, hb⟩
      have HB3 := Lib.hid (bel_tr HB.out hb)
      have HO3 := Lib.hid (HO.out.below hb)
      have hna3 := HNa.out.keep hb
      clear hb ho HC HNa n0 n1 n2 n3 n4 n5
      rcases pr with _ | pp
      · have HSt2 : Hid (F2 = ins F q.1) := HSt.out
        obtain ⟨n0, n1, n2, n3, n4, n5⟩ := hna3
        obtain ⟨aF, cF, rfl, -⟩ := OD.row HO3.out
        have HW := Lib.hid (with_ref F q.1 aF cF w.heap.size w3 HO3.out HB3.out.size (by have := HLl.out; omega))
        simp only [Option.isSome_none]
        go_wp2_with fail
        refine HW.out.mono ?_
        rintro e w4 ⟨v4, rfl, ho, hb⟩
        have HB4 := Lib.hid (bel_tr HB3.out hb)
        have HO4 : Hid (OD w4 w.heap.size ED v4 F2) := by show OD _ _ _ _ _; rw [HSt2.out]; exact ho
        clear hb ho HW n0 n1 n2 n3 n4 n5
        go_wp2_with fail
        refine ⟨⟨k + 1, by omega, by go_num, HB4, by rw [hF2]; exact HO4⟩, ?_⟩
        simp [intOf]; omega
      · have HFF : Hid (F2 = F) := HSt.out
        clear hna3
        simp only [Option.isSome_some]
        go_wp2_with fail
        refine ⟨⟨k + 1, by omega, by go_num, HB3, by rw [hF2, HFF.out]; exact HO3⟩, ?_⟩
        simp [intOf]; omega
    · obtain rfl : k = l.length := by omega
      have hend : ¬ (l.length : Int) < (l.length : Int) := by omega
      rw [List.take_length, ← HE.out] at HO
      go_wp2_with fail
      go_ret
      exact ⟨_, rfl, HO.out, HB.out⟩
end Go.Proofs.YteojbekkbgcmnaaGreat.Un
