/-
  The reference's map: Floor, From.
-/
import Derived.Test.YtmmcnpcijeahcaaJRef2
namespace Go.Proofs.Ytmmcnpcijeahcaa.J
set_option linter.unusedVariables false
open Go.RowKit V Go.Shelf
attribute [local irreducible] Sch.heldN Sch.stepV Sch.stepE

set_option maxRecDepth 100000 in
set_option maxHeartbeats 1000000 in
theorem floor_ref (d : Bool) (L : List Pr) (a : Option Addr) (c : Nat) (k : Int) (w : World) (hx : RowP w a L) (hl : L.length ≤ 1000000) (hs : Srt d L) :
    Calls Try.prog 46 #[mv d a L.length c, .int .i64 k] w fun e w' => e = .returned (.tuple #[pv (pk (floorR d L k)), .bool (floorR d L k).isSome]) ∧ Below w.heap.size w w' := by
  obtain ⟨hr, hp, hb⟩ := two_new w d a L.length c
  have HR := Lib.hid hr
  have HP := Lib.hid hp
  have HB := Lib.hid hb
  have HX := Lib.hid (hx.keep hb)
  have HF1 := Lib.hid (fun (i : Nat) (hi : i < L.length) (h : bef d k L[i].1 = false) (hall : ∀ j (hj : j < L.length), i < j → bef d k L[j].1 = true) => floor_at hs hi h hall)
  have HF0 := Lib.hid (fun (hall : ∀ j (hj : j < L.length), bef d k L[j].1 = true) => floor_none hall)
  have hli : (L.length : Int) ≤ 1000000 := by omega
  clear hr hp hb hx hs
  generalize floorR d L k = F at *
  go_enter Try.func46, Try.ntmps46
  go_wp2_with fail
  generalize (w.alloc (.cells #[.bool d, .slice a L.length c] 29)).alloc (.cells #[.int .i64 0, .string ⟨#[]⟩] E) = w1 at *
  go_loopw [6] (fun j wr => ∃ q : Nat, q ≤ L.length ∧ j = .int .i64 ((q : Int) - 1) ∧ Hid (∀ x (hx : x < L.length), q ≤ x → bef d k L[x].1 = true) ∧ Hid (Rb wr w.heap.size d a L.length c) ∧ Hid (Pb wr (w.heap.size + 1) (0, ⟨#[]⟩)) ∧ Hid (RowP wr a L) ∧ Hid (Below w.heap.size w wr)) (fun j _ => (intOf j + 1).toNat)
  case atStart => exact ⟨L.length, by omega, rfl, (fun x hx h => by omega), HR, HP, HX, HB⟩
  case round =>
    clear HR HP HX HB
    obtain ⟨q, hq, rfl, HA, HR, HP, HX, HB⟩ := hrel
    rcases q with _ | r
    · have hF : F = none := HF0.out fun j hj => HA.out j hj (by omega)
      subst hF
      rw [show ((0 : Nat) : Int) - 1 = -1 from rfl]
      have j0 := HP.out.c0
      have j1 := HP.out.c1
      have f0 := HP.out.free 0
      have f1 := HP.out.free 1
      simp only at j0 j1
      go_wp2_with fail
      (try simp only [Exit.inBlock, Exit.then])
      refine bodyPost_ret (v := .tuple #[pv (0, ⟨#[]⟩), .bool false]) (ret_pair rfl (HP.out.put (0, ⟨#[]⟩)) rfl rfl) rfl ?_
      exact ⟨rfl, below_gb HB.out (gb_put2 _ _ _ _) HB.out.size (by omega)⟩
    · have hlt : r < L.length := by omega
      rw [show ((r + 1 : Nat) : Int) - 1 = (r : Int) by omega]
      have hr0 : ¬ (r : Int) < 0 := by omega
      have hr1 : (r : Int) < (L.length : Int) := by omega
      have hr2 : (r : Int) ≤ 1000000 := by omega
      have hr3 : (0 : Int) ≤ (r : Int) := by omega
      obtain ⟨b, o, rfl, c0, c1⟩ := HX.out.get (Below.refl _ _) r hlt
      obtain ⟨p, hp⟩ : ∃ p, p = L[r] := ⟨_, rfl⟩
      rw [← hp] at c0 c1
      have HPp := Lib.hid hp
      have HBq : Hid (bef d k p.1 = false → F = some p) := fun h => by rw [hp] at h ⊢; exact HF1.out r hlt h fun j hj hlt => HA.out j hj hlt
      have HBt : Hid (bef d k p.1 = true → ∀ x (hx : x < L.length), r ≤ x → bef d k L[x].1 = true) := fun h x hx hrx => by
        rcases Nat.lt_or_ge r x with h2 | h2
        · exact HA.out x hx h2
        · have : x = r := by omega
          subst this
          rw [← hp]; exact h
      clear hp
      obtain ⟨p0, p1⟩ := p
      simp only at c0 c1 HBq HBt
      have HS : Hid (Rk wr w.heap.size d (some ⟨b, o, none⟩) L.length c b (o + r * 2) p0) := ⟨HR.out, c0⟩
      have HC1 : Hid (wr.cell? ⟨b, o + r * 2 + 1, none⟩ = some (.string p1)) := c1
      clear c0 c1 HR
      go_wp2_with fail
      have hb0 : Below wr.heap.size wr wr.drew := (Below.refl _ _).drew
      replace HX := Lib.hid (HX.out.keep hb0)
      replace HS := Lib.hid (HS.out.keep hb0)
      replace HP := Lib.hid (HP.out.keep hb0)
      replace HC1 := Lib.hid (keep_cell HC1.out hb0)
      replace HB := Lib.hid (bel_tr HB.out hb0)
      clear hb0
      have A1 := Lib.hid (fun w' (h : Rk w' w.heap.size d (some ⟨b, o, none⟩) L.length c b (o + r * 2) p0) => load_row (w := w') h.1.2)
      have A2 := Lib.hid (fun w' (h : Rk w' w.heap.size d (some ⟨b, o, none⟩) L.length c b (o + r * 2) p0) => load_map (w := w') h.1)
      have A3 := Lib.hid (fun w' (h : Rk w' w.heap.size d (some ⟨b, o, none⟩) L.length c b (o + r * 2) p0) => load_int (w := w') h.2)
      refine Sch.wp_region_tn (fun w' => Rk w' w.heap.size d (some ⟨b, o, none⟩) L.length c b (o + r * 2) p0) (.val 0 (.val 1 (.val 2 (.val 3 (.val 4 (.val 5 (.val 6 (.val 7 (.one 8 (.val 9 .done)))))))))) (by kernel_rfl) (by kernel_rfl) HS.out ?_
      repeat (first
        | (refine Sch.tn_q rfl rfl rfl (fun K hK => ?_); go_big_quiet_op; (first | refine hK _ ?_ | refine ⟨_, fun _ _ => rfl, hK _ ?_⟩); clear hK K)
        | (refine Sch.tn_chk _ _ _ rfl rfl rfl rfl rfl ?_; simp only [Act.put, List.setIfInBounds_toArray, List.set_cons_zero, List.set_cons_succ])
        | (refine Sch.tn_load _ _ _ _ _ rfl rfl rfl rfl (by first | exact A1.out | exact A2.out | exact A3.out) rfl ?_; simp only [Act.put, List.setIfInBounds_toArray, List.set_cons_zero, List.set_cons_succ]))
      generalize wr.drew = w3 at *
      have HC := Lib.hid (before_ref d (some ⟨b, o, none⟩) L.length c k p0 w3)
      refine Sch.tn_e rfl rfl (fun K hK => ?_)
      go_wp2_with fail
      refine HC.out.mono ?_
      rintro e w4 ⟨rfl, hb⟩
      replace HX := Lib.hid (HX.out.keep hb)
      replace HS := Lib.hid (HS.out.keep hb)
      replace HP := Lib.hid (HP.out.keep hb)
      replace HC1 := Lib.hid (keep_cell HC1.out hb)
      replace HB := Lib.hid (bel_tr HB.out hb)
      clear hb HC
      refine hK _ _ HS.out ?_
      clear hK K
      obtain hv | hv : bef d k p0 = true ∨ bef d k p0 = false := by cases bef d k p0 <;> simp
      · rw [hv]
        repeat (first
          | (refine Sch.tn_q rfl rfl rfl (fun K hK => ?_); go_big_quiet_op; (first | refine hK _ ?_ | refine ⟨_, fun _ _ => rfl, hK _ ?_⟩); clear hK K)
          | (refine Sch.tn_chk _ _ _ rfl rfl rfl rfl rfl ?_; simp only [Act.put, List.setIfInBounds_toArray, List.set_cons_zero, List.set_cons_succ])
          | (refine Sch.tn_load _ _ _ _ _ rfl rfl rfl rfl (by first | exact A1.out | exact A2.out | exact A3.out) rfl ?_; simp only [Act.put, List.setIfInBounds_toArray, List.set_cons_zero, List.set_cons_succ]))
        refine Sch.tn_n ?_
        go_wp2_with fail
        go_roundw
        case rel => exact ⟨r, by omega, by go_num, HBt.out hv, Lib.hid HS.out.1, HP, HX, HB⟩
        case measure => simp [intOf]
      · rw [hv]
        repeat (first
          | (refine Sch.tn_q rfl rfl rfl (fun K hK => ?_); go_big_quiet_op; (first | refine hK _ ?_ | refine ⟨_, fun _ _ => rfl, hK _ ?_⟩); clear hK K)
          | (refine Sch.tn_chk _ _ _ rfl rfl rfl rfl rfl ?_; simp only [Act.put, List.setIfInBounds_toArray, List.set_cons_zero, List.set_cons_succ])
          | (refine Sch.tn_load _ _ _ _ _ rfl rfl rfl rfl (by first | exact A1.out | exact A2.out | exact A3.out) rfl ?_; simp only [Act.put, List.setIfInBounds_toArray, List.set_cons_zero, List.set_cons_succ]))
        refine Sch.tn_n ?_
        have k0 := HS.out.1.1
        have k1 := HS.out.1.2
        have k2 := HS.out.2
        have k3 := HC1.out
        have j0 := HP.out.c0
        have j1 := HP.out.c1
        have f0 := HP.out.free 0
        have f1 := HP.out.free 1
        simp only at j0 j1
        go_wp2_with fail
        (try simp only [Exit.inBlock, Exit.then])
        refine bodyPost_ret (v := .tuple #[pv (p0, p1), .bool true]) (ret_pair rfl (HP.out.put (p0, p1)) rfl rfl) rfl ?_
        exact ⟨by rw [HBq.out hv]; rfl, below_gb HB.out (gb_put2 _ _ _ _) HB.out.size (by omega)⟩

set_option maxRecDepth 100000 in
set_option maxHeartbeats 1000000 in
theorem from_ref (d : Bool) (L : List Pr) (a : Option Addr) (c : Nat) (k : Int) (w : World) (hx : RowP w a L) (hl : L.length ≤ 1000000) (hc : L.length ≤ c) (hn : a = none → c = 0) :
    Calls Try.prog 23 #[mv d a L.length c, .int .i64 k] w fun e w' => ∃ a' c', e = .returned (.slice a' (L.drop (rank d L k)).length c') ∧ RowP w' a' (L.drop (rank d L k)) ∧ Below w.heap.size w w' := by
  have hb := bel_box w (.cells #[.bool d, .slice a L.length c] 29)
  have HX := Lib.hid (hx.keep hb)
  have HC1 := Lib.hid (fun w' (h : RowP w' a L) => rank_ref d L a c k w' h hl)
  have HB := Lib.hid hb
  have HR : Hid (Rb (w.alloc (.cells #[.bool d, .slice a L.length c] 29)) w.heap.size d a L.length c) := ⟨by go_simp, by go_simp⟩
  have hr := rank_le d L k
  clear hb hx
  generalize rank d L k = r at *
  go_enter Try.func23, Try.ntmps23
  go_wp2_with fail
  generalize w.alloc (.cells #[.bool d, .slice a L.length c] 29) = w1 at *
  have hb0 : Below w1.heap.size w1 w1.drew := (Below.refl _ _).drew
  replace HX := Lib.hid (HX.out.keep hb0)
  replace HR := Lib.hid (HR.out.keep hb0)
  replace HB := Lib.hid (bel_tr HB.out hb0)
  clear hb0
  have A1 := Lib.hid (fun w' (h : Rb w' w.heap.size d a L.length c) => load_row (w := w') h.2)
  have A2 := Lib.hid (fun w' (h : Rb w' w.heap.size d a L.length c) => load_map (w := w') h)
  refine Sch.wp_region_tn (fun w' => Rb w' w.heap.size d a L.length c) (.val 0 (.val 1 (.val 2 (.val 3 (.one 4 (.val 5 (.val 6 .done))))))) (by kernel_rfl) (by kernel_rfl) HR.out ?_
  repeat (first
    | (refine Sch.tn_q rfl rfl rfl (fun K hK => ?_); go_big_quiet_op; (first | refine hK _ ?_ | refine ⟨_, fun _ _ => rfl, hK _ ?_⟩); clear hK K)
    | (refine Sch.tn_chk _ _ _ rfl rfl rfl rfl rfl ?_; simp only [Act.put, List.setIfInBounds_toArray, List.set_cons_zero, List.set_cons_succ])
    | (refine Sch.tn_load _ _ _ _ _ rfl rfl rfl rfl (by first | exact A1.out | exact A2.out) rfl ?_; simp only [Act.put, List.setIfInBounds_toArray, List.set_cons_zero, List.set_cons_succ]))
  generalize w1.drew = w2 at *
  refine Sch.tn_e rfl rfl (fun K hK => ?_)
  go_wp2_with fail
  refine (HC1.out _ HX.out).mono ?_
  rintro e w3 ⟨rfl, hb⟩
  replace HX := Lib.hid (HX.out.keep hb)
  replace HR := Lib.hid (HR.out.keep hb)
  replace HB := Lib.hid (bel_tr HB.out hb)
  clear hb
  refine hK _ _ HR.out ?_
  clear hK K
  repeat (first
    | (refine Sch.tn_q rfl rfl rfl (fun K hK => ?_); go_big_quiet_op; (first | refine hK _ ?_ | refine ⟨_, fun _ _ => rfl, hK _ ?_⟩); clear hK K)
    | (refine Sch.tn_chk _ _ _ rfl rfl rfl rfl rfl ?_; simp only [Act.put, List.setIfInBounds_toArray, List.set_cons_zero, List.set_cons_succ])
    | (refine Sch.tn_load _ _ _ _ _ rfl rfl rfl rfl (by first | exact A1.out | exact A2.out) rfl ?_; simp only [Act.put, List.setIfInBounds_toArray, List.set_cons_zero, List.set_cons_succ]))
  generalize hav : (if c = r then a else Option.map (fun x => x.add (r * 2)) a) = av
  refine Sch.tn_n ?_
  have HAv := Lib.hid hav
  clear hav
  go_wp2_with fail
  go_ret
  refine ⟨av, c - r, by rw [List.length_drop]; rfl, ?_, HB.out⟩
  rw [← HAv.out]
  by_cases hlt : r < L.length
  · rw [if_neg (by omega)]
    rcases HX.out with rfl | ⟨b, o, rfl, hh⟩
    · simp at hlt
    · rw [show Option.map (fun x => x.add (r * 2)) (some (⟨b, o, none⟩ : Addr)) = some ⟨b, o + r * 2, none⟩ by simp [addr_add]]
      exact RowP.drop HX.out r hr
  · exact .inl (List.drop_eq_nil_of_le (by omega))
end Go.Proofs.Ytmmcnpcijeahcaa.J
