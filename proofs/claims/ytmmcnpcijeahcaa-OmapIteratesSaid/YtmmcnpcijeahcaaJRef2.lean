/-
  The reference's map: Ceil, Floor, From.
-/
import Derived.Test.YtmmcnpcijeahcaaJRef
namespace Go.Proofs.Ytmmcnpcijeahcaa.J
set_option linter.unusedVariables false
open Go.RowKit V Go.Shelf
attribute [local irreducible] Sch.heldN Sch.stepV Sch.stepE

/-- Block b holds a pair, and nothing else. -/
def Pb (w : World) (b : Nat) (x : Pr) : Prop := w.heap[b]? = some (.cells #[.int .i64 x.1, .string x.2] E (0, 0))
section
variable {w w' : World} {b : Nat} {x : Pr}
theorem Pb.lt (h : Pb w b x) : b < w.heap.size := (Array.getElem?_eq_some_iff.1 h).1
theorem Pb.c0 (h : Pb w b x) : w.cell? ⟨b, 0, none⟩ = some (.int .i64 x.1) := by unfold Pb at h; simp [World.cell?, h]
theorem Pb.c1 (h : Pb w b x) : w.cell? ⟨b, 1, none⟩ = some (.string x.2) := by unfold Pb at h; simp [World.cell?, h]
theorem Pb.free (h : Pb w b x) (o : Nat) : w.frozen? ⟨b, o, none⟩ = false := by unfold Pb at h; simp [World.frozen?, h]
theorem Pb.keep (h : Pb w b x) (hb : Below w.heap.size w w') : Pb w' b x := (hb.block b h.lt).trans h
theorem Pb.gb {g : Option Nat} (h : Pb w b x) (hg : w.grownBy w' g) (hne : some b ≠ g) : Pb w' b x := (hg.block b h.lt hne).trans h
theorem Pb.put (h : Pb w b x) (y : Pr) : Pb ((w.setCell ⟨b, 0, none⟩ (.int .i64 y.1)).setCell ⟨b, 1, none⟩ (.string y.2)) b y := by
  unfold Pb at *
  simp [World.setCell, Array.getElem?_modify, h]
end
theorem pb_new (w : World) (x : Pr) : Pb (w.alloc (.cells #[.int .i64 x.1, .string x.2] E)) w.heap.size x := by
  show (w.heap.push _)[w.heap.size]? = _
  simp
theorem gb_put2 (w : World) (b : Nat) (u v : Value) : w.grownBy ((w.setCell ⟨b, 0, none⟩ u).setCell ⟨b, 1, none⟩ v) (some b) := gb_trans (gb_setCell _ _ _ _) (gb_setCell _ _ _ _)
theorem Rb.gb {w w' : World} {B n c g : Nat} {d : Bool} {a : Option Addr} (h : Rb w B d a n c) (hg : w.grownBy w' (some g)) (hne : B ≠ g) : Rb w' B d a n c := by
  have e := hg.block B (lt_of_cell h.1) (by simpa using hne)
  exact ⟨(World.cell?_of_block (w := w) e).trans h.1, (World.cell?_of_block (w := w) e).trans h.2⟩
/-- Two boxes are made: the map's, the result's. -/
theorem two_new (w : World) (d : Bool) (a : Option Addr) (n c : Nat) :
    Rb ((w.alloc (.cells #[.bool d, .slice a n c] 29)).alloc (.cells #[.int .i64 0, .string ⟨#[]⟩] E)) w.heap.size d a n c ∧ Pb ((w.alloc (.cells #[.bool d, .slice a n c] 29)).alloc (.cells #[.int .i64 0, .string ⟨#[]⟩] E)) (w.heap.size + 1) (0, ⟨#[]⟩) ∧ Below w.heap.size w ((w.alloc (.cells #[.bool d, .slice a n c] 29)).alloc (.cells #[.int .i64 0, .string ⟨#[]⟩] E)) := by
  have h := pb_new (w.alloc (.cells #[.bool d, .slice a n c] 29)) (0, ⟨#[]⟩)
  rw [show (w.alloc (.cells #[.bool d, .slice a n c] 29)).heap.size = w.heap.size + 1 by simp] at h
  exact ⟨⟨by go_simp, by go_simp⟩, h, (bel_box _ _).alloc (by simp) _⟩
theorem ret_pair {fid : Func} {w : World} {b : Nat} {x : Pr} {bb : Bool} (hf : fid.results = #[.cell 4 E, .tmp 5]) (h : Pb w b x) {tmps : Array Value} (h4 : tmps.getD 4 undef = .pointer (some ⟨b, 0, none⟩)) (h5 : tmps.getD 5 undef = .bool bb) :
    (results fid tmps).run Try.prog w = .ok (.tuple #[pv x, .bool bb]) w := by
  have k0 := h.c0
  have k1 := h.c1
  rw [results_cell_tmp (p := 4) (u := 5) (ty := E) hf, h4, h5]
  go_simp

set_option maxRecDepth 100000 in
set_option maxHeartbeats 1000000 in
theorem ceil_ref (d : Bool) (L : List Pr) (a : Option Addr) (c : Nat) (k : Int) (w : World) (hx : RowP w a L) (hl : L.length ≤ 1000000) :
    Calls Try.prog 47 #[mv d a L.length c, .int .i64 k] w fun e w' => e = .returned (.tuple #[pv (pk (atL L (rank d L k : Nat))), .bool (atL L (rank d L k : Nat)).isSome]) ∧ Below w.heap.size w w' := by
  obtain ⟨hr, hp, hb⟩ := two_new w d a L.length c
  have HR := Lib.hid hr
  have HP := Lib.hid hp
  have HB := Lib.hid hb
  have HX := Lib.hid (hx.keep hb)
  have HC1 := Lib.hid (fun w' (h : RowP w' a L) => rank_ref d L a c k w' h hl)
  have HC2 := Lib.hid (fun w' (h : RowP w' a L) => at_ref d L a c (rank d L k : Nat) w' h hl)
  clear hr hp hb hx
  generalize atL L (rank d L k : Nat) = F at *
  generalize pk F = p at *
  generalize F.isSome = bb at *
  generalize rank d L k = r at *
  obtain ⟨p0, p1⟩ := p
  go_enter Try.func47, Try.ntmps47
  go_wp2_with fail
  generalize (w.alloc (.cells #[.bool d, .slice a L.length c] 29)).alloc (.cells #[.int .i64 0, .string ⟨#[]⟩] E) = w1 at *
  have hb0 : Below w1.heap.size w1 w1.drew := (Below.refl _ _).drew
  replace HX := Lib.hid (HX.out.keep hb0)
  replace HR := Lib.hid (HR.out.keep hb0)
  replace HP := Lib.hid (HP.out.keep hb0)
  replace HB := Lib.hid (bel_tr HB.out hb0)
  clear hb0
  have A1 := Lib.hid (fun w' (h : Rb w' w.heap.size d a L.length c) => load_map (w := w') h)
  refine Sch.wp_region_tn (fun w' => Rb w' w.heap.size d a L.length c) (.val 0 (.val 1 (.val 2 (.one 3 (.one 4 (.val 5 (.val 6 (.one 7 (.val 8 .done))))))))) (by kernel_rfl) (by kernel_rfl) HR.out ?_
  repeat (first
    | (refine Sch.tn_q rfl rfl rfl (fun K hK => ?_); go_big_quiet_op; (first | refine hK _ ?_ | refine ⟨_, fun _ _ => rfl, hK _ ?_⟩); clear hK K)
    | (refine Sch.tn_chk _ _ _ rfl rfl rfl rfl rfl ?_; simp only [Act.put, List.setIfInBounds_toArray, List.set_cons_zero, List.set_cons_succ])
    | (refine Sch.tn_load _ _ _ _ _ rfl rfl rfl rfl (by first | exact A1.out) rfl ?_; simp only [Act.put, List.setIfInBounds_toArray, List.set_cons_zero, List.set_cons_succ]))
  generalize w1.drew = w2 at *
  refine Sch.tn_e rfl rfl (fun K hK => ?_)
  go_wp2_with fail
  refine (HC1.out _ HX.out).mono ?_
  rintro e w3 ⟨rfl, hb⟩
  replace HX := Lib.hid (HX.out.keep hb)
  replace HR := Lib.hid (HR.out.keep hb)
  replace HP := Lib.hid (HP.out.keep hb)
  replace HB := Lib.hid (bel_tr HB.out hb)
  clear hb
  refine hK _ _ HR.out ?_
  clear hK K
  refine Sch.tn_e rfl rfl (fun K hK => ?_)
  go_wp2_with fail
  refine (HC2.out _ HX.out).mono ?_
  rintro e w4 ⟨rfl, hb⟩
  replace HX := Lib.hid (HX.out.keep hb)
  replace HR := Lib.hid (HR.out.keep hb)
  replace HP := Lib.hid (HP.out.keep hb)
  replace HB := Lib.hid (bel_tr HB.out hb)
  clear hb
  refine hK _ _ HR.out ?_
  clear hK K
  repeat (first
    | (refine Sch.tn_q rfl rfl rfl (fun K hK => ?_); go_big_quiet_op; (first | refine hK _ ?_ | refine ⟨_, fun _ _ => rfl, hK _ ?_⟩); clear hK K)
    | (refine Sch.tn_chk _ _ _ rfl rfl rfl rfl rfl ?_; simp only [Act.put, List.setIfInBounds_toArray, List.set_cons_zero, List.set_cons_succ]))
  have j0 := HP.out.c0
  have j1 := HP.out.c1
  have f0 := HP.out.free 0
  have f1 := HP.out.free 1
  simp only at j0 j1
  refine Sch.tn_e rfl rfl (fun K hK => ?_)
  go_wp2_with fail
  refine hK _ _ (HR.out.gb (gb_put2 _ _ _ _) (by omega)) ?_
  clear hK K
  repeat (first
    | (refine Sch.tn_q rfl rfl rfl (fun K hK => ?_); go_big_quiet_op; (first | refine hK _ ?_ | refine ⟨_, fun _ _ => rfl, hK _ ?_⟩); clear hK K)
    | (refine Sch.tn_chk _ _ _ rfl rfl rfl rfl rfl ?_; simp only [Act.put, List.setIfInBounds_toArray, List.set_cons_zero, List.set_cons_succ]))
  refine Sch.tn_n ?_
  go_wp2_with fail
  (try simp only [Exit.inBlock, Exit.then])
  refine bodyPost_ret (v := .tuple #[pv (p0, p1), .bool bb]) (ret_pair rfl (HP.out.put (p0, p1)) rfl rfl) rfl ?_
  exact ⟨rfl, below_gb HB.out (gb_put2 _ _ _ _) HB.out.size (by omega)⟩

/-- The last pair that does not come after a key. -/
theorem floor_at {d : Bool} {L : List Pr} {k : Int} (hs : Srt d L) {i : Nat} (hi : i < L.length) (h : bef d k L[i].1 = false) (hall : ∀ j (hj : j < L.length), i < j → bef d k L[j].1 = true) : floorR d L k = some L[i] := by
  have hlt : ∀ j (hj : j < L.length), j < i → bef d L[j].1 L[i].1 = true := fun j hj hji => List.pairwise_iff_getElem.1 hs j i hj hi hji
  by_cases he : L[i].1 = k
  · have hf : find d L k = some L[i] := by
      subst he
      unfold find
      rw [rank_self hs hi, List.getElem?_eq_getElem hi]
      simp
    unfold floorR
    rw [hf]
  · have hik : bef d L[i].1 k = true := by
      rw [bef_iff]
      have h' : ¬ bef d k L[i].1 = true := by rw [h]; simp
      rw [bef_iff] at h'
      cases d <;> simp at h' ⊢ <;> omega
    have hr : rank d L k = i + 1 := by
      refine rank_eq (by omega) (fun j hj hji => ?_) (fun hj => ?_)
      · rcases Nat.lt_or_ge j i with h2 | h2
        · have h3 := hlt j hj h2
          rw [bef_iff] at h3 hik ⊢
          cases d <;> simp at h3 hik ⊢ <;> omega
        · have : j = i := by omega
          subst this
          exact hik
      · have h2 := hall (i + 1) hj (by omega)
        cases hb : bef d L[i + 1].1 k
        · rfl
        · rw [bef_iff] at h2 hb
          cases d <;> simp at h2 hb <;> omega
    have hf : find d L k = none := by
      unfold find
      rw [hr]
      rcases Nat.lt_or_ge (i + 1) L.length with h2 | h2
      · rw [List.getElem?_eq_getElem h2]
        have h3 := hall (i + 1) h2 (by omega)
        have : ¬ L[i + 1].1 = k := fun e => by rw [e, bef_irr] at h3; cases h3
        simp [this]
      · rw [List.getElem?_eq_none (by omega)]
    unfold floorR
    rw [hf, hr]
    simp only
    unfold atL
    rw [if_neg (by omega), show (((i + 1 : Nat) : Int) - 1).toNat = i by omega, List.getElem?_eq_getElem hi]
theorem floor_none {d : Bool} {L : List Pr} {k : Int} (hall : ∀ j (hj : j < L.length), bef d k L[j].1 = true) : floorR d L k = none := by
  have hr : rank d L k = 0 := by
    refine rank_eq (by omega) (fun j hj hji => by omega) (fun hj => ?_)
    have h2 := hall 0 hj
    cases hb : bef d L[0].1 k
    · rfl
    · rw [bef_iff] at h2 hb
      cases d <;> simp at h2 hb <;> omega
  have hf : find d L k = none := by
    unfold find
    rw [hr]
    rcases Nat.lt_or_ge 0 L.length with h2 | h2
    · rw [List.getElem?_eq_getElem h2]
      have h3 := hall 0 h2
      have : ¬ L[0].1 = k := fun e => by rw [e, bef_irr] at h3; cases h3
      simp [this]
    · rw [List.getElem?_eq_none (by omega)]
  unfold floorR
  rw [hf, hr]
  rfl
end Go.Proofs.Ytmmcnpcijeahcaa.J
