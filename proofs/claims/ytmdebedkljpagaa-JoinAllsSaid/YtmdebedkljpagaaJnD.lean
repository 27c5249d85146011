/-
  Layer 14's reference: whether two states agree.
-/
import Derived.Test.YtmdebedkljpagaaJnC
namespace Go.Proofs.Ytmdebedkljpagaa.Jn
set_option linter.unusedVariables false
open Go.RowKit V Go.Sort D Nd Qs
attribute [local irreducible] Sch.heldN Sch.stepV Sch.stepE

theorem idx_eq {l : List Nt} {d : Dt} : (idxS l d = -1 ∧ atS l d = none) ∨ ∃ k, ∃ hk : k < l.length, idxS l d = (k : Int) ∧ atS l d = some l[k] := by
  by_cases h : ∃ k, ∃ hk : k < l.length, l[k].1 = d ∧ ∀ j (hj : j < l.length), j < k → l[j].1 ≠ d
  · obtain ⟨k, hk, e, hn⟩ := h
    obtain ⟨h1, h2⟩ := idx_hit hk hn e
    exact .inr ⟨k, hk, h1, h2⟩
  · have hn : ∀ j (hj : j < l.length), l[j].1 ≠ d := by
      intro j
      induction j using Nat.strongRecOn with
      | ind j ih => exact fun hj e => h ⟨j, hj, e, fun i hi hij => ih i hij hi⟩
    obtain ⟨h1, h2⟩ := idx_none hn
    exact .inl ⟨h1, h2⟩
/-- What one node says of a state. -/
def okS (b : List Nt) (x : Nt) : Bool := match atS b x.1 with | none => true | some y => agreeN x y
theorem agS_def (a b : List Nt) : agS a b = a.all (okS b) := rfl
/-- Two nodes of two rows. -/
def Vab (b1 o1 b2 o2 : Nat) (n m : Nt) (w : World) : Prop := Na w b1 o1 n ∧ Na w b2 o2 m
section
variable {b1 o1 b2 o2 : Nat} {n m : Nt}
theorem Vab.keep {w w' : World} (h : Vab b1 o1 b2 o2 n m w) (hb : Below w.heap.size w w') : Vab b1 o1 b2 o2 n m w' := ⟨h.1.keep hb, h.2.keep hb⟩
theorem Vab.ln : ∀ w, Vab b1 o1 b2 o2 n m w → (Instr.loadAt 44 (.pointer (some ⟨b1, o1, none⟩))).run Try.prog w = .ok (nv n) w := fun w k => k.1.load
theorem Vab.lm : ∀ w, Vab b1 o1 b2 o2 n m w → (Instr.loadAt 44 (.pointer (some ⟨b2, o2, none⟩))).run Try.prog w = .ok (nv m) w := fun w k => k.2.load
theorem na_gb {w w' : World} {b o r : Nat} {n : Nt} (h : Na w b o n) (hg : w.grownBy w' (some r)) (hne : b ≠ r) : Na w' b o n := by
  have e : w'.heap[b]? = w.heap[b]? := hg.block b (lt_of_cell h.1) (by simpa using hne)
  obtain ⟨h0, h1, h2, h3, h4, h5⟩ := h
  exact ⟨(World.cell?_of_block (a := ⟨b, _, none⟩) e).trans h0, (World.cell?_of_block (a := ⟨b, _, none⟩) e).trans h1, (World.cell?_of_block (a := ⟨b, _, none⟩) e).trans h2, (World.cell?_of_block (a := ⟨b, _, none⟩) e).trans h3, (World.cell?_of_block (a := ⟨b, _, none⟩) e).trans h4, (World.cell?_of_block (a := ⟨b, _, none⟩) e).trans h5⟩
theorem gb_putN (w : World) (g : Nat) (n : Nt) : w.grownBy (Nd.putN w g n) (some g) :=
  gb_trans (gb_trans (gb_trans (gb_trans (gb_trans (gb_setCell _ _ _ _) (gb_setCell _ _ _ _)) (gb_setCell _ _ _ _)) (gb_setCell _ _ _ _)) (gb_setCell _ _ _ _)) (gb_setCell _ _ _ _)
theorem Vab.put {w : World} {g : Nat} (h : Vab b1 o1 b2 o2 n m w) (h1 : b1 < g) (h2 : b2 < g) (x : Nt) : Vab b1 o1 b2 o2 n m (Nd.putN w g x) := ⟨na_gb h.1 (gb_putN w g x) (by omega), na_gb h.2 (gb_putN w g x) (by omega)⟩
theorem Vab.lt {w : World} (h : Vab b1 o1 b2 o2 n m w) : b1 < w.heap.size ∧ b2 < w.heap.size := ⟨lt_of_cell h.1.1, lt_of_cell h.2.1⟩
end
set_option maxRecDepth 100000 in
set_option maxHeartbeats 4000000 in
theorem agree_ref (xs ys : List Nt) (a b : Option Addr) (c d : Nat) (w : World) (hx : RowN w a xs) (hy : RowN w b ys) (hlx : xs.length ≤ 1000000) (hly : ys.length ≤ 1000000) :
    Calls Try.prog 18 #[.slice a xs.length c, .slice b ys.length d] w fun e w' => e = .returned (.bool (agS xs ys)) ∧ Below w.heap.size w w' := by
  have HX := Lib.hid hx
  have HY := Lib.hid hy
  have HLy := Lib.hid hly
  have hli : (xs.length : Int) ≤ 1000000 := by omega
  have HF := Lib.hid (fun n w h => find_ref ys n b d w h hly)
  clear hx hy hlx hly
  go_enter Try.func18, Try.ntmps18
  go_wp2_with fail
  go_loopw [5, 6, 7, 8] (fun i _ _ _ wr => ∃ k : Nat, k ≤ xs.length ∧ i = .int .i64 (k : Int) ∧ Hid (Below w.heap.size w wr) ∧ Hid (∀ j (hj : j < xs.length), j < k → okS ys xs[j] = true)) (fun i _ _ _ _ => xs.length - (intOf i).toNat)
  case atStart => exact ⟨0, Nat.zero_le _, rfl, Below.refl _ _, fun j _ h => by omega⟩
  case round =>
    obtain ⟨k, hk, rfl, hh, HV⟩ := hrel
    by_cases hlt : k < xs.length
    · have hi0 : (k : Int) < (xs.length : Int) := by omega
      obtain ⟨b1, o1, rfl, hna⟩ := na_of (HX.out.keep hh.out) k hlt
      have HYr := Lib.hid (HY.out.keep hh.out)
      have hix := ixS b1 o1 xs.length c k (k : Int) rfl hlt
      have HNo : Hid (okS ys xs[k] = false → agS xs ys = false) := fun h => by
        rw [agS_def, ← Bool.not_eq_true, List.all_eq_true]
        intro h2
        rw [h2 _ (List.getElem_mem hlt)] at h
        cases h
      have HYs : Hid (okS ys xs[k] = true → ∀ j (hj : j < xs.length), j < k + 1 → okS ys xs[j] = true) := fun h j hj hjk => by
        by_cases hjk2 : j = k
        · subst hjk2; exact h
        · exact HV.out j hj (by omega)
      obtain ⟨q, hq⟩ : ∃ q, q = xs[k] := ⟨_, rfl⟩
      rw [← hq] at hna HNo HYs
      clear hq
      have HN := Lib.hid hna
      have HFq := Lib.hid (HF.out q.1)
      have HIx := Lib.hid (idx_eq (l := ys) (d := q.1))
      obtain ⟨n0, n1, -⟩ := hna
      generalize hR : idxS ys q.1 = r at *
      clear hR
      have HQ2 : Hid (okS ys q = match atS ys q.1 with | none => true | some y => agreeN q y) := rfl
      go_wp2_with fail
      refine (HFq.out _ HYr.out).mono ?_
      rintro e w2 ⟨rfl, hb⟩
      have hh2 := bel_tr hh hb
      have HN2 := Lib.hid (HN.out.keep hb)
      have HY2 := Lib.hid (HYr.out.keep hb)
      clear hb HFq n0 n1 HN HYr
      rcases HIx.out with ⟨rfl, hat⟩ | ⟨k2, hk2, rfl, hat⟩
      · rw [hat] at HQ2
        go_wp2_with fail
        go_roundw
        case rel => exact ⟨k + 1, by omega, by go_num, hh2, HYs.out HQ2.out⟩
        case measure => simp [intOf]; omega
      · rw [hat] at HQ2
        have h0 : (0 : Int) ≤ (k2 : Int) := by omega
        obtain ⟨b2, o2, rfl, hnb⟩ := na_of HY2.out k2 hk2
        have hix2 := ixS b2 o2 ys.length d k2 (k2 : Int) rfl hk2
        obtain ⟨p, hp⟩ : ∃ p, p = ys[k2] := ⟨_, rfl⟩
        rw [← hp] at hnb HQ2
        have HQ3 : Hid (okS ys q = agreeN q p) := HQ2.out
        clear hp hat HIx HQ2
        have HM := Lib.hid (fun w => merge_ref q p w)
        generalize mrgR q p = M at *
        generalize agreeN q p = ag at *
        have HK : Hid (Vab b1 (o1 + k * 6) b2 (o2 + k2 * 6) q p w2.drew) := ⟨HN2.out.keep (Below.refl _ _).drew, hnb.keep (Below.refl _ _).drew⟩
        have HB0 : Hid (Below w.heap.size w w2.drew) := hh2.out.drew
        clear hnb HN2 HY2
        go_wp2_with fail
        refine Sch.wp_region_tn (Vab b1 (o1 + k * 6) b2 (o2 + k2 * 6) q p) (.val 0 (.val 1 (.val 2 (.val 3 (.val 4 (.val 5 (.val 6 (.val 7 (.two 8 (.val 9 (.val 10 (.val 11 (.one 12 (.one 13 (.val 14 .done)))))) 12 (.one 8 (.val 9 (.val 10 (.val 11 (.one 13 (.val 14 .done))))))))))))))) (by kernel_rfl) (by kernel_rfl) HK.out ?_
        repeat (first
          | (refine Sch.tn_q rfl rfl rfl (fun K hK => ?_); go_big_quiet_op; (first | refine hK _ ?_ | refine ⟨_, fun _ _ => rfl, hK _ ?_⟩); clear hK K)
          | (refine Sch.tn_chk _ _ _ rfl rfl rfl rfl rfl ?_; simp only [Act.put, List.setIfInBounds_toArray, List.set_cons_zero, List.set_cons_succ])
          | (refine Sch.tn_load _ _ _ _ _ rfl rfl rfl rfl (by first | exact Vab.ln | exact Vab.lm) rfl ?_; simp only [Act.put, List.setIfInBounds_toArray, List.set_cons_zero, List.set_cons_succ]))
        generalize w2.drew = w3 at *
        refine Sch.tn_two ?_ ?_
        · skip
          refine Sch.tn_e rfl rfl (fun K hK => ?_)
          go_wp2_with fail
          refine (HM.out _).mono ?_
          rintro e w4 ⟨rfl, hb⟩
          have HB4 := bel_tr HB0 hb
          have HK4 := Lib.hid (HK.out.keep hb)
          clear hb
          refine hK _ _ HK4.out ?_
          clear hK K
          repeat (first
            | (refine Sch.tn_q rfl rfl rfl (fun K hK => ?_); go_big_quiet_op; (first | refine hK _ ?_ | refine ⟨_, fun _ _ => rfl, hK _ ?_⟩); clear hK K)
            | (refine Sch.tn_chk _ _ _ rfl rfl rfl rfl rfl ?_; simp only [Act.put, List.setIfInBounds_toArray, List.set_cons_zero, List.set_cons_succ])
            | (refine Sch.tn_load _ _ _ _ _ rfl rfl rfl rfl (by first | exact Vab.ln | exact Vab.lm) rfl ?_; simp only [Act.put, List.setIfInBounds_toArray, List.set_cons_zero, List.set_cons_succ]))
          have hz := Zb.new w4
          have hb := bel_box w4 (.cells #[.int .i64 0, .int .i64 0, .int .i64 0, .int .i64 0, .int .i64 0, .int .i32 0] 44)
          have HB5 := bel_tr HB4 hb
          have HK5 := Lib.hid (HK4.out.keep hb)
          have HLt : Hid (b1 < w4.heap.size ∧ b2 < w4.heap.size) := HK4.out.lt
          have HGe : Hid (w.heap.size ≤ w4.heap.size) := HB4.out.size
          refine Sch.tn_e rfl rfl (fun K hK => ?_)
          go_wp2_with fail
          refine hK _ (w4.alloc (.cells #[.int .i64 0, .int .i64 0, .int .i64 0, .int .i64 0, .int .i64 0, .int .i32 0] 44)) HK5.out ?_
          clear hK K hb
          have HZ5 := Lib.hid hz
          clear hz
          generalize w4.alloc (.cells #[.int .i64 0, .int .i64 0, .int .i64 0, .int .i64 0, .int .i64 0, .int .i32 0] 44) = w5 at *
          generalize w4.heap.size = g at *
          obtain ⟨⟨z0, z1, z2, z3, z4, z5⟩, hf⟩ := HZ5.out
          have f0 := hf 0
          have f1 := hf 1
          have f2 := hf 2
          have f3 := hf 3
          have f4 := hf 4
          have f5 := hf 5
          clear hf
          refine Sch.tn_e rfl rfl (fun K hK => ?_)
          go_wp2_with fail
          refine hK _ (Nd.putN w5 g M) (HK5.out.put HLt.out.1 HLt.out.2 M) ?_
          clear hK K z0 z1 z2 z3 z4 z5 f0 f1 f2 f3 f4 f5
          have HB9 := Lib.hid (Nd.putN_below HB5.out HGe.out M)
          generalize Nd.putN w5 g M = w9 at *
          repeat (first
            | (refine Sch.tn_q rfl rfl rfl (fun K hK => ?_); go_big_quiet_op; (first | refine hK _ ?_ | refine ⟨_, fun _ _ => rfl, hK _ ?_⟩); clear hK K)
            | (refine Sch.tn_chk _ _ _ rfl rfl rfl rfl rfl ?_; simp only [Act.put, List.setIfInBounds_toArray, List.set_cons_zero, List.set_cons_succ])
            | (refine Sch.tn_load _ _ _ _ _ rfl rfl rfl rfl (by first | exact Vab.ln | exact Vab.lm) rfl ?_; simp only [Act.put, List.setIfInBounds_toArray, List.set_cons_zero, List.set_cons_succ]))
          refine Sch.tn_n ?_
          rcases ag with _ | _
          · go_wp2_with fail
            go_ret
            exact ⟨by rw [HNo.out HQ3.out]; rfl, HB9.out⟩
          · go_wp2_with fail
            go_roundw
            case rel => exact ⟨k + 1, by omega, by go_num, HB9, HYs.out HQ3.out⟩
            case measure => simp [intOf]; omega
        · have HB3 := HB0
          have HK3 := HK
          have hz := Zb.new w3
          have hb := bel_box w3 (.cells #[.int .i64 0, .int .i64 0, .int .i64 0, .int .i64 0, .int .i64 0, .int .i32 0] 44)
          have HB4 := bel_tr HB3 hb
          have HK4 := Lib.hid (HK3.out.keep hb)
          have HLt : Hid (b1 < w3.heap.size ∧ b2 < w3.heap.size) := HK3.out.lt
          have HGe : Hid (w.heap.size ≤ w3.heap.size) := HB3.out.size
          refine Sch.tn_e rfl rfl (fun K hK => ?_)
          go_wp2_with fail
          refine hK _ (w3.alloc (.cells #[.int .i64 0, .int .i64 0, .int .i64 0, .int .i64 0, .int .i64 0, .int .i32 0] 44)) HK4.out ?_
          clear hK K hb
          have HZ4 := Lib.hid hz
          clear hz
          generalize w3.alloc (.cells #[.int .i64 0, .int .i64 0, .int .i64 0, .int .i64 0, .int .i64 0, .int .i32 0] 44) = w4 at *
          generalize w3.heap.size = g at *
          refine Sch.tn_e rfl rfl (fun K hK => ?_)
          go_wp2_with fail
          refine (HM.out _).mono ?_
          rintro e w5 ⟨rfl, hb⟩
          have HB5 := bel_tr HB4 hb
          have HK5 := Lib.hid (HK4.out.keep hb)
          have HZ5 := Lib.hid (HZ4.out.keep hb)
          clear hb
          refine hK _ _ HK5.out ?_
          clear hK K
          repeat (first
            | (refine Sch.tn_q rfl rfl rfl (fun K hK => ?_); go_big_quiet_op; (first | refine hK _ ?_ | refine ⟨_, fun _ _ => rfl, hK _ ?_⟩); clear hK K)
            | (refine Sch.tn_chk _ _ _ rfl rfl rfl rfl rfl ?_; simp only [Act.put, List.setIfInBounds_toArray, List.set_cons_zero, List.set_cons_succ])
            | (refine Sch.tn_load _ _ _ _ _ rfl rfl rfl rfl (by first | exact Vab.ln | exact Vab.lm) rfl ?_; simp only [Act.put, List.setIfInBounds_toArray, List.set_cons_zero, List.set_cons_succ]))
          obtain ⟨⟨z0, z1, z2, z3, z4, z5⟩, hf⟩ := HZ5.out
          have f0 := hf 0
          have f1 := hf 1
          have f2 := hf 2
          have f3 := hf 3
          have f4 := hf 4
          have f5 := hf 5
          clear hf
          refine Sch.tn_e rfl rfl (fun K hK => ?_)
          go_wp2_with fail
          refine hK _ (Nd.putN w5 g M) (HK5.out.put HLt.out.1 HLt.out.2 M) ?_
          clear hK K z0 z1 z2 z3 z4 z5 f0 f1 f2 f3 f4 f5
          have HB9 := Lib.hid (Nd.putN_below HB5.out HGe.out M)
          generalize Nd.putN w5 g M = w9 at *
          repeat (first
            | (refine Sch.tn_q rfl rfl rfl (fun K hK => ?_); go_big_quiet_op; (first | refine hK _ ?_ | refine ⟨_, fun _ _ => rfl, hK _ ?_⟩); clear hK K)
            | (refine Sch.tn_chk _ _ _ rfl rfl rfl rfl rfl ?_; simp only [Act.put, List.setIfInBounds_toArray, List.set_cons_zero, List.set_cons_succ])
            | (refine Sch.tn_load _ _ _ _ _ rfl rfl rfl rfl (by first | exact Vab.ln | exact Vab.lm) rfl ?_; simp only [Act.put, List.setIfInBounds_toArray, List.set_cons_zero, List.set_cons_succ]))
          refine Sch.tn_n ?_
          rcases ag with _ | _
          · go_wp2_with fail
            go_ret
            exact ⟨by rw [HNo.out HQ3.out]; rfl, HB9.out⟩
          · go_wp2_with fail
            go_roundw
            case rel => exact ⟨k + 1, by omega, by go_num, HB9, HYs.out HQ3.out⟩
            case measure => simp [intOf]; omega
    · obtain rfl : k = xs.length := by omega
      have hend : ¬ (xs.length : Int) < (xs.length : Int) := by omega
      have HT : Hid (agS xs ys = true) := by
        show _ = _
        rw [agS_def, List.all_eq_true]
        intro x hx
        obtain ⟨j, hj, rfl⟩ := List.getElem_of_mem hx
        exact HV.out j hj hj
      go_wp2_with fail
      go_ret
      exact ⟨by rw [HT.out]; rfl, hh.out⟩
end Go.Proofs.Ytmdebedkljpagaa.Jn
