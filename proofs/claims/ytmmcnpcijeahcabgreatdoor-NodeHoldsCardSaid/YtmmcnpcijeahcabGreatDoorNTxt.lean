/-
  The program's Text.
-/
import Derived.Test.YtmmcnpcijeahcabGreatDoorNVal
import Derived.Test.YtmmcnpcijeahcabGreatDoorDParse
import Derived.Test.YtmmcnpcijeahcabGreatDoorRByName
namespace Go.Proofs.YtmmcnpcijeahcabGreatDoor.Nd
set_option linter.unusedVariables false
open Go.RowKit V Go.Sort D
attribute [local irreducible] Sch.heldN Sch.stepV Sch.stepE

/-- What the library's variables hold. -/
def Ln (w : World) : Prop := D.Ld w ∧ R.Ld w
theorem Ln.below {w w' : World} (h : Ln w) (hb : Below w.heap.size w w') : Ln w' := ⟨h.1.below hb, h.2.below hb⟩
theorem Nb.t {g : Nat} {n : Nt} : ∀ w, Nb w g n → (Instr.loadAt 3 (.pointer (some ⟨g, 4, none⟩))).run Tryz.prog w = .ok (.int .i64 n.2.2.1) w := fun w k => k.loadT
theorem Nb.n {g : Nat} {n : Nt} : ∀ w, Nb w g n → (Instr.loadAt 25 (.pointer (some ⟨g, 0, none⟩))).run Tryz.prog w = .ok (nv n) w := fun w k => k.load
def NbS (g : Nat) (n : Nt) (w : World) : Prop := Nb w g n

theorem txtR_named {d : Dt} (h : named d) : txtR d = (txtD d, 0) := by
  rcases h with h | h
  · exact txtR_valid h
  · rw [root_iff.1 h]; rfl
theorem txt_len {d : Dt} (h : named d) : (txtD d).length ≤ 39 := by
  rcases named_cases h with rfl | ⟨a, b, rfl, ha, hb, -, -, ht⟩
  · decide
  · rw [ht]
    have h1 := dig_len64 (n := a) (by omega)
    have h2 := dig_len64 (n := b) (by omega)
    simp only [List.length_append, List.length_cons, List.length_nil]
    omega
theorem rune_len {r : Int} (h : r = 0 ∨ R.vld r = true) : (runeT r).length ≤ 8 := by
  unfold runeT
  split
  · simp
  · rename_i h0
    rcases h with h | h
    · exact absurd h h0
    · obtain ⟨n, rfl, -, hn, -⟩ := vld_nat h
      exact (R.nm_len n hn).2
theorem txtN_len {n : Nt} (h : VN n) : (txtN n).length ≤ 200 := by
  obtain ⟨h1, h2, h3, h4, h5, h6⟩ := h
  have a := txt_len (.inl h1)
  have b := txt_len h2
  have c := rune_len h6
  have d := dig_len64 (n := n.2.2.1.toNat) (by omega)
  unfold txtN
  simp only [List.length_append, List.length_cons]
  omega

set_option maxRecDepth 100000 in
set_option maxHeartbeats 1000000 in
theorem rune_any (n : Nt) (h : n.2.2.2 = 0 ∨ R.vld n.2.2.2 = true) (w : World) (hL : Ln w) : Calls Tryz.prog 47 #[nv n] w fun e w' => e = .returned (.string ⟨(runeT n.2.2.2).toArray⟩) ∧ Below w.heap.size w w' := by
  have HL := Lib.hid hL
  have HK := Lib.hid (Nb.new w n)
  have HB := Lib.hid (bel_box w (.cells (nc n) 25))
  have HDe := Lib.hid (fun w => dead_any n w)
  clear hL
  rcases h with h | h
  · have hd : deadN n = true := by unfold deadN; rw [h]; rfl
    have hr : runeT n.2.2.2 = [45] := by rw [h]; rfl
    rw [hr]
    rw [hd] at HDe
    clear h hd hr
    go_enter Tryz.func47, Tryz.ntmps47
    go_wp2_with fail
    refine (HDe.out _).mono ?_
    rintro e w1 ⟨rfl, hl⟩
    replace HB := bel_tr HB hl.bel
    clear hl
    go_wp2_with fail
    go_ret
    exact ⟨rfl, HB.out⟩
  · obtain ⟨m, hm, hv, hm2, hm0⟩ := vld_nat h
    have hd : deadN n = false := by unfold deadN; rw [hm]; exact decide_eq_false (by omega)
    have hr : runeT n.2.2.2 = R.nm m := by unfold runeT; rw [hm, if_neg (by omega), Int.toNat_natCast]
    rw [hr]
    rw [hd] at HDe
    have HNm := Lib.hid (fun w hL => R.name_yes m hv w hL)
    rw [← hm] at HNm
    clear h hd hr hm hv hm2 hm0
    generalize (⟨(R.nm m).toArray⟩ : ByteArray) = M at *
    go_enter Tryz.func47, Tryz.ntmps47
    go_wp2_with fail
    generalize w.alloc (.cells (nc n) 25) = w0 at *
    refine (HDe.out _).mono ?_
    rintro e w1 ⟨rfl, hl⟩
    replace HK := Lib.hid (HK.out.keep hl.bel)
    replace HB := bel_tr HB hl.bel
    clear hl
    have k5 := HK.out.2.2.2.2.2
    go_wp2_with fail
    refine (HNm.out _ (HL.out.below HB.out).2).mono ?_
    rintro e w2 ⟨rfl, hb⟩
    replace HB := bel_tr HB hb
    clear hb k5
    go_wp2_with fail
    go_ret
    exact ⟨rfl, HB.out⟩

/-- What Text says. -/
def txtB (n : Nt) : List UInt8 × Int := if validN n = true then (txtN n, 0) else ([], 2)
theorem join4 (a b c d : List UInt8) : Lib.join ([(⟨a.toArray⟩ : ByteArray), ⟨b.toArray⟩, ⟨c.toArray⟩, ⟨d.toArray⟩].map (·.data.toList)) (⟨#[32]⟩ : ByteArray).data.toList = a ++ 32 :: (b ++ 32 :: (c ++ 32 :: d)) := by
  simp only [List.map_cons, List.map_nil]
  rw [Lib.join_cons]
  unfold Lib.joinTail
  simp
theorem str4 (w : World) (A B C D : ByteArray) : ∀ (j : Nat) x, [A, B, C, D][j]? = some x → (w.alloc (.cells #[.string A, .string B, .string C, .string D] 9)).cell? ⟨w.heap.size, 0 + j, none⟩ = some (.string x) := by
  intro j x h
  rcases j with _ | _ | _ | _ | j
  · cases h; go_simp
  · cases h; go_simp
  · cases h; go_simp
  · cases h; go_simp
  · simp at h

set_option maxRecDepth 100000 in
set_option maxHeartbeats 4000000 in
theorem textN_any (n : Nt) (w : World) (hL : Ln w) : Calls Tryz.prog 22 #[nv n] w fun e w' => e = .returned (.tuple #[.string ⟨(txtB n).1.toArray⟩, .int .i64 (txtB n).2]) ∧ Below w.heap.size w w' := by
  have HL := Lib.hid hL
  have HK := Lib.hid (Nb.new w n)
  have HB := Lib.hid (bel_box w (.cells (nc n) 25))
  have HVa := Lib.hid (fun w => validN_any n w)
  clear hL
  rcases hv : validN n with _ | _
  · rw [show txtB n = ([], 2) by unfold txtB; rw [hv]; rfl]
    rw [hv] at HVa
    clear hv
    go_enter Tryz.func22, Tryz.ntmps22
    go_wp2_with fail
    refine (HVa.out _).mono ?_
    rintro e w1 ⟨rfl, hb⟩
    replace HB := bel_tr HB hb
    clear hb
    go_wp2_with fail
    go_ret2
    exact ⟨rfl, HB.out⟩
  · rw [show txtB n = (txtN n, 0) by unfold txtB; rw [hv]; rfl]
    have hn := valid_vn.1 hv
    have HLe := Lib.hid (txtN_len hn)
    rw [hv] at HVa
    obtain ⟨h1, h2, h3, h4, h5, h6⟩ := hn
    have HT1 := Lib.hid (fun w hL => text_any n.1 w hL)
    rw [txtR_named (.inl h1)] at HT1
    have HT2 := Lib.hid (fun w hL => text_any n.2.1 w hL)
    rw [txtR_named h2] at HT2
    have HRn := Lib.hid (fun w hL => rune_any n h6 w hL)
    obtain ⟨a, ha⟩ : ∃ a : Nat, n.2.2.1 = (a : Int) := ⟨n.2.2.1.toNat, by omega⟩
    have HIt := Lib.hid (fun (wx : World) (h : Ln wx) => Tryz.strconv_Itoa n.2.2.1 (by omega) (by omega) wx h.1.1)
    rw [show Lib.itoa n.2.2.1 = Lib.decDigits a by rw [ha, Lib.itoa_nonneg]] at HIt
    have HE : Hid (txtN n = txtD n.1 ++ 32 :: (txtD n.2.1 ++ 32 :: (Lib.decDigits a ++ 32 :: runeT n.2.2.2))) := by show _ = _; unfold txtN; rw [ha, Int.toNat_natCast]
    clear hv h1 h2 h3 h4 h5 h6 ha
    generalize txtN n = T at *
    generalize txtD n.1 = A at *
    generalize txtD n.2.1 = P at *
    generalize Lib.decDigits a = D at *
    generalize runeT n.2.2.2 = Q at *
    clear a
    go_enter Tryz.func22, Tryz.ntmps22
    go_wp2_with fail
    generalize w.alloc (.cells (nc n) 25) = w0 at *
    refine (HVa.out _).mono ?_
    rintro e w1 ⟨rfl, hb⟩
    replace HK := Lib.hid (HK.out.keep hb)
    replace HB := bel_tr HB hb
    clear hb
    obtain ⟨k0, k1, k2, k3, k4, k5⟩ := HK.out
    go_wp2_with fail
    refine (HT1.out _ (HL.out.below HB.out).1).mono ?_
    rintro e w2 ⟨rfl, hb⟩
    replace HK := Lib.hid (HK.out.keep hb)
    replace HB := bel_tr HB hb
    clear hb k0 k1 k2 k3 k4 k5
    obtain ⟨k0, k1, k2, k3, k4, k5⟩ := HK.out
    go_wp2_with fail
    refine (HT2.out _ (HL.out.below HB.out).1).mono ?_
    rintro e w3 ⟨rfl, hb⟩
    replace HK := Lib.hid (HK.out.keep hb)
    replace HB := bel_tr HB hb
    clear hb k0 k1 k2 k3 k4 k5
    go_wp2_with fail
    replace HK := Lib.hid (HK.out.keep ((Below.refl w3.heap.size w3).drew))
    replace HB := Lib.hid HB.out.drew
    refine Sch.wp_region_tn (NbS w.heap.size n) (.val 0 (.val 1 (.val 2 (.val 3 (.val 5 (.one 4 (.one 6 (.one 7 (.one 8 (.val 9 (.val 10 .done))))))))))) (by kernel_rfl) (by kernel_rfl) HK.out ?_
    repeat (first
      | (refine Sch.tn_q rfl rfl rfl (fun K hK => ?_); go_big_quiet_op; (first | refine hK _ ?_ | refine ⟨_, fun _ _ => rfl, hK _ ?_⟩); clear hK K)
      | (refine Sch.tn_chk _ _ _ rfl rfl rfl rfl rfl ?_; simp only [Act.put, List.setIfInBounds_toArray, List.set_cons_zero, List.set_cons_succ])
      | (refine Sch.tn_load _ _ _ _ _ rfl rfl rfl rfl (by first | exact Nb.t | exact Nb.n) rfl ?_; simp only [Act.put, List.setIfInBounds_toArray, List.set_cons_zero, List.set_cons_succ]))
    generalize w3.drew = w4 at *
    refine Sch.tn_e rfl rfl (fun K hK => ?_)
    go_wp2_with fail
    refine (HIt.out _ (HL.out.below HB.out)).mono ?_
    rintro e w5 ⟨rfl, hl⟩
    have hb := Lays.bel hl
    replace HK := Lib.hid (HK.out.keep hb)
    replace HB := bel_tr HB hb
    clear hl hb
    refine hK _ _ HK.out ?_
    clear hK K
    refine Sch.tn_e rfl rfl (fun K hK => ?_)
    go_wp2_with fail
    refine (HRn.out _ (HL.out.below HB.out)).mono ?_
    rintro e w6 ⟨rfl, hb⟩
    replace HK := Lib.hid (HK.out.keep hb)
    replace HB := bel_tr HB hb
    clear hb
    refine hK _ _ HK.out ?_
    clear hK K
    have HJ : Hid (Calls Tryz.prog 45 #[.slice (some ⟨w6.heap.size, 0, none⟩) 4 4, .string ⟨#[32]⟩] (w6.alloc (.cells #[.string ⟨A.toArray⟩, .string ⟨P.toArray⟩, .string ⟨D.toArray⟩, .string ⟨Q.toArray⟩] 9)) fun e w' => e = .returned (.string ⟨T.toArray⟩) ∧ Below (w6.alloc (.cells #[.string ⟨A.toArray⟩, .string ⟨P.toArray⟩, .string ⟨D.toArray⟩, .string ⟨Q.toArray⟩] 9)).heap.size (w6.alloc (.cells #[.string ⟨A.toArray⟩, .string ⟨P.toArray⟩, .string ⟨D.toArray⟩, .string ⟨Q.toArray⟩] 9)) w') := by
      have h := Tryz.strings_Join w6.heap.size 0 4 [⟨A.toArray⟩, ⟨P.toArray⟩, ⟨D.toArray⟩, ⟨Q.toArray⟩] ⟨#[32]⟩ _ (str4 w6 ⟨A.toArray⟩ ⟨P.toArray⟩ ⟨D.toArray⟩ ⟨Q.toArray⟩) (by simp) (by simp) (by simp) (by rw [join4, ← HE.out]; have := HLe.out; omega)
      rw [join4, ← HE.out] at h
      exact h
    clear HE HLe
    refine Sch.tn_e rfl rfl (fun K hK => ?_)
    go_wp2_with fail
    have hb := bel_box w6 (.cells #[.string ⟨A.toArray⟩, .string ⟨P.toArray⟩, .string ⟨D.toArray⟩, .string ⟨Q.toArray⟩] 9)
    replace HK := Lib.hid (HK.out.keep hb)
    replace HB := bel_tr HB hb
    clear hb
    refine hK _ _ HK.out ?_
    clear hK K
    refine Sch.tn_e rfl rfl (fun K hK => ?_)
    go_wp2_with fail
    refine HJ.out.mono ?_
    rintro e w7 ⟨rfl, hb⟩
    replace HK := Lib.hid (HK.out.keep hb)
    replace HB := bel_tr HB hb
    clear hb
    refine hK _ _ HK.out ?_
    clear hK K
    repeat (first
      | (refine Sch.tn_q rfl rfl rfl (fun K hK => ?_); go_big_quiet_op; (first | refine hK _ ?_ | refine ⟨_, fun _ _ => rfl, hK _ ?_⟩); clear hK K)
      | (refine Sch.tn_chk _ _ _ rfl rfl rfl rfl rfl ?_; simp only [Act.put, List.setIfInBounds_toArray, List.set_cons_zero, List.set_cons_succ]))
    refine Sch.tn_n ?_
    go_wp2_with fail
    go_ret2
    exact ⟨rfl, HB.out⟩
end Go.Proofs.YtmmcnpcijeahcabGreatDoor.Nd
