/-
  Layer 17: package canon: Append, Encode, Size, Context.
-/
import Derived.Test.YtfmlenhakejefaaCaE
import Derived.Test.YtfmlenhakejefaaCaD
import Derived.Test.YtfmlenhakejefaaMJnC
import Derived.Test.YtfmlenhakejefaaMSched

section
namespace Go.Proofs.Ytfmlenhakejefaa.Ca
set_option linter.unusedVariables false
open Go.RowKit V Go.Sort D Nd Qs Jn Dg
open F (Ct cv cbox Bc)
attribute [local irreducible] Sch.heldN Sch.stepV Sch.stepE

/-- The bytes of a state, behind others, or the error. -/
def appB (p : List UInt8) (l : List Nt) : List UInt8 × Int := if validS l = true ∧ l.length ≤ 65536 then (p ++ stateB l, 0) else ([], if validS l = true then 5 else 2)
theorem alw_state (l : List Nt) : alw (validS l) ((l.length : Int)) = if validS l = true ∧ l.length ≤ 65536 then 0 else if validS l = true then 5 else 2 := by
  unfold alw
  rcases validS l with _ | _
  · simp
  · by_cases h : l.length ≤ 65536
    · rw [if_neg (by simp), if_neg (by omega), if_pos ⟨rfl, h⟩]
    · rw [if_neg (by simp), if_pos (by omega), if_neg (fun k => h k.2), if_pos rfl]
theorem new_writer {w w2 : World} (hb : Below w.heap.size w w2) (t : TypeId) : Ws w (w2.alloc (.cells #[.slice none 0 0] t)) w2.heap.size (.slice none 0 0) [] := by
  refine ⟨⟨⟨t, ?_⟩, O8.nil _ _, by simp [Value.ownBlock]⟩, hb.alloc hb.size _, hb.size⟩
  show (w2.heap.push _)[w2.heap.size]? = _
  simp
theorem Ws.own {w0 w w' : World} {b : Nat} {v u : Value} {l m : List UInt8} (h : Ws w0 w b v l) (ho : O8 w' w.heap.size u m) (hb : Below w.heap.size w w') : O8 w' w0.heap.size u m ∧ Below w0.heap.size w0 w' :=
  ⟨ho.mono (fun k hk => Nat.le_trans h.bl.size (ho.lt k hk).1), h.bl.trans (hb.mono h.bl.size)⟩
set_option maxRecDepth 100000 in
set_option maxHeartbeats 4000000 in
theorem append_any (p : List UInt8) (l : List Nt) (hp : p.length ≤ 1000000) (hll : l.length ≤ 100000) (w : World) (b a : Option Addr) (n c : Nat) (hb : Row8 w b p) (hbn : b = none → n = 0) (hx : RowN w a l) :
    Calls Try.prog 28 #[.slice b p.length n, .slice a l.length c] w fun e w' =>
      ∃ v, e = .returned (.tuple #[v, .int .i64 (appB p l).2]) ∧ O8 w' w.heap.size v (appB p l).1 ∧ Below w.heap.size w w' := by
  have HV := Lib.hid (fun w h => validS_any l a c w h (by omega))
  have HA := Lib.hid (alw_state l)
  have HX := Lib.hid hx
  have HBp := Lib.hid hb
  have HBn := Lib.hid hbn
  have HLl := Lib.hid hll
  have hi : (l.length : Int) ≤ 100000 := by omega
  have HPs := Lib.hid (fun hv w0 w hx b v L hL h => putState_any l hv hll w0 w a c hx b v L hL h)
  have HLs : Hid (validS l = true → (stateB l).length ≤ 10000000) := by
    intro hv
    obtain ⟨lp, lx⟩ := nodesB_len l 0 (Int.le_refl 0) (valid_up hv)
    have k1 := num_ten (n := l.length) (by omega)
    have k2 := num_ten (n := (textB l).length) (by omega)
    unfold stateB
    simp only [List.length_append]
    omega
  have HAl := Lib.hid (fun (w : World) g (hg : g = w.heap.size) => allowed_any (validS l) (l.length : Int) [] (some ⟨g, 0, none⟩) 1 1 rfl (w.alloc (.cells #[.int .i64 (l.length : Int)] 3)) (G.RowI.lit .i64 w g hg [(l.length : Int)] _ _ rfl) (by simp))
  simp only [List.foldl_nil] at HAl
  rw [HA.out] at HAl
  clear hx hb hbn hll HA
  have HB := Lib.hid (Below.refl w.heap.size w)
  by_cases hok : validS l = true ∧ l.length ≤ 65536
  case neg =>
    rw [if_neg hok] at HAl
    have e : appB p l = ([], if validS l = true then 5 else 2) := by unfold appB; rw [if_neg hok]
    rw [e]
    obtain ⟨z, hz, hz0⟩ : ∃ z : Int, z = (if validS l = true then 5 else 2) ∧ (z != 0) = true := ⟨_, rfl, by split <;> rfl⟩
    rw [← hz] at HAl ⊢
    clear hz e hok HPs HLs
    go_enter Try.func28, Try.ntmps28
    go_wp2_with fail
    refine (HV.out _ HX.out).mono ?_
    rintro e w1 ⟨rfl, hb⟩
    replace HB := bel_tr HB hb
    replace HB := Lib.hid (HB.out.alloc HB.out.size (.cells #[.int .i64 (l.length : Int)] 3))
    clear hb
    go_wp2_with fail
    refine (HAl.out _ _ rfl).mono ?_
    rintro e w2 ⟨rfl, rfl⟩
    go_wp2_with fail
    go_ret2
    exact ⟨_, rfl, O8.nil _ _, HB.out⟩
  rw [if_pos hok] at HAl
  have e : appB p l = (p ++ stateB l, 0) := by unfold appB; rw [if_pos hok]
  rw [e]
  replace HPs := Lib.hid (HPs.out hok.1)
  replace HLs := Lib.hid (HLs.out hok.1)
  clear e hok
  go_enter Try.func28, Try.ntmps28
  go_wp2_with fail
  refine (HV.out _ HX.out).mono ?_
  rintro e w1 ⟨rfl, hb⟩
  replace HB := bel_tr HB hb
  replace HB := Lib.hid (HB.out.alloc HB.out.size (.cells #[.int .i64 (l.length : Int)] 3))
  clear hb
  go_wp2_with fail
  refine (HAl.out _ _ rfl).mono ?_
  rintro e w2 ⟨rfl, rfl⟩
  generalize w1.alloc (.cells #[.int .i64 (l.length : Int)] 3) = w2 at *
  have HS := Lib.hid (new_writer HB.out 68)
  go_wp2_with fail
  refine (wraw_any _ w.heap.size w2.heap.size _ _ b p n HS.out.wr (HBp.out.keep HS.out.bl) HBn.out (by simp only [List.length_nil]; omega) HS.out.bl.size).mono ?_
  rintro e w3 ⟨rfl, v3, hw, hf, hg⟩
  rw [List.nil_append] at hw
  replace HS := Lib.hid (HS.out.step hw hf)
  clear hw hf hg HB
  generalize w2.heap.size = g2 at *
  go_wp2_with fail
  refine (HPs.out w w3 HX.out g2 _ _ (by omega) HS.out).mono ?_
  rintro e w4 ⟨rfl, v4, hs⟩
  replace HS := Lib.hid hs
  clear hs
  go_wp2_with fail
  refine (wbytes_any w4 _ g2 _ _ HS.out.wr (by have := HLs.out; simp only [List.length_append]; omega)).mono ?_
  rintro e w5 ⟨v5, rfl, ho, hb⟩
  have HO := Lib.hid (HS.out.own ho hb)
  clear ho hb
  go_wp2_with fail
  go_ret2
  exact ⟨_, rfl, HO.out.1, HO.out.2⟩

theorem encode_any (l : List Nt) (hll : l.length ≤ 100000) (w : World) (a : Option Addr) (c : Nat) (hx : RowN w a l) :
    Calls Try.prog 23 #[.slice a l.length c] w fun e w' =>
      ∃ v, e = .returned (.tuple #[v, .int .i64 (appB [] l).2]) ∧ O8 w' w.heap.size v (appB [] l).1 ∧ Below w.heap.size w w' := by
  have HA := Lib.hid (append_any [] l (by simp) hll w none a 0 c (.inl rfl) (fun _ => rfl) hx)
  clear hx hll
  generalize (appB [] l).2 = z at *
  go_enter Try.func23, Try.ntmps23
  go_wp2_with fail
  refine HA.out.mono ?_
  rintro e w1 ⟨v, rfl, ho, hb⟩
  have HO := Lib.hid ho
  have HB := Lib.hid hb
  clear ho hb
  go_wp2_with fail
  go_ret2
  exact ⟨_, rfl, HO.out, HB.out⟩
theorem size_any (l : List Nt) (hll : l.length ≤ 100000) (w : World) (a : Option Addr) (c : Nat) (hx : RowN w a l) :
    Calls Try.prog 22 #[.slice a l.length c] w fun e w' =>
      e = .returned (.tuple #[.int .i64 ((appB [] l).1.length : Int), .int .i64 (appB [] l).2]) ∧ Below w.heap.size w w' := by
  have HA := Lib.hid (encode_any l hll w a c hx)
  clear hx hll
  generalize (appB [] l).2 = z at *
  generalize (appB [] l).1 = m at *
  go_enter Try.func22, Try.ntmps22
  go_wp2_with fail
  refine HA.out.mono ?_
  rintro e w1 ⟨v, rfl, ho, hb⟩
  obtain ⟨a1, c1, rfl, -⟩ := ho.row
  have HB := Lib.hid hb
  clear ho hb
  go_wp2_with fail
  go_ret2
  exact ⟨rfl, HB.out⟩
end Go.Proofs.Ytfmlenhakejefaa.Ca
end

/-
  Layer 17: package canon: Context.
-/
section
namespace Go.Proofs.Ytfmlenhakejefaa.Ca
set_option linter.unusedVariables false
open Go.RowKit V Go.Sort D Nd Qs Jn Dg
open F (Ct cv cbox Bc Sb)
attribute [local irreducible] Sch.heldN Sch.stepV Sch.stepE

/-- The bytes of a context, or the error. -/
def ctxR (A : Ct) : List UInt8 × Int := if F.isCompR A = true ∧ A.1.length ≤ 65536 ∧ A.2.length ≤ 65536 then (ctxB A, 0) else ([], if F.isCompR A = true then 5 else 2)
theorem alw_ctx (A : Ct) : alw (F.isCompR A) ([(A.2.length : Int)].foldl max (A.1.length : Int)) = if F.isCompR A = true ∧ A.1.length ≤ 65536 ∧ A.2.length ≤ 65536 then 0 else if F.isCompR A = true then 5 else 2 := by
  obtain ⟨M, hM⟩ : ∃ M, M = [(A.2.length : Int)].foldl max (A.1.length : Int) := ⟨_, rfl⟩
  have hM2 : M = max (A.1.length : Int) (A.2.length : Int) := hM
  rw [← hM]
  unfold alw
  rcases F.isCompR A with _ | _
  · simp
  · by_cases h : A.1.length ≤ 65536 ∧ A.2.length ≤ 65536
    · rw [if_neg (by simp), if_neg (by omega), if_pos ⟨rfl, h⟩]
    · rw [if_neg (by simp), if_pos (by omega), if_neg (fun k => h k.2), if_pos rfl]
theorem ctx_dots {A : Ct} (h : F.isCompR A = true) : (∀ d ∈ A.1, validR d = true) ∧ ∀ d ∈ A.2, validR d = true :=
  ⟨(F.comp_iff.1 h).1.1.1, (F.comp_iff.1 h).1.2.2⟩
theorem dotsB_len {l : List Dt} (h : ∀ d ∈ l, validR d = true) (hl : l.length ≤ 100000) : (dotsB l).length ≤ 3000000 := by
  have := pairs_len l h
  have := num_ten (n := l.length) (by omega)
  unfold dotsB
  rw [List.length_append]
  omega
set_option maxRecDepth 100000 in
set_option maxHeartbeats 4000000 in
theorem context_any (A : Ct) (x y : Value) (w : World) (h : Kx w x y A) (hl : KL 100000 A) :
    Calls Try.prog 24 #[cv x y] w fun e w' =>
      ∃ v, e = .returned (.tuple #[v, .int .i64 (ctxR A).2]) ∧ O8 w' w.heap.size v (ctxR A).1 ∧ Below w.heap.size w w' := by
  have HC := Lib.hid (fun w h => compact_kx A x y w h (hl.mono (by decide)))
  have HAl := Lib.hid (fun (w : World) g => allowed_any (F.isCompR A) (A.1.length : Int) [(A.2.length : Int)] (some ⟨g, 0, none⟩) 2 2 rfl w)
  rw [alw_ctx] at HAl
  have HRl := Lib.hid (fun (w : World) => G.RowI.lit .i64 w _ rfl [(A.1.length : Int), (A.2.length : Int)] #[.int .i64 (A.1.length : Int), .int .i64 (A.2.length : Int)] 3 rfl)
  obtain ⟨z, hz⟩ : ∃ z : Int, z = if F.isCompR A = true ∧ A.1.length ≤ 65536 ∧ A.2.length ≤ 65536 then 0 else if F.isCompR A = true then 5 else 2 := ⟨_, rfl⟩
  rw [← hz] at HAl
  have HX := Lib.hid h
  obtain ⟨⟨a, n, rfl, ha, -⟩, b, m, rfl, hb, -⟩ := h
  have HRa := Lib.hid ha
  have HRb := Lib.hid hb
  have HL := Lib.hid hl
  have hl1 := hl.1
  have hl2 := hl.2
  have HB := Lib.hid (bel_box w (cbox (.slice a A.1.length n) (.slice b A.2.length m)))
  have HT := Lib.hid (show Sb w.heap.size (.slice a A.1.length n) (.slice b A.2.length m) _ from F.two_new w (.slice a A.1.length n) (.slice b A.2.length m))
  have HXk := Lib.hid (HX.out.keep HB.out)
  clear ha hb hl HX
  have HZ := Lib.hid hz
  clear hz
  go_enter Try.func24, Try.ntmps24
  go_upto_region 1 with fail
  generalize w.alloc (cbox (.slice a A.1.length n) (.slice b A.2.length m)) = w1 at *
  go_cut [4] from 6 to 15 (fun s wx => s = .int .i64 z ∧ Hid (Below w1.heap.size w1 wx))
  case first =>
    refine Sch.wp_region_tn (Sb w.heap.size (.slice a A.1.length n) (.slice b A.2.length m)) (.val 0 (.val 2 (.val 3 (.val 4 (.val 5 (.val 6 (.val 7 (.two 1 (.one 8 (.one 9 (.val 10 .done))) 8 (.one 1 (.one 9 (.val 10 .done))))))))))) (by kernel_rfl) (by kernel_rfl) (HT.out.keep ((Below.refl _ _).drew)) ?_
    have hd : Below w1.heap.size w1 w1.drew := (Below.refl _ _).drew
    have HBd := Lib.hid hd
    have HTd := Lib.hid (HT.out.keep hd)
    have HXd := Lib.hid (HXk.out.keep hd)
    clear hd
    generalize w1.drew = w2 at *
    repeat (first
      | (refine Sch.tn_q rfl rfl rfl (fun K hK => ?_); go_big_quiet_op; (first | refine hK _ ?_ | refine ⟨_, fun _ _ => rfl, hK _ ?_⟩); clear hK K)
      | (refine Sch.tn_load _ _ _ _ _ rfl rfl rfl rfl (by first | exact F.Sb.l | exact F.Sb.l0 | exact F.Sb.l1) rfl ?_; simp only [Act.put, List.setIfInBounds_toArray, List.set_cons_zero, List.set_cons_succ]))
    refine Sch.tn_two ?_ ?_
    · skip
      refine Sch.tn_e rfl rfl (fun K hK => ?_)
      go_wp2_with fail
      refine (HC.out _ HXd.out).mono ?_
      rintro e w3 ⟨rfl, hb⟩
      replace HTd := Lib.hid (HTd.out.keep hb)
      replace HBd := bel_tr HBd hb
      clear hb
      refine hK _ _ HTd.out ?_
      clear hK K
      try simp only [Act.put, List.setIfInBounds_toArray, List.set_cons_zero, List.set_cons_succ]
      refine Sch.tn_e rfl rfl (fun K hK => ?_)
      go_wp2_with fail
      have hb := bel_box w3 (.cells #[.int .i64 (A.1.length : Int), .int .i64 (A.2.length : Int)] 3)
      have HRw := Lib.hid (HRl.out w3)
      replace HTd := Lib.hid (HTd.out.keep hb)
      replace HBd := bel_tr HBd hb
      clear hb
      refine hK _ _ HTd.out ?_
      clear hK K
      try simp only [Act.put, List.setIfInBounds_toArray, List.set_cons_zero, List.set_cons_succ]
      refine Sch.tn_e rfl rfl (fun K hK => ?_)
      go_wp2_with fail
      refine (HAl.out _ _ HRw.out (by simp)).mono ?_
      rintro e w5 ⟨rfl, rfl⟩
      refine hK _ _ HTd.out ?_
      clear hK K
      try simp only [Act.put, List.setIfInBounds_toArray, List.set_cons_zero, List.set_cons_succ]
      repeat (refine Sch.tn_q rfl rfl rfl (fun K hK => ?_); go_big_quiet_op; (first | refine hK _ ?_ | refine ⟨_, fun _ _ => rfl, hK _ ?_⟩); clear hK K)
      refine Sch.tn_n ?_
      go_wp2_with fail
      go_meet
      exact ⟨rfl, HBd.out⟩
    · skip
      refine Sch.tn_e rfl rfl (fun K hK => ?_)
      go_wp2_with fail
      have hb := bel_box w2 (.cells #[.int .i64 (A.1.length : Int), .int .i64 (A.2.length : Int)] 3)
      have HRw := Lib.hid (HRl.out w2)
      replace HTd := Lib.hid (HTd.out.keep hb)
      replace HXd := Lib.hid (HXd.out.keep hb)
      replace HBd := bel_tr HBd hb
      clear hb
      refine hK _ _ HTd.out ?_
      clear hK K
      try simp only [Act.put, List.setIfInBounds_toArray, List.set_cons_zero, List.set_cons_succ]
      generalize w2.alloc (.cells #[.int .i64 (A.1.length : Int), .int .i64 (A.2.length : Int)] 3) = w3 at *
      refine Sch.tn_e rfl rfl (fun K hK => ?_)
      go_wp2_with fail
      refine (HC.out _ HXd.out).mono ?_
      rintro e w4 ⟨rfl, hb⟩
      replace HRw := Lib.hid (HRw.out.keep hb (Nat.le_refl _))
      replace HTd := Lib.hid (HTd.out.keep hb)
      replace HBd := bel_tr HBd hb
      clear hb
      refine hK _ _ HTd.out ?_
      clear hK K
      try simp only [Act.put, List.setIfInBounds_toArray, List.set_cons_zero, List.set_cons_succ]
      refine Sch.tn_e rfl rfl (fun K hK => ?_)
      go_wp2_with fail
      refine (HAl.out _ _ HRw.out (by simp)).mono ?_
      rintro e w5 ⟨rfl, rfl⟩
      refine hK _ _ HTd.out ?_
      clear hK K
      try simp only [Act.put, List.setIfInBounds_toArray, List.set_cons_zero, List.set_cons_succ]
      repeat (refine Sch.tn_q rfl rfl rfl (fun K hK => ?_); go_big_quiet_op; (first | refine hK _ ?_ | refine ⟨_, fun _ _ => rfl, hK _ ?_⟩); clear hK K)
      refine Sch.tn_n ?_
      go_wp2_with fail
      go_meet
      exact ⟨rfl, HBd.out⟩
  case rest =>
    obtain ⟨rfl, hBx⟩ := hcut
    have HB2 := Lib.hid (HB.out.trans (hBx.out.mono HB.out.size))
    have HT2 := Lib.hid (HT.out.keep hBx.out)
    have HR1 := Lib.hid (HRa.out.keep HB.out)
    have HR2 := Lib.hid (HRb.out.keep HB.out)
    clear HRa HRb HXk HC HAl HRl
    by_cases hok : F.isCompR A = true ∧ A.1.length ≤ 65536 ∧ A.2.length ≤ 65536
    case neg =>
      have e : ctxR A = ([], if F.isCompR A = true then 5 else 2) := by unfold ctxR; rw [if_neg hok]
      have hz := HZ.out
      rw [if_neg hok] at hz
      have hz0 : (z != 0) = true := by rw [hz]; split <;> rfl
      rw [← hz] at e
      have HE := Lib.hid e
      clear hz e hok HZ
      go_wp2_with fail
      go_ret2
      rw [HE.out]
      exact ⟨_, rfl, O8.nil _ _, HB2.out⟩
    have e : ctxR A = (ctxB A, 0) := by unfold ctxR; rw [if_pos hok]
    have HE := Lib.hid e
    have hz := HZ.out
    rw [if_pos hok] at hz
    subst hz
    obtain ⟨d1, d2⟩ := ctx_dots hok.1
    have L1 := Lib.hid (dotsB_len d1 hl1)
    have L2 := Lib.hid (dotsB_len d2 hl2)
    have HP1 := Lib.hid (fun w0 w h b v L h2 h3 => putDots_any A.1 d1 hl1 w0 w a n h b v L h2 h3)
    have HP2 := Lib.hid (fun w0 w h b' v L h2 h3 => putDots_any A.2 d2 hl2 w0 w b m h b' v L h2 h3)
    have HS := Lib.hid (new_writer hBx.out 68)
    clear e hok HZ d1 d2 HB2 HT2 hBx
    go_upto_region 5 with fail
    generalize wc.alloc (.cells #[.slice none 0 0] 68) = w2 at *
    generalize wc.heap.size = g2 at *
    have t0 := (HT.out.keep HS.out.bl).1
    have t1 := (HT.out.keep HS.out.bl).2
    go_wp2_with fail
    refine (HP1.out w1 w2 HR1.out g2 _ _ (by simp) HS.out).mono ?_
    rintro e w3 ⟨rfl, v3, hs⟩
    rw [List.nil_append] at hs
    replace HS := Lib.hid hs
    clear hs t0 t1
    have t0 := (HT.out.keep HS.out.bl).1
    have t1 := (HT.out.keep HS.out.bl).2
    go_wp2_with fail
    refine (HP2.out w1 w3 HR2.out g2 _ _ (by have := L1.out; omega) HS.out).mono ?_
    rintro e w4 ⟨rfl, v4, hs⟩
    replace HS := Lib.hid hs
    clear hs t0 t1
    go_wp2_with fail
    refine (wbytes_any w4 _ g2 _ _ HS.out.wr (by have := L1.out; have := L2.out; simp only [List.length_append]; omega)).mono ?_
    rintro e w5 ⟨v5, rfl, ho, hb⟩
    have HO := Lib.hid (HS.out.own ho hb)
    clear ho hb
    go_wp2_with fail
    go_ret2
    rw [HE.out]
    exact ⟨_, rfl, HO.out.1.mono (fun k hk => Nat.le_trans HB.out.size (HO.out.1.lt k hk).1), HB.out.trans (HO.out.2.mono HB.out.size)⟩
end Go.Proofs.Ytfmlenhakejefaa.Ca
end

/-
  Layer 17: the laws' helpers.
-/
section
namespace Go.Proofs.Ytfmlenhakejefaa.Ca
set_option linter.unusedVariables false
open Go.RowKit V Go.Sort D Nd Qs Jn Dg
open F (Ct cv cbox Bc Sb)
attribute [local irreducible] Sch.heldN Sch.stepV Sch.stepE

set_option maxRecDepth 100000 in
set_option maxHeartbeats 2000000 in
theorem dot_law (x y : Int) (w : World) : Calls Try.prog 21 #[.int .i64 x, .int .i64 y] w fun e w' => e = .returned (dv (x, y)) ∧ Below w.heap.size w w' := by
  have hb := bel_box w (.cells #[.int .i64 0, .int .i64 0] 36)
  have c0 : (w.alloc (.cells #[.int .i64 0, .int .i64 0] 36)).cell? ⟨w.heap.size, 0, none⟩ = some (.int .i64 0) := by go_simp
  have c1 : (w.alloc (.cells #[.int .i64 0, .int .i64 0] 36)).cell? ⟨w.heap.size, 1, none⟩ = some (.int .i64 0) := by go_simp
  have f0 : (w.alloc (.cells #[.int .i64 0, .int .i64 0] 36)).frozen? ⟨w.heap.size, 0, none⟩ = false := by go_simp
  have f1 : (w.alloc (.cells #[.int .i64 0, .int .i64 0] 36)).frozen? ⟨w.heap.size, 1, none⟩ = false := by go_simp
  have HB := Lib.hid hb
  clear hb
  go_enter Try.func21, Try.ntmps21
  go_upto_region 1 with fail
  generalize w.alloc (.cells #[.int .i64 0, .int .i64 0] 36) = w1 at *
  go_wp2_with fail
  (try simp only [Exit.inBlock, Exit.then])
  refine bodyPost_ret (v := .agg #[.int .i64 x, .int .i64 y]) (by rw [results_cell1 (fn := Try.f21) (p := 4) (ty := 36) rfl]; go_simp) rfl ?_
  exact ⟨rfl, (HB.out.setCell (p := ⟨w.heap.size, 0, none⟩) (Nat.le_refl _) _).setCell (p := ⟨w.heap.size, 1, none⟩) (Nat.le_refl _) _⟩

/-- Bytes that are handed in. -/
def Rb (w : World) (p : Option Addr) (m : List UInt8) : Prop := Row8 w p m
theorem conv_b {w : World} {p : Option Addr} {m : List UInt8} (h : Row8 w p m) (d : Nat) : (convert 24 9 (.slice p m.length d)).run Try.prog w = .ok (.string ⟨m.toArray⟩) w :=
  G.conv_row (P := Try.prog) h m.length rfl d 24 9 5 Try.underlying24 Try.underlying5 Try.underlying9
set_option maxRecDepth 100000 in
set_option maxHeartbeats 4000000 in
theorem encodes_true {l : List Nt} {m : List UInt8} {z : Int} {a p : Option Addr} {k c j d : Nat} {w : World} (h : appB [] l = (m, z)) (hk : k = l.length) (hj : j = m.length) (hll : l.length ≤ 100000) (hx : RowN w a l) (hp : Row8 w p m) :
    Calls Try.prog 10 #[.slice a k c, .slice p j d, .int .i64 z] w fun e w' => e = .returned (.bool true) ∧ Below w.heap.size w w' := by
  subst hk; subst hj
  have HE := Lib.hid (encode_any l hll w a c hx)
  rw [h] at HE
  have HP := Lib.hid hp
  clear h hx hll hp
  go_enter Try.func10, Try.ntmps10
  go_wp2_with fail
  refine HE.out.mono ?_
  rintro e w1 ⟨v, rfl, ho, hb⟩
  obtain ⟨a1, c1, rfl, hr, -⟩ := ho.row
  have hc1 := conv_b hr c1
  have hc2 := conv_b (HP.out.keep hb) d
  have HB := Lib.hid hb
  clear ho hb hr HE
  go_wp2_with fail
  go_ret
  exact ⟨rfl, HB.out⟩
set_option maxRecDepth 100000 in
set_option maxHeartbeats 4000000 in
theorem appends_true {q : List UInt8} {l : List Nt} {m : List UInt8} {z : Int} {s a p : Option Addr} {i n k c j d : Nat} {w : World} (h : appB q l = (m, z)) (hi : i = q.length) (hk : k = l.length) (hj : j = m.length) (hq : q.length ≤ 1000000) (hll : l.length ≤ 100000) (hs : Row8 w s q) (hsn : s = none → n = 0) (hx : RowN w a l) (hp : Row8 w p m) :
    Calls Try.prog 11 #[.slice s i n, .slice a k c, .slice p j d, .int .i64 z] w fun e w' => e = .returned (.bool true) ∧ Below w.heap.size w w' := by
  subst hi; subst hk; subst hj
  have HE := Lib.hid (append_any q l hq hll w s a n c hs hsn hx)
  rw [h] at HE
  have HP := Lib.hid hp
  clear h hx hll hp hq hs hsn
  go_enter Try.func11, Try.ntmps11
  go_wp2_with fail
  refine HE.out.mono ?_
  rintro e w1 ⟨v, rfl, ho, hb⟩
  obtain ⟨a1, c1, rfl, hr, -⟩ := ho.row
  have hc1 := conv_b hr c1
  have hc2 := conv_b (HP.out.keep hb) d
  have HB := Lib.hid hb
  clear ho hb hr HE
  go_wp2_with fail
  go_ret
  exact ⟨rfl, HB.out⟩
set_option maxRecDepth 100000 in
set_option maxHeartbeats 4000000 in
theorem sizes_true {l : List Nt} {x z : Int} {a : Option Addr} {k c : Nat} {w : World} (h : ((appB [] l).1.length : Int) = x ∧ (appB [] l).2 = z) (hk : k = l.length) (hll : l.length ≤ 100000) (hx : RowN w a l) :
    Calls Try.prog 12 #[.slice a k c, .int .i64 x, .int .i64 z] w fun e w' => e = .returned (.bool true) ∧ Below w.heap.size w w' := by
  subst hk
  have HE := Lib.hid (size_any l hll w a c hx)
  rw [h.1, h.2] at HE
  clear h hx hll
  go_enter Try.func12, Try.ntmps12
  go_wp2_with fail
  refine HE.out.mono ?_
  rintro e w1 ⟨rfl, hb⟩
  have HB := Lib.hid hb
  clear hb HE
  go_wp2_with fail
  go_ret
  exact ⟨rfl, HB.out⟩
set_option maxRecDepth 100000 in
set_option maxHeartbeats 4000000 in
theorem contexts_true {A : Ct} {x y : Value} {m : List UInt8} {z : Int} {p : Option Addr} {j d : Nat} {w : World} (h : ctxR A = (m, z)) (hj : j = m.length) (hl : KL 100000 A) (hx : Kx w x y A) (hp : Row8 w p m) :
    Calls Try.prog 19 #[cv x y, .slice p j d, .int .i64 z] w fun e w' => e = .returned (.bool true) ∧ Below w.heap.size w w' := by
  subst hj
  have HE := Lib.hid (fun w (h : Kx w x y A) => context_any A x y w h hl)
  rw [h] at HE
  obtain ⟨⟨a, n, rfl, ha, -⟩, b, i, rfl, hb, -⟩ := id hx
  have hbx := bel_box w (cbox (.slice a A.1.length n) (.slice b A.2.length i))
  have HB := Lib.hid hbx
  have HT := Lib.hid (show Sb w.heap.size (.slice a A.1.length n) (.slice b A.2.length i) _ from F.two_new w (.slice a A.1.length n) (.slice b A.2.length i))
  have HX := Lib.hid (hx.keep hbx)
  have HP := Lib.hid (hp.keep hbx)
  clear h hx hl hp ha hb hbx
  go_enter Try.func19, Try.ntmps19
  go_upto_region 1 with fail
  generalize w.alloc (cbox (.slice a A.1.length n) (.slice b A.2.length i)) = w1 at *
  have t0 := HT.out.1
  have t1 := HT.out.2
  go_wp2_with fail
  refine (HE.out _ HX.out).mono ?_
  rintro e w2 ⟨v, rfl, ho, hb⟩
  obtain ⟨a1, c1, rfl, hr, -⟩ := ho.row
  have hc1 := conv_b hr c1
  have hc2 := conv_b (HP.out.keep hb) d
  replace HB := bel_tr HB hb
  clear ho hb hr HE t0 t1
  go_wp2_with fail
  go_ret
  exact ⟨rfl, HB.out⟩
end Go.Proofs.Ytfmlenhakejefaa.Ca
end

/-
  Layer 17: the chapter's examples.
-/
section
namespace Go.Proofs.Ytfmlenhakejefaa.Ca
set_option linter.unusedVariables false
open Go.RowKit V Go.Sort D Nd Qs Jn Dg
open F (Ct cv cbox Bc Sb)
attribute [local irreducible] Sch.heldN Sch.stepV Sch.stepE

abbrev kA : Nt := ((1, 1), (0, 0), 1, 97)
abbrev kP : Nt := ((2, 3), (1, 2), 70, 0)
abbrev kQ : Nt := ((1, 200), (2, 3), 71, 233)
theorem e1 : appB [] [] = ([0, 0], 0) := by decide +kernel
theorem e2 : appB [] [kA] = ([1, 1, 1, 0, 2, 1, 97], 0) := by decide +kernel
theorem e3 : appB [] [kP, kQ] = ([2, 2, 3, 1, 2, 141, 1, 1, 197, 1, 2, 3, 142, 1, 2, 195, 169], 0) := by decide +kernel
theorem e4 : ((appB [] [kP, kQ]).1.length : Int) = 17 ∧ (appB [] [kP, kQ]).2 = 0 := by rw [e3]; exact ⟨rfl, rfl⟩
theorem e5 : appB [9] [] = ([9, 0, 0], 0) := by decide +kernel
theorem e6 : ctxR ([(1, 2)], [(3, 300)]) = ([1, 1, 2, 1, 3, 172, 2], 0) := by decide +kernel
theorem e7 : ctxR ([], []) = ([0, 0], 0) := by decide +kernel
theorem e8 : appB [] [kQ, kP] = ([], 2) := by decide +kernel
theorem row8_lit (w : World) (l : List UInt8) (C : Array Value) (t : TypeId) (f : Nat × Nat) (hC : C.toList = cells8 l) : Row8 (w.alloc (.cells C t f)) (some ⟨w.heap.size, 0, none⟩) l := by
  by_cases hl : l = []
  · exact .inl hl
  refine .inr ⟨_, _, rfl, fun i hi => ?_⟩
  have hh : (w.alloc (.cells C t f)).heap[w.heap.size]? = some (.cells C t f) := by
    show (w.heap.push (.cells C t f))[w.heap.size]? = _
    simp
  have e : (w.alloc (.cells C t f)).cell? ⟨w.heap.size, 0 + i, none⟩ = C[i]? := by
    unfold World.cell?
    rw [show (⟨w.heap.size, 0 + i, none⟩ : Addr).block = w.heap.size from rfl, hh]
    simp
  rw [e, ← Array.getElem?_toList, hC]
  simp [cells8, hi]
theorem sv_lit {w : World} {g : Nat} {l : List Dt} (h : RowD w (some ⟨g, 0, none⟩) l) : E.SV w (.slice (some ⟨g, 0, none⟩) l.length l.length) l := ⟨_, _, rfl, h, (fun e => by cases e), Nat.le_refl _⟩
/-- New rows, as values. -/
def SlB (w : World) (v : Value) (l : List UInt8) : Prop := ∃ g, v = .slice (some ⟨g, 0, none⟩) l.length l.length ∧ Row8 w (some ⟨g, 0, none⟩) l
theorem SlB.keep {w w' : World} {v : Value} {l : List UInt8} (h : SlB w v l) (hb : Below w.heap.size w w') : SlB w' v l := by
  obtain ⟨g, e, hr⟩ := h
  exact ⟨g, e, hr.keep hb⟩
def SlD (w : World) (v : Value) (l : List Dt) : Prop := ∃ g, v = .slice (some ⟨g, 0, none⟩) l.length l.length ∧ RowD w (some ⟨g, 0, none⟩) l
theorem SlD.keep {w w' : World} {v : Value} {l : List Dt} (h : SlD w v l) (hb : Below w.heap.size w w') : SlD w' v l := by
  obtain ⟨g, e, hr⟩ := h
  exact ⟨g, e, hr.keep hb⟩
def SlN (w : World) (v : Value) (l : List Nt) : Prop := ∃ g, v = .slice (some ⟨g, 0, none⟩) l.length l.length ∧ RowN w (some ⟨g, 0, none⟩) l
theorem SlN.keep {w w' : World} {v : Value} {l : List Nt} (h : SlN w v l) (hb : Below w.heap.size w w') : SlN w' v l := by
  obtain ⟨g, e, hr⟩ := h
  exact ⟨g, e, hr.keep hb⟩
def CtK (w : World) (v : Value) (A : Ct) : Prop := ∃ x y, v = cv x y ∧ Kx w x y A
theorem CtK.keep {w w' : World} {v : Value} {A : Ct} (h : CtK w v A) (hb : Below w.heap.size w w') : CtK w' v A := by
  obtain ⟨x, y, e, hr⟩ := h
  exact ⟨x, y, e, hr.keep hb⟩
theorem na_at {w : World} {g : Nat} {l : List Nt} (h : RowN w (some ⟨g, 0, none⟩) l) (k : Nat) (hk : k < l.length) : Na w g (0 + k * 6) l[k] := by
  obtain ⟨b, o, e, hn⟩ := na_of h k hk
  cases e
  exact hn
set_option maxRecDepth 100000 in
/-- What holds while the operations come up. -/
inductive J5 (w0 : World) (g1 gs : Nat) (u3 u4 u5 u6 u7 u8 u9 u10 u11 u12 u13 u14 u15 u16 u17 u18 u19 u20 u21 u22 u23 u24 u25 u26 u27 u28 u29 u30 u31 : Value) (L : List Bool) : Act → World → Prop
  | mk (w : World) (u0 u33 u34 u35 u36 u37 u38 u39 u40 u41 u42 u43 u44 u45 u46 u47 u48 u49 u50 u51 u52 u53 u54 u55 u56 u57 u58 u59 : Value)
    (f0 : Hid (L.getD 0 false = true → SlB w u33 [9]))
    (f1 : Hid (L.getD 1 false = true → SlB w u34 [9, 0, 0]))
    (f2 : Hid (L.getD 2 false = true → u35 = .bool true))
    (f3 : Hid (L.getD 3 false = true → u36 = .bool true))
    (f4 : Hid (L.getD 4 false = true → u37 = dv (1, 2)))
    (f5 : Hid (L.getD 5 false = true → SlD w u38 [(1, 2)]))
    (f6 : Hid (L.getD 6 false = true → u39 = dv (3, 300)))
    (f7 : Hid (L.getD 7 false = true → SlD w u40 [(3, 300)]))
    (f8 : Hid (L.getD 8 false = true → CtK w u41 ([(1, 2)], [(3, 300)])))
    (f9 : Hid (L.getD 9 false = true → SlB w u42 [1, 1, 2, 1, 3, 172, 2]))
    (f10 : Hid (L.getD 10 false = true → u43 = .bool true))
    (f11 : Hid (L.getD 11 false = true → u44 = .bool true))
    (f12 : Hid (L.getD 12 false = true → u45 = .bool true))
    (f13 : Hid (L.getD 13 false = true → u46 = cv (.slice none 0 0) (.slice none 0 0)))
    (f14 : Hid (L.getD 14 false = true → SlB w u47 [0, 0]))
    (f15 : Hid (L.getD 15 false = true → u48 = .bool true))
    (f16 : Hid (L.getD 16 false = true → u49 = .bool true))
    (f17 : Hid (L.getD 17 false = true → u50 = .bool true))
    (f18 : Hid (L.getD 18 false = true → u51 = .slice (some ⟨gs, 0, none⟩) 2 2))
    (f19 : Hid (L.getD 19 false = true → u52 = .pointer (some ⟨gs, 6, none⟩)))
    (f20 : Hid (L.getD 20 false = true → u53 = nv kQ))
    (f21 : Hid (L.getD 21 false = true → u54 = .slice (some ⟨gs, 0, none⟩) 2 2))
    (f22 : Hid (L.getD 22 false = true → u55 = .pointer (some ⟨gs, 0, none⟩)))
    (f23 : Hid (L.getD 23 false = true → u56 = nv kP))
    (f24 : Hid (L.getD 24 false = true → SlN w u57 [kQ, kP]))
    (f25 : Hid (L.getD 25 false = true → u58 = .bool true))
    (f26 : Hid (L.getD 26 false = true → u59 = .bool true))
    (f27 : Hid (L.getD 27 false = true → u0 = .bool true))
    (HB : Hid (Below w0.heap.size w0 w)) (HS : Hid (RowN w (some ⟨gs, 0, none⟩) [kP, kQ])) : J5 w0 g1 gs u3 u4 u5 u6 u7 u8 u9 u10 u11 u12 u13 u14 u15 u16 u17 u18 u19 u20 u21 u22 u23 u24 u25 u26 u27 u28 u29 u30 u31 L { tmps := List.toArray (u0 :: .pointer (some ⟨g1, 0, none⟩) :: .slice (some ⟨gs, 0, none⟩) 2 2 :: u3 :: u4 :: u5 :: u6 :: u7 :: u8 :: u9 :: u10 :: u11 :: u12 :: u13 :: u14 :: u15 :: u16 :: u17 :: u18 :: u19 :: u20 :: u21 :: u22 :: u23 :: u24 :: u25 :: u26 :: u27 :: u28 :: u29 :: u30 :: u31 :: .bool false :: u33 :: u34 :: u35 :: u36 :: u37 :: u38 :: u39 :: u40 :: u41 :: u42 :: u43 :: u44 :: u45 :: u46 :: u47 :: u48 :: u49 :: u50 :: u51 :: u52 :: u53 :: u54 :: u55 :: u56 :: u57 :: u58 :: u59 :: []), defers := [] } w
def D5 (i : Nat) : List Nat := match i with | 0 => [] | 1 => [] | 2 => [0, 1] | 3 => [2] | 4 => [3] | 5 => [4, 3] | 6 => [4, 3] | 7 => [6, 3] | 8 => [5, 7, 3] | 9 => [3] | 10 => [8, 9, 6, 3] | 11 => [3, 10] | 12 => [11, 10] | 13 => [12] | 14 => [12] | 15 => [13, 14, 12] | 16 => [12, 15] | 17 => [16, 15] | 18 => [17] | 19 => [18, 17] | 20 => [19, 17] | 21 => [17] | 22 => [21, 17] | 23 => [22, 17] | 24 => [20, 23, 17] | 25 => [24, 17] | 26 => [17, 25] | 27 => [26] | _ => []
set_option maxRecDepth 100000 in
set_option maxHeartbeats 8000000 in
theorem known_any (w : World) : Calls Try.prog 8 #[] w fun e w' => e = .returned (.bool true) ∧ Below w.heap.size w w' := by
  have HB := Lib.hid (Below.refl w.heap.size w)
  obtain ⟨w0, hw0⟩ : ∃ w0, w0 = w := ⟨_, rfl⟩
  subst hw0
  go_enter Try.func8, Try.ntmps8
  go_wp2_with fail
  refine (dot_law 1 1 _).mono ?_
  rintro e w3 ⟨rfl, hb⟩
  replace HB := bel_tr HB hb
  clear hb
  have hb := bel_box w3 (.cells #[.int .i64 1, .int .i64 1, .int .i64 0, .int .i64 0, .int .i64 1, .int .i32 97] 38)
  have HA : Hid (Nb (w3.alloc (.cells #[.int .i64 1, .int .i64 1, .int .i64 0, .int .i64 0, .int .i64 1, .int .i32 97] 38)) w3.heap.size kA) := Nb.new w3 kA
  replace HB := bel_tr HB hb
  clear hb
  go_upto_region 2 with fail
  generalize w3.alloc (.cells #[.int .i64 1, .int .i64 1, .int .i64 0, .int .i64 0, .int .i64 1, .int .i32 97] 38) = w4 at *
  generalize w3.heap.size = g1 at *
  go_wp2_with fail
  refine (dot_law 2 3 _).mono ?_
  rintro e w5 ⟨rfl, hb⟩
  replace HB := bel_tr HB hb
  replace HA := Lib.hid (HA.out.keep hb)
  clear hb
  go_wp2_with fail
  refine (dot_law 1 2 _).mono ?_
  rintro e w6 ⟨rfl, hb⟩
  replace HB := bel_tr HB hb
  replace HA := Lib.hid (HA.out.keep hb)
  clear hb
  go_wp2_with fail
  refine (dot_law 1 200 _).mono ?_
  rintro e w7 ⟨rfl, hb⟩
  replace HB := bel_tr HB hb
  replace HA := Lib.hid (HA.out.keep hb)
  clear hb
  go_wp2_with fail
  refine (dot_law 2 3 _).mono ?_
  rintro e w8 ⟨rfl, hb⟩
  replace HB := bel_tr HB hb
  replace HA := Lib.hid (HA.out.keep hb)
  clear hb
  have hb := bel_box w8 (.cells #[.int .i64 2, .int .i64 3, .int .i64 1, .int .i64 2, .int .i64 70, .int .i32 0, .int .i64 1, .int .i64 200, .int .i64 2, .int .i64 3, .int .i64 71, .int .i32 233] 38)
  have HS : Hid (RowN (w8.alloc (.cells #[.int .i64 2, .int .i64 3, .int .i64 1, .int .i64 2, .int .i64 70, .int .i32 0, .int .i64 1, .int .i64 200, .int .i64 2, .int .i64 3, .int .i64 71, .int .i32 233] 38)) (some ⟨w8.heap.size, 0, none⟩) [kP, kQ]) := RowN.lit w8 [kP, kQ] _ _ _ rfl
  replace HB := bel_tr HB hb
  replace HA := Lib.hid (HA.out.keep hb)
  clear hb
  go_upto_region 3 with fail
  generalize w8.alloc (.cells #[.int .i64 2, .int .i64 3, .int .i64 1, .int .i64 2, .int .i64 70, .int .i32 0, .int .i64 1, .int .i64 200, .int .i64 2, .int .i64 3, .int .i64 71, .int .i32 233] 38) = w9 at *
  generalize w8.heap.size = gs at *
  go_cut [32] from 3 (fun s wx => s = .bool false ∧ Hid (Below w0.heap.size w0 wx) ∧ Hid (RowN wx (some ⟨gs, 0, none⟩) [kP, kQ]))
  case first =>
    have hb := bel_box w9 (.cells #[.int .u8 0, .int .u8 0] 5)
    have R1 : Hid (Row8 (w9.alloc (.cells #[.int .u8 0, .int .u8 0] 5)) (some ⟨w9.heap.size, 0, none⟩) [0, 0]) := row8_lit w9 _ _ _ _ rfl
    replace HB := bel_tr HB hb
    replace HA := Lib.hid (HA.out.keep hb)
    replace HS := Lib.hid (HS.out.keep hb)
    clear hb
    go_wp2_with fail
    generalize w9.alloc (.cells #[.int .u8 0, .int .u8 0] 5) = w10 at *
    generalize w9.heap.size = r1 at *
    refine (encodes_true e1 rfl rfl (by decide) (RowN.nil _ _) R1.out).mono ?_
    rintro e w11 ⟨rfl, hb⟩
    replace HB := bel_tr HB hb
    replace HA := Lib.hid (HA.out.keep hb)
    replace HS := Lib.hid (HS.out.keep hb)
    replace R1 := Lib.hid (R1.out.keep hb)
    clear hb
    clear R1
    obtain ⟨HA0, HA1, HA2, HA3, HA4, HA5⟩ := HA.out
    have hz : (w11.alloc (.cells #[.int .i64 1, .int .i64 1, .int .i64 0, .int .i64 0, .int .i64 1, .int .i32 97] 38)).heap.size = w11.heap.size + 1 := by simp
    have hb := bel_box w11 (.cells #[.int .i64 1, .int .i64 1, .int .i64 0, .int .i64 0, .int .i64 1, .int .i32 97] 38)
    have R2 : Hid (RowN (w11.alloc (.cells #[.int .i64 1, .int .i64 1, .int .i64 0, .int .i64 0, .int .i64 1, .int .i32 97] 38)) (some ⟨w11.heap.size, 0, none⟩) [kA]) := RowN.lit w11 [kA] _ _ _ rfl
    replace HB := bel_tr HB hb
    replace HA := Lib.hid (HA.out.keep hb)
    replace HS := Lib.hid (HS.out.keep hb)
    clear hb
    have hb := bel_box (w11.alloc (.cells #[.int .i64 1, .int .i64 1, .int .i64 0, .int .i64 0, .int .i64 1, .int .i32 97] 38)) (.cells #[.int .u8 1, .int .u8 1, .int .u8 1, .int .u8 0, .int .u8 2, .int .u8 1, .int .u8 97] 5)
    have R3 : Hid (Row8 ((w11.alloc (.cells #[.int .i64 1, .int .i64 1, .int .i64 0, .int .i64 0, .int .i64 1, .int .i32 97] 38)).alloc (.cells #[.int .u8 1, .int .u8 1, .int .u8 1, .int .u8 0, .int .u8 2, .int .u8 1, .int .u8 97] 5)) (some ⟨(w11.alloc (.cells #[.int .i64 1, .int .i64 1, .int .i64 0, .int .i64 0, .int .i64 1, .int .i32 97] 38)).heap.size, 0, none⟩) [1, 1, 1, 0, 2, 1, 97]) := row8_lit (w11.alloc (.cells #[.int .i64 1, .int .i64 1, .int .i64 0, .int .i64 0, .int .i64 1, .int .i32 97] 38)) _ _ _ _ rfl
    replace HB := bel_tr HB hb
    replace HA := Lib.hid (HA.out.keep hb)
    replace HS := Lib.hid (HS.out.keep hb)
    replace R2 := Lib.hid (R2.out.keep hb)
    clear hb
    rw [hz] at R3
    go_wp2_with fail
    clear hz HA0 HA1 HA2 HA3 HA4 HA5
    generalize (w11.alloc (.cells #[.int .i64 1, .int .i64 1, .int .i64 0, .int .i64 0, .int .i64 1, .int .i32 97] 38)).alloc (.cells #[.int .u8 1, .int .u8 1, .int .u8 1, .int .u8 0, .int .u8 2, .int .u8 1, .int .u8 97] 5) = w12 at *
    generalize w11.heap.size = r2 at *
    refine (encodes_true e2 rfl rfl (by decide) R2.out R3.out).mono ?_
    rintro e w13 ⟨rfl, hb⟩
    replace HB := bel_tr HB hb
    replace HA := Lib.hid (HA.out.keep hb)
    replace HS := Lib.hid (HS.out.keep hb)
    replace R2 := Lib.hid (R2.out.keep hb)
    replace R3 := Lib.hid (R3.out.keep hb)
    clear hb
    clear R2 R3 HA
    have hb := bel_box w13 (.cells #[.int .u8 2, .int .u8 2, .int .u8 3, .int .u8 1, .int .u8 2, .int .u8 141, .int .u8 1, .int .u8 1, .int .u8 197, .int .u8 1, .int .u8 2, .int .u8 3, .int .u8 142, .int .u8 1, .int .u8 2, .int .u8 195, .int .u8 169] 5)
    have R4 : Hid (Row8 (w13.alloc (.cells #[.int .u8 2, .int .u8 2, .int .u8 3, .int .u8 1, .int .u8 2, .int .u8 141, .int .u8 1, .int .u8 1, .int .u8 197, .int .u8 1, .int .u8 2, .int .u8 3, .int .u8 142, .int .u8 1, .int .u8 2, .int .u8 195, .int .u8 169] 5)) (some ⟨w13.heap.size, 0, none⟩) [2, 2, 3, 1, 2, 141, 1, 1, 197, 1, 2, 3, 142, 1, 2, 195, 169]) := row8_lit w13 _ _ _ _ rfl
    replace HB := bel_tr HB hb
    replace HS := Lib.hid (HS.out.keep hb)
    clear hb
    go_wp2_with fail
    generalize w13.alloc (.cells #[.int .u8 2, .int .u8 2, .int .u8 3, .int .u8 1, .int .u8 2, .int .u8 141, .int .u8 1, .int .u8 1, .int .u8 197, .int .u8 1, .int .u8 2, .int .u8 3, .int .u8 142, .int .u8 1, .int .u8 2, .int .u8 195, .int .u8 169] 5) = w14 at *
    generalize w13.heap.size = r4 at *
    refine (encodes_true e3 rfl rfl (by decide) HS.out R4.out).mono ?_
    rintro e w15 ⟨rfl, hb⟩
    replace HB := bel_tr HB hb
    replace HS := Lib.hid (HS.out.keep hb)
    replace R4 := Lib.hid (R4.out.keep hb)
    clear hb
    clear R4
    go_wp2_with fail
    refine (sizes_true e4 rfl (by decide) HS.out).mono ?_
    rintro e w16 ⟨rfl, hb⟩
    replace HB := bel_tr HB hb
    replace HS := Lib.hid (HS.out.keep hb)
    clear hb
    go_wp2_with fail
    go_meet
    case rel => exact ⟨rfl, HB, HS⟩
  case rest =>
    obtain ⟨rfl, HB, HS⟩ := hcut
    go_wp2_with fail
    have hd := (Below.refl wc.heap.size wc).drew
    replace HB := bel_tr HB hd
    replace HS := Lib.hid (HS.out.keep hd)
    clear hd
    refine Sch.wp_region_flow (fun _ => True) 28 D5 (J5 w0 g1 gs u3 u4 u5 u6 u7 u8 u9 u10 u11 u12 u13 u14 u15 u16 u17 u18 u19 u20 u21 u22 u23 u24 u25 u26 u27 u28 u29 u30 u31) (by kernel_rfl) (by kernel_rfl) trivial ?_ ?_ ?_
    · exact ⟨_, _, _, _, _, _, _, _, _, _, _, _, _, _, _, _, _, _, _, _, _, _, _, _, _, _, _, _, _, fun h => absurd h (by decide), fun h => absurd h (by decide), fun h => absurd h (by decide), fun h => absurd h (by decide), fun h => absurd h (by decide), fun h => absurd h (by decide), fun h => absurd h (by decide), fun h => absurd h (by decide), fun h => absurd h (by decide), fun h => absurd h (by decide), fun h => absurd h (by decide), fun h => absurd h (by decide), fun h => absurd h (by decide), fun h => absurd h (by decide), fun h => absurd h (by decide), fun h => absurd h (by decide), fun h => absurd h (by decide), fun h => absurd h (by decide), fun h => absurd h (by decide), fun h => absurd h (by decide), fun h => absurd h (by decide), fun h => absurd h (by decide), fun h => absurd h (by decide), fun h => absurd h (by decide), fun h => absurd h (by decide), fun h => absurd h (by decide), fun h => absurd h (by decide), fun h => absurd h (by decide), HB, HS⟩
    · clear HB HS
      rintro L i hL hi hD hno hcl a w3 - ⟨_, u0, u33, u34, u35, u36, u37, u38, u39, u40, u41, u42, u43, u44, u45, u46, u47, u48, u49, u50, u51, u52, u53, u54, u55, u56, u57, u58, u59, f0, f1, f2, f3, f4, f5, f6, f7, f8, f9, f10, f11, f12, f13, f14, f15, f16, f17, f18, f19, f20, f21, f22, f23, f24, f25, f26, f27, HB, HS⟩
      have hc : i = 0 ∨ i = 1 ∨ i = 2 ∨ i = 3 ∨ i = 4 ∨ i = 5 ∨ i = 6 ∨ i = 7 ∨ i = 8 ∨ i = 9 ∨ i = 10 ∨ i = 11 ∨ i = 12 ∨ i = 13 ∨ i = 14 ∨ i = 15 ∨ i = 16 ∨ i = 17 ∨ i = 18 ∨ i = 19 ∨ i = 20 ∨ i = 21 ∨ i = 22 ∨ i = 23 ∨ i = 24 ∨ i = 25 ∨ i = 26 ∨ i = 27 := by omega
      rcases hc with rfl | rfl | rfl | rfl | rfl | rfl | rfl | rfl | rfl | rfl | rfl | rfl | rfl | rfl | rfl | rfl | rfl | rfl | rfl | rfl | rfl | rfl | rfl | rfl | rfl | rfl | rfl | rfl
      · have hb := bel_box w3 (.cells #[.int .u8 9] 5)
        have hr : Row8 (w3.alloc (.cells #[.int .u8 9] 5)) (some ⟨w3.heap.size, 0, none⟩) [9] := row8_lit w3 _ _ _ _ rfl
        refine Sch.fl_e rfl rfl (fun K hK => ?_)
        go_wp2_with fail
        refine hK _ _ trivial ⟨_, u0, _, u34, u35, u36, u37, u38, u39, u40, u41, u42, u43, u44, u45, u46, u47, u48, u49, u50, u51, u52, u53, u54, u55, u56, u57, u58, u59, fun _ => ⟨_, rfl, hr⟩, fun h1 => ((f1.out (Sch.on_ne (i := 0) (by decide) h1))).keep hb, fun h1 => (f2.out (Sch.on_ne (i := 0) (by decide) h1)), fun h1 => (f3.out (Sch.on_ne (i := 0) (by decide) h1)), fun h1 => (f4.out (Sch.on_ne (i := 0) (by decide) h1)), fun h1 => ((f5.out (Sch.on_ne (i := 0) (by decide) h1))).keep hb, fun h1 => (f6.out (Sch.on_ne (i := 0) (by decide) h1)), fun h1 => ((f7.out (Sch.on_ne (i := 0) (by decide) h1))).keep hb, fun h1 => ((f8.out (Sch.on_ne (i := 0) (by decide) h1))).keep hb, fun h1 => ((f9.out (Sch.on_ne (i := 0) (by decide) h1))).keep hb, fun h1 => (f10.out (Sch.on_ne (i := 0) (by decide) h1)), fun h1 => (f11.out (Sch.on_ne (i := 0) (by decide) h1)), fun h1 => (f12.out (Sch.on_ne (i := 0) (by decide) h1)), fun h1 => (f13.out (Sch.on_ne (i := 0) (by decide) h1)), fun h1 => ((f14.out (Sch.on_ne (i := 0) (by decide) h1))).keep hb, fun h1 => (f15.out (Sch.on_ne (i := 0) (by decide) h1)), fun h1 => (f16.out (Sch.on_ne (i := 0) (by decide) h1)), fun h1 => (f17.out (Sch.on_ne (i := 0) (by decide) h1)), fun h1 => (f18.out (Sch.on_ne (i := 0) (by decide) h1)), fun h1 => (f19.out (Sch.on_ne (i := 0) (by decide) h1)), fun h1 => (f20.out (Sch.on_ne (i := 0) (by decide) h1)), fun h1 => (f21.out (Sch.on_ne (i := 0) (by decide) h1)), fun h1 => (f22.out (Sch.on_ne (i := 0) (by decide) h1)), fun h1 => (f23.out (Sch.on_ne (i := 0) (by decide) h1)), fun h1 => ((f24.out (Sch.on_ne (i := 0) (by decide) h1))).keep hb, fun h1 => (f25.out (Sch.on_ne (i := 0) (by decide) h1)), fun h1 => (f26.out (Sch.on_ne (i := 0) (by decide) h1)), fun h1 => (f27.out (Sch.on_ne (i := 0) (by decide) h1)), bel_tr HB hb, Lib.hid (HS.out.keep hb)⟩
      · have hb := bel_box w3 (.cells #[.int .u8 9, .int .u8 0, .int .u8 0] 5)
        have hr : Row8 (w3.alloc (.cells #[.int .u8 9, .int .u8 0, .int .u8 0] 5)) (some ⟨w3.heap.size, 0, none⟩) [9, 0, 0] := row8_lit w3 _ _ _ _ rfl
        refine Sch.fl_e rfl rfl (fun K hK => ?_)
        go_wp2_with fail
        refine hK _ _ trivial ⟨_, u0, u33, _, u35, u36, u37, u38, u39, u40, u41, u42, u43, u44, u45, u46, u47, u48, u49, u50, u51, u52, u53, u54, u55, u56, u57, u58, u59, fun h1 => ((f0.out (Sch.on_ne (i := 1) (by decide) h1))).keep hb, fun _ => ⟨_, rfl, hr⟩, fun h1 => (f2.out (Sch.on_ne (i := 1) (by decide) h1)), fun h1 => (f3.out (Sch.on_ne (i := 1) (by decide) h1)), fun h1 => (f4.out (Sch.on_ne (i := 1) (by decide) h1)), fun h1 => ((f5.out (Sch.on_ne (i := 1) (by decide) h1))).keep hb, fun h1 => (f6.out (Sch.on_ne (i := 1) (by decide) h1)), fun h1 => ((f7.out (Sch.on_ne (i := 1) (by decide) h1))).keep hb, fun h1 => ((f8.out (Sch.on_ne (i := 1) (by decide) h1))).keep hb, fun h1 => ((f9.out (Sch.on_ne (i := 1) (by decide) h1))).keep hb, fun h1 => (f10.out (Sch.on_ne (i := 1) (by decide) h1)), fun h1 => (f11.out (Sch.on_ne (i := 1) (by decide) h1)), fun h1 => (f12.out (Sch.on_ne (i := 1) (by decide) h1)), fun h1 => (f13.out (Sch.on_ne (i := 1) (by decide) h1)), fun h1 => ((f14.out (Sch.on_ne (i := 1) (by decide) h1))).keep hb, fun h1 => (f15.out (Sch.on_ne (i := 1) (by decide) h1)), fun h1 => (f16.out (Sch.on_ne (i := 1) (by decide) h1)), fun h1 => (f17.out (Sch.on_ne (i := 1) (by decide) h1)), fun h1 => (f18.out (Sch.on_ne (i := 1) (by decide) h1)), fun h1 => (f19.out (Sch.on_ne (i := 1) (by decide) h1)), fun h1 => (f20.out (Sch.on_ne (i := 1) (by decide) h1)), fun h1 => (f21.out (Sch.on_ne (i := 1) (by decide) h1)), fun h1 => (f22.out (Sch.on_ne (i := 1) (by decide) h1)), fun h1 => (f23.out (Sch.on_ne (i := 1) (by decide) h1)), fun h1 => ((f24.out (Sch.on_ne (i := 1) (by decide) h1))).keep hb, fun h1 => (f25.out (Sch.on_ne (i := 1) (by decide) h1)), fun h1 => (f26.out (Sch.on_ne (i := 1) (by decide) h1)), fun h1 => (f27.out (Sch.on_ne (i := 1) (by decide) h1)), bel_tr HB hb, Lib.hid (HS.out.keep hb)⟩
      · obtain ⟨a0, rfl, hr0⟩ := f0.out (hD 0 (by decide))
        obtain ⟨a1, rfl, hr1⟩ := f1.out (hD 1 (by decide))
        refine Sch.fl_e rfl rfl (fun K hK => ?_)
        go_wp2_with fail
        refine (appends_true e5 rfl rfl rfl (by decide) (by decide) hr0 (fun h => by cases h) (RowN.nil _ _) hr1).mono ?_
        rintro e w4 ⟨rfl, hb⟩
        refine hK _ _ trivial ⟨_, u0, _, _, _, u36, u37, u38, u39, u40, u41, u42, u43, u44, u45, u46, u47, u48, u49, u50, u51, u52, u53, u54, u55, u56, u57, u58, u59, fun _ => ⟨a0, rfl, hr0.keep hb⟩, fun _ => ⟨a1, rfl, hr1.keep hb⟩, fun _ => rfl, fun h1 => (f3.out (Sch.on_ne (i := 2) (by decide) h1)), fun h1 => (f4.out (Sch.on_ne (i := 2) (by decide) h1)), fun h1 => ((f5.out (Sch.on_ne (i := 2) (by decide) h1))).keep hb, fun h1 => (f6.out (Sch.on_ne (i := 2) (by decide) h1)), fun h1 => ((f7.out (Sch.on_ne (i := 2) (by decide) h1))).keep hb, fun h1 => ((f8.out (Sch.on_ne (i := 2) (by decide) h1))).keep hb, fun h1 => ((f9.out (Sch.on_ne (i := 2) (by decide) h1))).keep hb, fun h1 => (f10.out (Sch.on_ne (i := 2) (by decide) h1)), fun h1 => (f11.out (Sch.on_ne (i := 2) (by decide) h1)), fun h1 => (f12.out (Sch.on_ne (i := 2) (by decide) h1)), fun h1 => (f13.out (Sch.on_ne (i := 2) (by decide) h1)), fun h1 => ((f14.out (Sch.on_ne (i := 2) (by decide) h1))).keep hb, fun h1 => (f15.out (Sch.on_ne (i := 2) (by decide) h1)), fun h1 => (f16.out (Sch.on_ne (i := 2) (by decide) h1)), fun h1 => (f17.out (Sch.on_ne (i := 2) (by decide) h1)), fun h1 => (f18.out (Sch.on_ne (i := 2) (by decide) h1)), fun h1 => (f19.out (Sch.on_ne (i := 2) (by decide) h1)), fun h1 => (f20.out (Sch.on_ne (i := 2) (by decide) h1)), fun h1 => (f21.out (Sch.on_ne (i := 2) (by decide) h1)), fun h1 => (f22.out (Sch.on_ne (i := 2) (by decide) h1)), fun h1 => (f23.out (Sch.on_ne (i := 2) (by decide) h1)), fun h1 => ((f24.out (Sch.on_ne (i := 2) (by decide) h1))).keep hb, fun h1 => (f25.out (Sch.on_ne (i := 2) (by decide) h1)), fun h1 => (f26.out (Sch.on_ne (i := 2) (by decide) h1)), fun h1 => (f27.out (Sch.on_ne (i := 2) (by decide) h1)), bel_tr HB hb, Lib.hid (HS.out.keep hb)⟩
      · obtain rfl := f2.out (hD 2 (by decide))
        refine Sch.fl_e rfl rfl (fun K hK => ?_)
        go_wp2_with fail
        refine hK _ _ trivial ⟨_, u0, u33, u34, _, _, u37, u38, u39, u40, u41, u42, u43, u44, u45, u46, u47, u48, u49, u50, u51, u52, u53, u54, u55, u56, u57, u58, u59, fun h1 => (f0.out (Sch.on_ne (i := 3) (by decide) h1)), fun h1 => (f1.out (Sch.on_ne (i := 3) (by decide) h1)), fun _ => rfl, fun _ => rfl, fun h1 => (f4.out (Sch.on_ne (i := 3) (by decide) h1)), fun h1 => (f5.out (Sch.on_ne (i := 3) (by decide) h1)), fun h1 => (f6.out (Sch.on_ne (i := 3) (by decide) h1)), fun h1 => (f7.out (Sch.on_ne (i := 3) (by decide) h1)), fun h1 => (f8.out (Sch.on_ne (i := 3) (by decide) h1)), fun h1 => (f9.out (Sch.on_ne (i := 3) (by decide) h1)), fun h1 => (f10.out (Sch.on_ne (i := 3) (by decide) h1)), fun h1 => (f11.out (Sch.on_ne (i := 3) (by decide) h1)), fun h1 => (f12.out (Sch.on_ne (i := 3) (by decide) h1)), fun h1 => (f13.out (Sch.on_ne (i := 3) (by decide) h1)), fun h1 => (f14.out (Sch.on_ne (i := 3) (by decide) h1)), fun h1 => (f15.out (Sch.on_ne (i := 3) (by decide) h1)), fun h1 => (f16.out (Sch.on_ne (i := 3) (by decide) h1)), fun h1 => (f17.out (Sch.on_ne (i := 3) (by decide) h1)), fun h1 => (f18.out (Sch.on_ne (i := 3) (by decide) h1)), fun h1 => (f19.out (Sch.on_ne (i := 3) (by decide) h1)), fun h1 => (f20.out (Sch.on_ne (i := 3) (by decide) h1)), fun h1 => (f21.out (Sch.on_ne (i := 3) (by decide) h1)), fun h1 => (f22.out (Sch.on_ne (i := 3) (by decide) h1)), fun h1 => (f23.out (Sch.on_ne (i := 3) (by decide) h1)), fun h1 => (f24.out (Sch.on_ne (i := 3) (by decide) h1)), fun h1 => (f25.out (Sch.on_ne (i := 3) (by decide) h1)), fun h1 => (f26.out (Sch.on_ne (i := 3) (by decide) h1)), fun h1 => (f27.out (Sch.on_ne (i := 3) (by decide) h1)), HB, HS⟩
      · obtain rfl := f3.out (hD 3 (by decide))
        refine Sch.fl_e rfl rfl (fun K hK => ?_)
        go_wp2_with fail
        refine (dot_law 1 2 _).mono ?_
        rintro e w4 ⟨rfl, hb⟩
        refine hK _ _ trivial ⟨_, u0, u33, u34, u35, _, _, u38, u39, u40, u41, u42, u43, u44, u45, u46, u47, u48, u49, u50, u51, u52, u53, u54, u55, u56, u57, u58, u59, fun h1 => ((f0.out (Sch.on_ne (i := 4) (by decide) h1))).keep hb, fun h1 => ((f1.out (Sch.on_ne (i := 4) (by decide) h1))).keep hb, fun h1 => (f2.out (Sch.on_ne (i := 4) (by decide) h1)), fun _ => rfl, fun _ => rfl, fun h1 => ((f5.out (Sch.on_ne (i := 4) (by decide) h1))).keep hb, fun h1 => (f6.out (Sch.on_ne (i := 4) (by decide) h1)), fun h1 => ((f7.out (Sch.on_ne (i := 4) (by decide) h1))).keep hb, fun h1 => ((f8.out (Sch.on_ne (i := 4) (by decide) h1))).keep hb, fun h1 => ((f9.out (Sch.on_ne (i := 4) (by decide) h1))).keep hb, fun h1 => (f10.out (Sch.on_ne (i := 4) (by decide) h1)), fun h1 => (f11.out (Sch.on_ne (i := 4) (by decide) h1)), fun h1 => (f12.out (Sch.on_ne (i := 4) (by decide) h1)), fun h1 => (f13.out (Sch.on_ne (i := 4) (by decide) h1)), fun h1 => ((f14.out (Sch.on_ne (i := 4) (by decide) h1))).keep hb, fun h1 => (f15.out (Sch.on_ne (i := 4) (by decide) h1)), fun h1 => (f16.out (Sch.on_ne (i := 4) (by decide) h1)), fun h1 => (f17.out (Sch.on_ne (i := 4) (by decide) h1)), fun h1 => (f18.out (Sch.on_ne (i := 4) (by decide) h1)), fun h1 => (f19.out (Sch.on_ne (i := 4) (by decide) h1)), fun h1 => (f20.out (Sch.on_ne (i := 4) (by decide) h1)), fun h1 => (f21.out (Sch.on_ne (i := 4) (by decide) h1)), fun h1 => (f22.out (Sch.on_ne (i := 4) (by decide) h1)), fun h1 => (f23.out (Sch.on_ne (i := 4) (by decide) h1)), fun h1 => ((f24.out (Sch.on_ne (i := 4) (by decide) h1))).keep hb, fun h1 => (f25.out (Sch.on_ne (i := 4) (by decide) h1)), fun h1 => (f26.out (Sch.on_ne (i := 4) (by decide) h1)), fun h1 => (f27.out (Sch.on_ne (i := 4) (by decide) h1)), bel_tr HB hb, Lib.hid (HS.out.keep hb)⟩
      · obtain rfl := f4.out (hD 4 (by decide))
        obtain rfl := f3.out (hD 3 (by decide))
        have hb := bel_box w3 (.cells #[.int .i64 1, .int .i64 2] 36)
        have hr : RowD (w3.alloc (.cells #[.int .i64 1, .int .i64 2] 36)) (some ⟨w3.heap.size, 0, none⟩) [(1, 2)] := RowD.lit w3 [(1, 2)] _ _ _ rfl
        refine Sch.fl_e rfl rfl (fun K hK => ?_)
        go_wp2_with fail
        refine hK _ _ trivial ⟨_, u0, u33, u34, u35, _, _, _, u39, u40, u41, u42, u43, u44, u45, u46, u47, u48, u49, u50, u51, u52, u53, u54, u55, u56, u57, u58, u59, fun h1 => ((f0.out (Sch.on_ne (i := 5) (by decide) h1))).keep hb, fun h1 => ((f1.out (Sch.on_ne (i := 5) (by decide) h1))).keep hb, fun h1 => (f2.out (Sch.on_ne (i := 5) (by decide) h1)), fun _ => rfl, fun _ => rfl, fun _ => ⟨_, rfl, hr⟩, fun h1 => (f6.out (Sch.on_ne (i := 5) (by decide) h1)), fun h1 => ((f7.out (Sch.on_ne (i := 5) (by decide) h1))).keep hb, fun h1 => ((f8.out (Sch.on_ne (i := 5) (by decide) h1))).keep hb, fun h1 => ((f9.out (Sch.on_ne (i := 5) (by decide) h1))).keep hb, fun h1 => (f10.out (Sch.on_ne (i := 5) (by decide) h1)), fun h1 => (f11.out (Sch.on_ne (i := 5) (by decide) h1)), fun h1 => (f12.out (Sch.on_ne (i := 5) (by decide) h1)), fun h1 => (f13.out (Sch.on_ne (i := 5) (by decide) h1)), fun h1 => ((f14.out (Sch.on_ne (i := 5) (by decide) h1))).keep hb, fun h1 => (f15.out (Sch.on_ne (i := 5) (by decide) h1)), fun h1 => (f16.out (Sch.on_ne (i := 5) (by decide) h1)), fun h1 => (f17.out (Sch.on_ne (i := 5) (by decide) h1)), fun h1 => (f18.out (Sch.on_ne (i := 5) (by decide) h1)), fun h1 => (f19.out (Sch.on_ne (i := 5) (by decide) h1)), fun h1 => (f20.out (Sch.on_ne (i := 5) (by decide) h1)), fun h1 => (f21.out (Sch.on_ne (i := 5) (by decide) h1)), fun h1 => (f22.out (Sch.on_ne (i := 5) (by decide) h1)), fun h1 => (f23.out (Sch.on_ne (i := 5) (by decide) h1)), fun h1 => ((f24.out (Sch.on_ne (i := 5) (by decide) h1))).keep hb, fun h1 => (f25.out (Sch.on_ne (i := 5) (by decide) h1)), fun h1 => (f26.out (Sch.on_ne (i := 5) (by decide) h1)), fun h1 => (f27.out (Sch.on_ne (i := 5) (by decide) h1)), bel_tr HB hb, Lib.hid (HS.out.keep hb)⟩
      · obtain rfl := f4.out (hD 4 (by decide))
        obtain rfl := f3.out (hD 3 (by decide))
        refine Sch.fl_e rfl rfl (fun K hK => ?_)
        go_wp2_with fail
        refine (dot_law 3 300 _).mono ?_
        rintro e w4 ⟨rfl, hb⟩
        refine hK _ _ trivial ⟨_, u0, u33, u34, u35, _, _, u38, _, u40, u41, u42, u43, u44, u45, u46, u47, u48, u49, u50, u51, u52, u53, u54, u55, u56, u57, u58, u59, fun h1 => ((f0.out (Sch.on_ne (i := 6) (by decide) h1))).keep hb, fun h1 => ((f1.out (Sch.on_ne (i := 6) (by decide) h1))).keep hb, fun h1 => (f2.out (Sch.on_ne (i := 6) (by decide) h1)), fun _ => rfl, fun _ => rfl, fun h1 => ((f5.out (Sch.on_ne (i := 6) (by decide) h1))).keep hb, fun _ => rfl, fun h1 => ((f7.out (Sch.on_ne (i := 6) (by decide) h1))).keep hb, fun h1 => ((f8.out (Sch.on_ne (i := 6) (by decide) h1))).keep hb, fun h1 => ((f9.out (Sch.on_ne (i := 6) (by decide) h1))).keep hb, fun h1 => (f10.out (Sch.on_ne (i := 6) (by decide) h1)), fun h1 => (f11.out (Sch.on_ne (i := 6) (by decide) h1)), fun h1 => (f12.out (Sch.on_ne (i := 6) (by decide) h1)), fun h1 => (f13.out (Sch.on_ne (i := 6) (by decide) h1)), fun h1 => ((f14.out (Sch.on_ne (i := 6) (by decide) h1))).keep hb, fun h1 => (f15.out (Sch.on_ne (i := 6) (by decide) h1)), fun h1 => (f16.out (Sch.on_ne (i := 6) (by decide) h1)), fun h1 => (f17.out (Sch.on_ne (i := 6) (by decide) h1)), fun h1 => (f18.out (Sch.on_ne (i := 6) (by decide) h1)), fun h1 => (f19.out (Sch.on_ne (i := 6) (by decide) h1)), fun h1 => (f20.out (Sch.on_ne (i := 6) (by decide) h1)), fun h1 => (f21.out (Sch.on_ne (i := 6) (by decide) h1)), fun h1 => (f22.out (Sch.on_ne (i := 6) (by decide) h1)), fun h1 => (f23.out (Sch.on_ne (i := 6) (by decide) h1)), fun h1 => ((f24.out (Sch.on_ne (i := 6) (by decide) h1))).keep hb, fun h1 => (f25.out (Sch.on_ne (i := 6) (by decide) h1)), fun h1 => (f26.out (Sch.on_ne (i := 6) (by decide) h1)), fun h1 => (f27.out (Sch.on_ne (i := 6) (by decide) h1)), bel_tr HB hb, Lib.hid (HS.out.keep hb)⟩
      · obtain rfl := f6.out (hD 6 (by decide))
        obtain rfl := f3.out (hD 3 (by decide))
        have hb := bel_box w3 (.cells #[.int .i64 3, .int .i64 300] 36)
        have hr : RowD (w3.alloc (.cells #[.int .i64 3, .int .i64 300] 36)) (some ⟨w3.heap.size, 0, none⟩) [(3, 300)] := RowD.lit w3 [(3, 300)] _ _ _ rfl
        refine Sch.fl_e rfl rfl (fun K hK => ?_)
        go_wp2_with fail
        refine hK _ _ trivial ⟨_, u0, u33, u34, u35, _, u37, u38, _, _, u41, u42, u43, u44, u45, u46, u47, u48, u49, u50, u51, u52, u53, u54, u55, u56, u57, u58, u59, fun h1 => ((f0.out (Sch.on_ne (i := 7) (by decide) h1))).keep hb, fun h1 => ((f1.out (Sch.on_ne (i := 7) (by decide) h1))).keep hb, fun h1 => (f2.out (Sch.on_ne (i := 7) (by decide) h1)), fun _ => rfl, fun h1 => (f4.out (Sch.on_ne (i := 7) (by decide) h1)), fun h1 => ((f5.out (Sch.on_ne (i := 7) (by decide) h1))).keep hb, fun _ => rfl, fun _ => ⟨_, rfl, hr⟩, fun h1 => ((f8.out (Sch.on_ne (i := 7) (by decide) h1))).keep hb, fun h1 => ((f9.out (Sch.on_ne (i := 7) (by decide) h1))).keep hb, fun h1 => (f10.out (Sch.on_ne (i := 7) (by decide) h1)), fun h1 => (f11.out (Sch.on_ne (i := 7) (by decide) h1)), fun h1 => (f12.out (Sch.on_ne (i := 7) (by decide) h1)), fun h1 => (f13.out (Sch.on_ne (i := 7) (by decide) h1)), fun h1 => ((f14.out (Sch.on_ne (i := 7) (by decide) h1))).keep hb, fun h1 => (f15.out (Sch.on_ne (i := 7) (by decide) h1)), fun h1 => (f16.out (Sch.on_ne (i := 7) (by decide) h1)), fun h1 => (f17.out (Sch.on_ne (i := 7) (by decide) h1)), fun h1 => (f18.out (Sch.on_ne (i := 7) (by decide) h1)), fun h1 => (f19.out (Sch.on_ne (i := 7) (by decide) h1)), fun h1 => (f20.out (Sch.on_ne (i := 7) (by decide) h1)), fun h1 => (f21.out (Sch.on_ne (i := 7) (by decide) h1)), fun h1 => (f22.out (Sch.on_ne (i := 7) (by decide) h1)), fun h1 => (f23.out (Sch.on_ne (i := 7) (by decide) h1)), fun h1 => ((f24.out (Sch.on_ne (i := 7) (by decide) h1))).keep hb, fun h1 => (f25.out (Sch.on_ne (i := 7) (by decide) h1)), fun h1 => (f26.out (Sch.on_ne (i := 7) (by decide) h1)), fun h1 => (f27.out (Sch.on_ne (i := 7) (by decide) h1)), bel_tr HB hb, Lib.hid (HS.out.keep hb)⟩
      · obtain ⟨a5, rfl, hr5⟩ := f5.out (hD 5 (by decide))
        obtain ⟨a7, rfl, hr7⟩ := f7.out (hD 7 (by decide))
        obtain rfl := f3.out (hD 3 (by decide))
        refine Sch.fl_e rfl rfl (fun K hK => ?_)
        go_wp2_with fail
        refine hK _ _ trivial ⟨_, u0, u33, u34, u35, _, u37, _, u39, _, _, u42, u43, u44, u45, u46, u47, u48, u49, u50, u51, u52, u53, u54, u55, u56, u57, u58, u59, fun h1 => (f0.out (Sch.on_ne (i := 8) (by decide) h1)), fun h1 => (f1.out (Sch.on_ne (i := 8) (by decide) h1)), fun h1 => (f2.out (Sch.on_ne (i := 8) (by decide) h1)), fun _ => rfl, fun h1 => (f4.out (Sch.on_ne (i := 8) (by decide) h1)), fun _ => ⟨a5, rfl, hr5⟩, fun h1 => (f6.out (Sch.on_ne (i := 8) (by decide) h1)), fun _ => ⟨a7, rfl, hr7⟩, fun _ => ⟨_, _, rfl, sv_lit hr5, sv_lit hr7⟩, fun h1 => (f9.out (Sch.on_ne (i := 8) (by decide) h1)), fun h1 => (f10.out (Sch.on_ne (i := 8) (by decide) h1)), fun h1 => (f11.out (Sch.on_ne (i := 8) (by decide) h1)), fun h1 => (f12.out (Sch.on_ne (i := 8) (by decide) h1)), fun h1 => (f13.out (Sch.on_ne (i := 8) (by decide) h1)), fun h1 => (f14.out (Sch.on_ne (i := 8) (by decide) h1)), fun h1 => (f15.out (Sch.on_ne (i := 8) (by decide) h1)), fun h1 => (f16.out (Sch.on_ne (i := 8) (by decide) h1)), fun h1 => (f17.out (Sch.on_ne (i := 8) (by decide) h1)), fun h1 => (f18.out (Sch.on_ne (i := 8) (by decide) h1)), fun h1 => (f19.out (Sch.on_ne (i := 8) (by decide) h1)), fun h1 => (f20.out (Sch.on_ne (i := 8) (by decide) h1)), fun h1 => (f21.out (Sch.on_ne (i := 8) (by decide) h1)), fun h1 => (f22.out (Sch.on_ne (i := 8) (by decide) h1)), fun h1 => (f23.out (Sch.on_ne (i := 8) (by decide) h1)), fun h1 => (f24.out (Sch.on_ne (i := 8) (by decide) h1)), fun h1 => (f25.out (Sch.on_ne (i := 8) (by decide) h1)), fun h1 => (f26.out (Sch.on_ne (i := 8) (by decide) h1)), fun h1 => (f27.out (Sch.on_ne (i := 8) (by decide) h1)), HB, HS⟩
      · obtain rfl := f3.out (hD 3 (by decide))
        have hb := bel_box w3 (.cells #[.int .u8 1, .int .u8 1, .int .u8 2, .int .u8 1, .int .u8 3, .int .u8 172, .int .u8 2] 5)
        have hr : Row8 (w3.alloc (.cells #[.int .u8 1, .int .u8 1, .int .u8 2, .int .u8 1, .int .u8 3, .int .u8 172, .int .u8 2] 5)) (some ⟨w3.heap.size, 0, none⟩) [1, 1, 2, 1, 3, 172, 2] := row8_lit w3 _ _ _ _ rfl
        refine Sch.fl_e rfl rfl (fun K hK => ?_)
        go_wp2_with fail
        refine hK _ _ trivial ⟨_, u0, u33, u34, u35, _, u37, u38, u39, u40, u41, _, u43, u44, u45, u46, u47, u48, u49, u50, u51, u52, u53, u54, u55, u56, u57, u58, u59, fun h1 => ((f0.out (Sch.on_ne (i := 9) (by decide) h1))).keep hb, fun h1 => ((f1.out (Sch.on_ne (i := 9) (by decide) h1))).keep hb, fun h1 => (f2.out (Sch.on_ne (i := 9) (by decide) h1)), fun _ => rfl, fun h1 => (f4.out (Sch.on_ne (i := 9) (by decide) h1)), fun h1 => ((f5.out (Sch.on_ne (i := 9) (by decide) h1))).keep hb, fun h1 => (f6.out (Sch.on_ne (i := 9) (by decide) h1)), fun h1 => ((f7.out (Sch.on_ne (i := 9) (by decide) h1))).keep hb, fun h1 => ((f8.out (Sch.on_ne (i := 9) (by decide) h1))).keep hb, fun _ => ⟨_, rfl, hr⟩, fun h1 => (f10.out (Sch.on_ne (i := 9) (by decide) h1)), fun h1 => (f11.out (Sch.on_ne (i := 9) (by decide) h1)), fun h1 => (f12.out (Sch.on_ne (i := 9) (by decide) h1)), fun h1 => (f13.out (Sch.on_ne (i := 9) (by decide) h1)), fun h1 => ((f14.out (Sch.on_ne (i := 9) (by decide) h1))).keep hb, fun h1 => (f15.out (Sch.on_ne (i := 9) (by decide) h1)), fun h1 => (f16.out (Sch.on_ne (i := 9) (by decide) h1)), fun h1 => (f17.out (Sch.on_ne (i := 9) (by decide) h1)), fun h1 => (f18.out (Sch.on_ne (i := 9) (by decide) h1)), fun h1 => (f19.out (Sch.on_ne (i := 9) (by decide) h1)), fun h1 => (f20.out (Sch.on_ne (i := 9) (by decide) h1)), fun h1 => (f21.out (Sch.on_ne (i := 9) (by decide) h1)), fun h1 => (f22.out (Sch.on_ne (i := 9) (by decide) h1)), fun h1 => (f23.out (Sch.on_ne (i := 9) (by decide) h1)), fun h1 => ((f24.out (Sch.on_ne (i := 9) (by decide) h1))).keep hb, fun h1 => (f25.out (Sch.on_ne (i := 9) (by decide) h1)), fun h1 => (f26.out (Sch.on_ne (i := 9) (by decide) h1)), fun h1 => (f27.out (Sch.on_ne (i := 9) (by decide) h1)), bel_tr HB hb, Lib.hid (HS.out.keep hb)⟩
      · obtain ⟨x8, y8, rfl, hr8⟩ := f8.out (hD 8 (by decide))
        obtain ⟨a9, rfl, hr9⟩ := f9.out (hD 9 (by decide))
        obtain rfl := f6.out (hD 6 (by decide))
        obtain rfl := f3.out (hD 3 (by decide))
        refine Sch.fl_e rfl rfl (fun K hK => ?_)
        go_wp2_with fail
        refine (contexts_true e6 rfl ⟨by decide, by decide⟩ hr8 hr9).mono ?_
        rintro e w4 ⟨rfl, hb⟩
        refine hK _ _ trivial ⟨_, u0, u33, u34, u35, _, u37, u38, _, u40, _, _, _, u44, u45, u46, u47, u48, u49, u50, u51, u52, u53, u54, u55, u56, u57, u58, u59, fun h1 => ((f0.out (Sch.on_ne (i := 10) (by decide) h1))).keep hb, fun h1 => ((f1.out (Sch.on_ne (i := 10) (by decide) h1))).keep hb, fun h1 => (f2.out (Sch.on_ne (i := 10) (by decide) h1)), fun _ => rfl, fun h1 => (f4.out (Sch.on_ne (i := 10) (by decide) h1)), fun h1 => ((f5.out (Sch.on_ne (i := 10) (by decide) h1))).keep hb, fun _ => rfl, fun h1 => ((f7.out (Sch.on_ne (i := 10) (by decide) h1))).keep hb, fun _ => ⟨x8, y8, rfl, hr8.keep hb⟩, fun _ => ⟨a9, rfl, hr9.keep hb⟩, fun _ => rfl, fun h1 => (f11.out (Sch.on_ne (i := 10) (by decide) h1)), fun h1 => (f12.out (Sch.on_ne (i := 10) (by decide) h1)), fun h1 => (f13.out (Sch.on_ne (i := 10) (by decide) h1)), fun h1 => ((f14.out (Sch.on_ne (i := 10) (by decide) h1))).keep hb, fun h1 => (f15.out (Sch.on_ne (i := 10) (by decide) h1)), fun h1 => (f16.out (Sch.on_ne (i := 10) (by decide) h1)), fun h1 => (f17.out (Sch.on_ne (i := 10) (by decide) h1)), fun h1 => (f18.out (Sch.on_ne (i := 10) (by decide) h1)), fun h1 => (f19.out (Sch.on_ne (i := 10) (by decide) h1)), fun h1 => (f20.out (Sch.on_ne (i := 10) (by decide) h1)), fun h1 => (f21.out (Sch.on_ne (i := 10) (by decide) h1)), fun h1 => (f22.out (Sch.on_ne (i := 10) (by decide) h1)), fun h1 => (f23.out (Sch.on_ne (i := 10) (by decide) h1)), fun h1 => ((f24.out (Sch.on_ne (i := 10) (by decide) h1))).keep hb, fun h1 => (f25.out (Sch.on_ne (i := 10) (by decide) h1)), fun h1 => (f26.out (Sch.on_ne (i := 10) (by decide) h1)), fun h1 => (f27.out (Sch.on_ne (i := 10) (by decide) h1)), bel_tr HB hb, Lib.hid (HS.out.keep hb)⟩
      · obtain rfl := f3.out (hD 3 (by decide))
        obtain rfl := f10.out (hD 10 (by decide))
        refine Sch.fl_e rfl rfl (fun K hK => ?_)
        go_wp2_with fail
        refine hK _ _ trivial ⟨_, u0, u33, u34, u35, _, u37, u38, u39, u40, u41, u42, _, _, u45, u46, u47, u48, u49, u50, u51, u52, u53, u54, u55, u56, u57, u58, u59, fun h1 => (f0.out (Sch.on_ne (i := 11) (by decide) h1)), fun h1 => (f1.out (Sch.on_ne (i := 11) (by decide) h1)), fun h1 => (f2.out (Sch.on_ne (i := 11) (by decide) h1)), fun _ => rfl, fun h1 => (f4.out (Sch.on_ne (i := 11) (by decide) h1)), fun h1 => (f5.out (Sch.on_ne (i := 11) (by decide) h1)), fun h1 => (f6.out (Sch.on_ne (i := 11) (by decide) h1)), fun h1 => (f7.out (Sch.on_ne (i := 11) (by decide) h1)), fun h1 => (f8.out (Sch.on_ne (i := 11) (by decide) h1)), fun h1 => (f9.out (Sch.on_ne (i := 11) (by decide) h1)), fun _ => rfl, fun _ => rfl, fun h1 => (f12.out (Sch.on_ne (i := 11) (by decide) h1)), fun h1 => (f13.out (Sch.on_ne (i := 11) (by decide) h1)), fun h1 => (f14.out (Sch.on_ne (i := 11) (by decide) h1)), fun h1 => (f15.out (Sch.on_ne (i := 11) (by decide) h1)), fun h1 => (f16.out (Sch.on_ne (i := 11) (by decide) h1)), fun h1 => (f17.out (Sch.on_ne (i := 11) (by decide) h1)), fun h1 => (f18.out (Sch.on_ne (i := 11) (by decide) h1)), fun h1 => (f19.out (Sch.on_ne (i := 11) (by decide) h1)), fun h1 => (f20.out (Sch.on_ne (i := 11) (by decide) h1)), fun h1 => (f21.out (Sch.on_ne (i := 11) (by decide) h1)), fun h1 => (f22.out (Sch.on_ne (i := 11) (by decide) h1)), fun h1 => (f23.out (Sch.on_ne (i := 11) (by decide) h1)), fun h1 => (f24.out (Sch.on_ne (i := 11) (by decide) h1)), fun h1 => (f25.out (Sch.on_ne (i := 11) (by decide) h1)), fun h1 => (f26.out (Sch.on_ne (i := 11) (by decide) h1)), fun h1 => (f27.out (Sch.on_ne (i := 11) (by decide) h1)), HB, HS⟩
      · obtain rfl := f11.out (hD 11 (by decide))
        obtain rfl := f10.out (hD 10 (by decide))
        refine Sch.fl_e rfl rfl (fun K hK => ?_)
        go_wp2_with fail
        refine hK _ _ trivial ⟨_, u0, u33, u34, u35, u36, u37, u38, u39, u40, u41, u42, _, _, _, u46, u47, u48, u49, u50, u51, u52, u53, u54, u55, u56, u57, u58, u59, fun h1 => (f0.out (Sch.on_ne (i := 12) (by decide) h1)), fun h1 => (f1.out (Sch.on_ne (i := 12) (by decide) h1)), fun h1 => (f2.out (Sch.on_ne (i := 12) (by decide) h1)), fun h1 => (f3.out (Sch.on_ne (i := 12) (by decide) h1)), fun h1 => (f4.out (Sch.on_ne (i := 12) (by decide) h1)), fun h1 => (f5.out (Sch.on_ne (i := 12) (by decide) h1)), fun h1 => (f6.out (Sch.on_ne (i := 12) (by decide) h1)), fun h1 => (f7.out (Sch.on_ne (i := 12) (by decide) h1)), fun h1 => (f8.out (Sch.on_ne (i := 12) (by decide) h1)), fun h1 => (f9.out (Sch.on_ne (i := 12) (by decide) h1)), fun _ => rfl, fun _ => rfl, fun _ => rfl, fun h1 => (f13.out (Sch.on_ne (i := 12) (by decide) h1)), fun h1 => (f14.out (Sch.on_ne (i := 12) (by decide) h1)), fun h1 => (f15.out (Sch.on_ne (i := 12) (by decide) h1)), fun h1 => (f16.out (Sch.on_ne (i := 12) (by decide) h1)), fun h1 => (f17.out (Sch.on_ne (i := 12) (by decide) h1)), fun h1 => (f18.out (Sch.on_ne (i := 12) (by decide) h1)), fun h1 => (f19.out (Sch.on_ne (i := 12) (by decide) h1)), fun h1 => (f20.out (Sch.on_ne (i := 12) (by decide) h1)), fun h1 => (f21.out (Sch.on_ne (i := 12) (by decide) h1)), fun h1 => (f22.out (Sch.on_ne (i := 12) (by decide) h1)), fun h1 => (f23.out (Sch.on_ne (i := 12) (by decide) h1)), fun h1 => (f24.out (Sch.on_ne (i := 12) (by decide) h1)), fun h1 => (f25.out (Sch.on_ne (i := 12) (by decide) h1)), fun h1 => (f26.out (Sch.on_ne (i := 12) (by decide) h1)), fun h1 => (f27.out (Sch.on_ne (i := 12) (by decide) h1)), HB, HS⟩
      · obtain rfl := f12.out (hD 12 (by decide))
        refine Sch.fl_e rfl rfl (fun K hK => ?_)
        go_wp2_with fail
        refine hK _ _ trivial ⟨_, u0, u33, u34, u35, u36, u37, u38, u39, u40, u41, u42, u43, u44, _, _, u47, u48, u49, u50, u51, u52, u53, u54, u55, u56, u57, u58, u59, fun h1 => (f0.out (Sch.on_ne (i := 13) (by decide) h1)), fun h1 => (f1.out (Sch.on_ne (i := 13) (by decide) h1)), fun h1 => (f2.out (Sch.on_ne (i := 13) (by decide) h1)), fun h1 => (f3.out (Sch.on_ne (i := 13) (by decide) h1)), fun h1 => (f4.out (Sch.on_ne (i := 13) (by decide) h1)), fun h1 => (f5.out (Sch.on_ne (i := 13) (by decide) h1)), fun h1 => (f6.out (Sch.on_ne (i := 13) (by decide) h1)), fun h1 => (f7.out (Sch.on_ne (i := 13) (by decide) h1)), fun h1 => (f8.out (Sch.on_ne (i := 13) (by decide) h1)), fun h1 => (f9.out (Sch.on_ne (i := 13) (by decide) h1)), fun h1 => (f10.out (Sch.on_ne (i := 13) (by decide) h1)), fun h1 => (f11.out (Sch.on_ne (i := 13) (by decide) h1)), fun _ => rfl, fun _ => rfl, fun h1 => (f14.out (Sch.on_ne (i := 13) (by decide) h1)), fun h1 => (f15.out (Sch.on_ne (i := 13) (by decide) h1)), fun h1 => (f16.out (Sch.on_ne (i := 13) (by decide) h1)), fun h1 => (f17.out (Sch.on_ne (i := 13) (by decide) h1)), fun h1 => (f18.out (Sch.on_ne (i := 13) (by decide) h1)), fun h1 => (f19.out (Sch.on_ne (i := 13) (by decide) h1)), fun h1 => (f20.out (Sch.on_ne (i := 13) (by decide) h1)), fun h1 => (f21.out (Sch.on_ne (i := 13) (by decide) h1)), fun h1 => (f22.out (Sch.on_ne (i := 13) (by decide) h1)), fun h1 => (f23.out (Sch.on_ne (i := 13) (by decide) h1)), fun h1 => (f24.out (Sch.on_ne (i := 13) (by decide) h1)), fun h1 => (f25.out (Sch.on_ne (i := 13) (by decide) h1)), fun h1 => (f26.out (Sch.on_ne (i := 13) (by decide) h1)), fun h1 => (f27.out (Sch.on_ne (i := 13) (by decide) h1)), HB, HS⟩
      · obtain rfl := f12.out (hD 12 (by decide))
        have hb := bel_box w3 (.cells #[.int .u8 0, .int .u8 0] 5)
        have hr : Row8 (w3.alloc (.cells #[.int .u8 0, .int .u8 0] 5)) (some ⟨w3.heap.size, 0, none⟩) [0, 0] := row8_lit w3 _ _ _ _ rfl
        refine Sch.fl_e rfl rfl (fun K hK => ?_)
        go_wp2_with fail
        refine hK _ _ trivial ⟨_, u0, u33, u34, u35, u36, u37, u38, u39, u40, u41, u42, u43, u44, _, u46, _, u48, u49, u50, u51, u52, u53, u54, u55, u56, u57, u58, u59, fun h1 => ((f0.out (Sch.on_ne (i := 14) (by decide) h1))).keep hb, fun h1 => ((f1.out (Sch.on_ne (i := 14) (by decide) h1))).keep hb, fun h1 => (f2.out (Sch.on_ne (i := 14) (by decide) h1)), fun h1 => (f3.out (Sch.on_ne (i := 14) (by decide) h1)), fun h1 => (f4.out (Sch.on_ne (i := 14) (by decide) h1)), fun h1 => ((f5.out (Sch.on_ne (i := 14) (by decide) h1))).keep hb, fun h1 => (f6.out (Sch.on_ne (i := 14) (by decide) h1)), fun h1 => ((f7.out (Sch.on_ne (i := 14) (by decide) h1))).keep hb, fun h1 => ((f8.out (Sch.on_ne (i := 14) (by decide) h1))).keep hb, fun h1 => ((f9.out (Sch.on_ne (i := 14) (by decide) h1))).keep hb, fun h1 => (f10.out (Sch.on_ne (i := 14) (by decide) h1)), fun h1 => (f11.out (Sch.on_ne (i := 14) (by decide) h1)), fun _ => rfl, fun h1 => (f13.out (Sch.on_ne (i := 14) (by decide) h1)), fun _ => ⟨_, rfl, hr⟩, fun h1 => (f15.out (Sch.on_ne (i := 14) (by decide) h1)), fun h1 => (f16.out (Sch.on_ne (i := 14) (by decide) h1)), fun h1 => (f17.out (Sch.on_ne (i := 14) (by decide) h1)), fun h1 => (f18.out (Sch.on_ne (i := 14) (by decide) h1)), fun h1 => (f19.out (Sch.on_ne (i := 14) (by decide) h1)), fun h1 => (f20.out (Sch.on_ne (i := 14) (by decide) h1)), fun h1 => (f21.out (Sch.on_ne (i := 14) (by decide) h1)), fun h1 => (f22.out (Sch.on_ne (i := 14) (by decide) h1)), fun h1 => (f23.out (Sch.on_ne (i := 14) (by decide) h1)), fun h1 => ((f24.out (Sch.on_ne (i := 14) (by decide) h1))).keep hb, fun h1 => (f25.out (Sch.on_ne (i := 14) (by decide) h1)), fun h1 => (f26.out (Sch.on_ne (i := 14) (by decide) h1)), fun h1 => (f27.out (Sch.on_ne (i := 14) (by decide) h1)), bel_tr HB hb, Lib.hid (HS.out.keep hb)⟩
      · obtain rfl := f13.out (hD 13 (by decide))
        obtain ⟨a14, rfl, hr14⟩ := f14.out (hD 14 (by decide))
        obtain rfl := f12.out (hD 12 (by decide))
        refine Sch.fl_e rfl rfl (fun K hK => ?_)
        go_wp2_with fail
        refine (contexts_true e7 rfl ⟨by decide, by decide⟩ (Kx.nil _) hr14).mono ?_
        rintro e w4 ⟨rfl, hb⟩
        refine hK _ _ trivial ⟨_, u0, u33, u34, u35, u36, u37, u38, u39, u40, u41, u42, u43, u44, _, _, _, _, u49, u50, u51, u52, u53, u54, u55, u56, u57, u58, u59, fun h1 => ((f0.out (Sch.on_ne (i := 15) (by decide) h1))).keep hb, fun h1 => ((f1.out (Sch.on_ne (i := 15) (by decide) h1))).keep hb, fun h1 => (f2.out (Sch.on_ne (i := 15) (by decide) h1)), fun h1 => (f3.out (Sch.on_ne (i := 15) (by decide) h1)), fun h1 => (f4.out (Sch.on_ne (i := 15) (by decide) h1)), fun h1 => ((f5.out (Sch.on_ne (i := 15) (by decide) h1))).keep hb, fun h1 => (f6.out (Sch.on_ne (i := 15) (by decide) h1)), fun h1 => ((f7.out (Sch.on_ne (i := 15) (by decide) h1))).keep hb, fun h1 => ((f8.out (Sch.on_ne (i := 15) (by decide) h1))).keep hb, fun h1 => ((f9.out (Sch.on_ne (i := 15) (by decide) h1))).keep hb, fun h1 => (f10.out (Sch.on_ne (i := 15) (by decide) h1)), fun h1 => (f11.out (Sch.on_ne (i := 15) (by decide) h1)), fun _ => rfl, fun _ => rfl, fun _ => ⟨a14, rfl, hr14.keep hb⟩, fun _ => rfl, fun h1 => (f16.out (Sch.on_ne (i := 15) (by decide) h1)), fun h1 => (f17.out (Sch.on_ne (i := 15) (by decide) h1)), fun h1 => (f18.out (Sch.on_ne (i := 15) (by decide) h1)), fun h1 => (f19.out (Sch.on_ne (i := 15) (by decide) h1)), fun h1 => (f20.out (Sch.on_ne (i := 15) (by decide) h1)), fun h1 => (f21.out (Sch.on_ne (i := 15) (by decide) h1)), fun h1 => (f22.out (Sch.on_ne (i := 15) (by decide) h1)), fun h1 => (f23.out (Sch.on_ne (i := 15) (by decide) h1)), fun h1 => ((f24.out (Sch.on_ne (i := 15) (by decide) h1))).keep hb, fun h1 => (f25.out (Sch.on_ne (i := 15) (by decide) h1)), fun h1 => (f26.out (Sch.on_ne (i := 15) (by decide) h1)), fun h1 => (f27.out (Sch.on_ne (i := 15) (by decide) h1)), bel_tr HB hb, Lib.hid (HS.out.keep hb)⟩
      · obtain rfl := f12.out (hD 12 (by decide))
        obtain rfl := f15.out (hD 15 (by decide))
        refine Sch.fl_e rfl rfl (fun K hK => ?_)
        go_wp2_with fail
        refine hK _ _ trivial ⟨_, u0, u33, u34, u35, u36, u37, u38, u39, u40, u41, u42, u43, u44, _, u46, u47, _, _, u50, u51, u52, u53, u54, u55, u56, u57, u58, u59, fun h1 => (f0.out (Sch.on_ne (i := 16) (by decide) h1)), fun h1 => (f1.out (Sch.on_ne (i := 16) (by decide) h1)), fun h1 => (f2.out (Sch.on_ne (i := 16) (by decide) h1)), fun h1 => (f3.out (Sch.on_ne (i := 16) (by decide) h1)), fun h1 => (f4.out (Sch.on_ne (i := 16) (by decide) h1)), fun h1 => (f5.out (Sch.on_ne (i := 16) (by decide) h1)), fun h1 => (f6.out (Sch.on_ne (i := 16) (by decide) h1)), fun h1 => (f7.out (Sch.on_ne (i := 16) (by decide) h1)), fun h1 => (f8.out (Sch.on_ne (i := 16) (by decide) h1)), fun h1 => (f9.out (Sch.on_ne (i := 16) (by decide) h1)), fun h1 => (f10.out (Sch.on_ne (i := 16) (by decide) h1)), fun h1 => (f11.out (Sch.on_ne (i := 16) (by decide) h1)), fun _ => rfl, fun h1 => (f13.out (Sch.on_ne (i := 16) (by decide) h1)), fun h1 => (f14.out (Sch.on_ne (i := 16) (by decide) h1)), fun _ => rfl, fun _ => rfl, fun h1 => (f17.out (Sch.on_ne (i := 16) (by decide) h1)), fun h1 => (f18.out (Sch.on_ne (i := 16) (by decide) h1)), fun h1 => (f19.out (Sch.on_ne (i := 16) (by decide) h1)), fun h1 => (f20.out (Sch.on_ne (i := 16) (by decide) h1)), fun h1 => (f21.out (Sch.on_ne (i := 16) (by decide) h1)), fun h1 => (f22.out (Sch.on_ne (i := 16) (by decide) h1)), fun h1 => (f23.out (Sch.on_ne (i := 16) (by decide) h1)), fun h1 => (f24.out (Sch.on_ne (i := 16) (by decide) h1)), fun h1 => (f25.out (Sch.on_ne (i := 16) (by decide) h1)), fun h1 => (f26.out (Sch.on_ne (i := 16) (by decide) h1)), fun h1 => (f27.out (Sch.on_ne (i := 16) (by decide) h1)), HB, HS⟩
      · obtain rfl := f16.out (hD 16 (by decide))
        obtain rfl := f15.out (hD 15 (by decide))
        refine Sch.fl_e rfl rfl (fun K hK => ?_)
        go_wp2_with fail
        refine hK _ _ trivial ⟨_, u0, u33, u34, u35, u36, u37, u38, u39, u40, u41, u42, u43, u44, u45, u46, u47, _, _, _, u51, u52, u53, u54, u55, u56, u57, u58, u59, fun h1 => (f0.out (Sch.on_ne (i := 17) (by decide) h1)), fun h1 => (f1.out (Sch.on_ne (i := 17) (by decide) h1)), fun h1 => (f2.out (Sch.on_ne (i := 17) (by decide) h1)), fun h1 => (f3.out (Sch.on_ne (i := 17) (by decide) h1)), fun h1 => (f4.out (Sch.on_ne (i := 17) (by decide) h1)), fun h1 => (f5.out (Sch.on_ne (i := 17) (by decide) h1)), fun h1 => (f6.out (Sch.on_ne (i := 17) (by decide) h1)), fun h1 => (f7.out (Sch.on_ne (i := 17) (by decide) h1)), fun h1 => (f8.out (Sch.on_ne (i := 17) (by decide) h1)), fun h1 => (f9.out (Sch.on_ne (i := 17) (by decide) h1)), fun h1 => (f10.out (Sch.on_ne (i := 17) (by decide) h1)), fun h1 => (f11.out (Sch.on_ne (i := 17) (by decide) h1)), fun h1 => (f12.out (Sch.on_ne (i := 17) (by decide) h1)), fun h1 => (f13.out (Sch.on_ne (i := 17) (by decide) h1)), fun h1 => (f14.out (Sch.on_ne (i := 17) (by decide) h1)), fun _ => rfl, fun _ => rfl, fun _ => rfl, fun h1 => (f18.out (Sch.on_ne (i := 17) (by decide) h1)), fun h1 => (f19.out (Sch.on_ne (i := 17) (by decide) h1)), fun h1 => (f20.out (Sch.on_ne (i := 17) (by decide) h1)), fun h1 => (f21.out (Sch.on_ne (i := 17) (by decide) h1)), fun h1 => (f22.out (Sch.on_ne (i := 17) (by decide) h1)), fun h1 => (f23.out (Sch.on_ne (i := 17) (by decide) h1)), fun h1 => (f24.out (Sch.on_ne (i := 17) (by decide) h1)), fun h1 => (f25.out (Sch.on_ne (i := 17) (by decide) h1)), fun h1 => (f26.out (Sch.on_ne (i := 17) (by decide) h1)), fun h1 => (f27.out (Sch.on_ne (i := 17) (by decide) h1)), HB, HS⟩
      · obtain rfl := f17.out (hD 17 (by decide))
        refine Sch.fl_e rfl rfl (fun K hK => ?_)
        go_wp2_with fail
        refine hK _ _ trivial ⟨_, u0, u33, u34, u35, u36, u37, u38, u39, u40, u41, u42, u43, u44, u45, u46, u47, u48, u49, _, _, u52, u53, u54, u55, u56, u57, u58, u59, fun h1 => (f0.out (Sch.on_ne (i := 18) (by decide) h1)), fun h1 => (f1.out (Sch.on_ne (i := 18) (by decide) h1)), fun h1 => (f2.out (Sch.on_ne (i := 18) (by decide) h1)), fun h1 => (f3.out (Sch.on_ne (i := 18) (by decide) h1)), fun h1 => (f4.out (Sch.on_ne (i := 18) (by decide) h1)), fun h1 => (f5.out (Sch.on_ne (i := 18) (by decide) h1)), fun h1 => (f6.out (Sch.on_ne (i := 18) (by decide) h1)), fun h1 => (f7.out (Sch.on_ne (i := 18) (by decide) h1)), fun h1 => (f8.out (Sch.on_ne (i := 18) (by decide) h1)), fun h1 => (f9.out (Sch.on_ne (i := 18) (by decide) h1)), fun h1 => (f10.out (Sch.on_ne (i := 18) (by decide) h1)), fun h1 => (f11.out (Sch.on_ne (i := 18) (by decide) h1)), fun h1 => (f12.out (Sch.on_ne (i := 18) (by decide) h1)), fun h1 => (f13.out (Sch.on_ne (i := 18) (by decide) h1)), fun h1 => (f14.out (Sch.on_ne (i := 18) (by decide) h1)), fun h1 => (f15.out (Sch.on_ne (i := 18) (by decide) h1)), fun h1 => (f16.out (Sch.on_ne (i := 18) (by decide) h1)), fun _ => rfl, fun _ => rfl, fun h1 => (f19.out (Sch.on_ne (i := 18) (by decide) h1)), fun h1 => (f20.out (Sch.on_ne (i := 18) (by decide) h1)), fun h1 => (f21.out (Sch.on_ne (i := 18) (by decide) h1)), fun h1 => (f22.out (Sch.on_ne (i := 18) (by decide) h1)), fun h1 => (f23.out (Sch.on_ne (i := 18) (by decide) h1)), fun h1 => (f24.out (Sch.on_ne (i := 18) (by decide) h1)), fun h1 => (f25.out (Sch.on_ne (i := 18) (by decide) h1)), fun h1 => (f26.out (Sch.on_ne (i := 18) (by decide) h1)), fun h1 => (f27.out (Sch.on_ne (i := 18) (by decide) h1)), HB, HS⟩
      · obtain rfl := f18.out (hD 18 (by decide))
        obtain rfl := f17.out (hD 17 (by decide))
        have hx0 := ixS gs 0 2 2 1 1 rfl (by decide)
        refine Sch.fl_e rfl rfl (fun K hK => ?_)
        go_wp2_with fail
        refine hK _ _ trivial ⟨_, u0, u33, u34, u35, u36, u37, u38, u39, u40, u41, u42, u43, u44, u45, u46, u47, u48, u49, _, _, _, u53, u54, u55, u56, u57, u58, u59, fun h1 => (f0.out (Sch.on_ne (i := 19) (by decide) h1)), fun h1 => (f1.out (Sch.on_ne (i := 19) (by decide) h1)), fun h1 => (f2.out (Sch.on_ne (i := 19) (by decide) h1)), fun h1 => (f3.out (Sch.on_ne (i := 19) (by decide) h1)), fun h1 => (f4.out (Sch.on_ne (i := 19) (by decide) h1)), fun h1 => (f5.out (Sch.on_ne (i := 19) (by decide) h1)), fun h1 => (f6.out (Sch.on_ne (i := 19) (by decide) h1)), fun h1 => (f7.out (Sch.on_ne (i := 19) (by decide) h1)), fun h1 => (f8.out (Sch.on_ne (i := 19) (by decide) h1)), fun h1 => (f9.out (Sch.on_ne (i := 19) (by decide) h1)), fun h1 => (f10.out (Sch.on_ne (i := 19) (by decide) h1)), fun h1 => (f11.out (Sch.on_ne (i := 19) (by decide) h1)), fun h1 => (f12.out (Sch.on_ne (i := 19) (by decide) h1)), fun h1 => (f13.out (Sch.on_ne (i := 19) (by decide) h1)), fun h1 => (f14.out (Sch.on_ne (i := 19) (by decide) h1)), fun h1 => (f15.out (Sch.on_ne (i := 19) (by decide) h1)), fun h1 => (f16.out (Sch.on_ne (i := 19) (by decide) h1)), fun _ => rfl, fun _ => rfl, fun _ => rfl, fun h1 => (f20.out (Sch.on_ne (i := 19) (by decide) h1)), fun h1 => (f21.out (Sch.on_ne (i := 19) (by decide) h1)), fun h1 => (f22.out (Sch.on_ne (i := 19) (by decide) h1)), fun h1 => (f23.out (Sch.on_ne (i := 19) (by decide) h1)), fun h1 => (f24.out (Sch.on_ne (i := 19) (by decide) h1)), fun h1 => (f25.out (Sch.on_ne (i := 19) (by decide) h1)), fun h1 => (f26.out (Sch.on_ne (i := 19) (by decide) h1)), fun h1 => (f27.out (Sch.on_ne (i := 19) (by decide) h1)), HB, HS⟩
      · obtain rfl := f19.out (hD 19 (by decide))
        obtain rfl := f17.out (hD 17 (by decide))
        obtain ⟨n0, n1, n2, n3, n4, n5⟩ := na_at HS.out 1 (by decide)
        simp only [List.getElem_cons_zero, List.getElem_cons_succ, Nat.zero_add, Nat.zero_mul, Nat.one_mul] at n0 n1 n2 n3 n4 n5
        refine Sch.fl_e rfl rfl (fun K hK => ?_)
        go_wp2_with fail
        refine hK _ _ trivial ⟨_, u0, u33, u34, u35, u36, u37, u38, u39, u40, u41, u42, u43, u44, u45, u46, u47, u48, u49, _, u51, _, _, u54, u55, u56, u57, u58, u59, fun h1 => (f0.out (Sch.on_ne (i := 20) (by decide) h1)), fun h1 => (f1.out (Sch.on_ne (i := 20) (by decide) h1)), fun h1 => (f2.out (Sch.on_ne (i := 20) (by decide) h1)), fun h1 => (f3.out (Sch.on_ne (i := 20) (by decide) h1)), fun h1 => (f4.out (Sch.on_ne (i := 20) (by decide) h1)), fun h1 => (f5.out (Sch.on_ne (i := 20) (by decide) h1)), fun h1 => (f6.out (Sch.on_ne (i := 20) (by decide) h1)), fun h1 => (f7.out (Sch.on_ne (i := 20) (by decide) h1)), fun h1 => (f8.out (Sch.on_ne (i := 20) (by decide) h1)), fun h1 => (f9.out (Sch.on_ne (i := 20) (by decide) h1)), fun h1 => (f10.out (Sch.on_ne (i := 20) (by decide) h1)), fun h1 => (f11.out (Sch.on_ne (i := 20) (by decide) h1)), fun h1 => (f12.out (Sch.on_ne (i := 20) (by decide) h1)), fun h1 => (f13.out (Sch.on_ne (i := 20) (by decide) h1)), fun h1 => (f14.out (Sch.on_ne (i := 20) (by decide) h1)), fun h1 => (f15.out (Sch.on_ne (i := 20) (by decide) h1)), fun h1 => (f16.out (Sch.on_ne (i := 20) (by decide) h1)), fun _ => rfl, fun h1 => (f18.out (Sch.on_ne (i := 20) (by decide) h1)), fun _ => rfl, fun _ => rfl, fun h1 => (f21.out (Sch.on_ne (i := 20) (by decide) h1)), fun h1 => (f22.out (Sch.on_ne (i := 20) (by decide) h1)), fun h1 => (f23.out (Sch.on_ne (i := 20) (by decide) h1)), fun h1 => (f24.out (Sch.on_ne (i := 20) (by decide) h1)), fun h1 => (f25.out (Sch.on_ne (i := 20) (by decide) h1)), fun h1 => (f26.out (Sch.on_ne (i := 20) (by decide) h1)), fun h1 => (f27.out (Sch.on_ne (i := 20) (by decide) h1)), HB, HS⟩
      · obtain rfl := f17.out (hD 17 (by decide))
        refine Sch.fl_e rfl rfl (fun K hK => ?_)
        go_wp2_with fail
        refine hK _ _ trivial ⟨_, u0, u33, u34, u35, u36, u37, u38, u39, u40, u41, u42, u43, u44, u45, u46, u47, u48, u49, _, u51, u52, u53, _, u55, u56, u57, u58, u59, fun h1 => (f0.out (Sch.on_ne (i := 21) (by decide) h1)), fun h1 => (f1.out (Sch.on_ne (i := 21) (by decide) h1)), fun h1 => (f2.out (Sch.on_ne (i := 21) (by decide) h1)), fun h1 => (f3.out (Sch.on_ne (i := 21) (by decide) h1)), fun h1 => (f4.out (Sch.on_ne (i := 21) (by decide) h1)), fun h1 => (f5.out (Sch.on_ne (i := 21) (by decide) h1)), fun h1 => (f6.out (Sch.on_ne (i := 21) (by decide) h1)), fun h1 => (f7.out (Sch.on_ne (i := 21) (by decide) h1)), fun h1 => (f8.out (Sch.on_ne (i := 21) (by decide) h1)), fun h1 => (f9.out (Sch.on_ne (i := 21) (by decide) h1)), fun h1 => (f10.out (Sch.on_ne (i := 21) (by decide) h1)), fun h1 => (f11.out (Sch.on_ne (i := 21) (by decide) h1)), fun h1 => (f12.out (Sch.on_ne (i := 21) (by decide) h1)), fun h1 => (f13.out (Sch.on_ne (i := 21) (by decide) h1)), fun h1 => (f14.out (Sch.on_ne (i := 21) (by decide) h1)), fun h1 => (f15.out (Sch.on_ne (i := 21) (by decide) h1)), fun h1 => (f16.out (Sch.on_ne (i := 21) (by decide) h1)), fun _ => rfl, fun h1 => (f18.out (Sch.on_ne (i := 21) (by decide) h1)), fun h1 => (f19.out (Sch.on_ne (i := 21) (by decide) h1)), fun h1 => (f20.out (Sch.on_ne (i := 21) (by decide) h1)), fun _ => rfl, fun h1 => (f22.out (Sch.on_ne (i := 21) (by decide) h1)), fun h1 => (f23.out (Sch.on_ne (i := 21) (by decide) h1)), fun h1 => (f24.out (Sch.on_ne (i := 21) (by decide) h1)), fun h1 => (f25.out (Sch.on_ne (i := 21) (by decide) h1)), fun h1 => (f26.out (Sch.on_ne (i := 21) (by decide) h1)), fun h1 => (f27.out (Sch.on_ne (i := 21) (by decide) h1)), HB, HS⟩
      · obtain rfl := f21.out (hD 21 (by decide))
        obtain rfl := f17.out (hD 17 (by decide))
        have hx0 := ixS gs 0 2 2 0 0 rfl (by decide)
        refine Sch.fl_e rfl rfl (fun K hK => ?_)
        go_wp2_with fail
        refine hK _ _ trivial ⟨_, u0, u33, u34, u35, u36, u37, u38, u39, u40, u41, u42, u43, u44, u45, u46, u47, u48, u49, _, u51, u52, u53, _, _, u56, u57, u58, u59, fun h1 => (f0.out (Sch.on_ne (i := 22) (by decide) h1)), fun h1 => (f1.out (Sch.on_ne (i := 22) (by decide) h1)), fun h1 => (f2.out (Sch.on_ne (i := 22) (by decide) h1)), fun h1 => (f3.out (Sch.on_ne (i := 22) (by decide) h1)), fun h1 => (f4.out (Sch.on_ne (i := 22) (by decide) h1)), fun h1 => (f5.out (Sch.on_ne (i := 22) (by decide) h1)), fun h1 => (f6.out (Sch.on_ne (i := 22) (by decide) h1)), fun h1 => (f7.out (Sch.on_ne (i := 22) (by decide) h1)), fun h1 => (f8.out (Sch.on_ne (i := 22) (by decide) h1)), fun h1 => (f9.out (Sch.on_ne (i := 22) (by decide) h1)), fun h1 => (f10.out (Sch.on_ne (i := 22) (by decide) h1)), fun h1 => (f11.out (Sch.on_ne (i := 22) (by decide) h1)), fun h1 => (f12.out (Sch.on_ne (i := 22) (by decide) h1)), fun h1 => (f13.out (Sch.on_ne (i := 22) (by decide) h1)), fun h1 => (f14.out (Sch.on_ne (i := 22) (by decide) h1)), fun h1 => (f15.out (Sch.on_ne (i := 22) (by decide) h1)), fun h1 => (f16.out (Sch.on_ne (i := 22) (by decide) h1)), fun _ => rfl, fun h1 => (f18.out (Sch.on_ne (i := 22) (by decide) h1)), fun h1 => (f19.out (Sch.on_ne (i := 22) (by decide) h1)), fun h1 => (f20.out (Sch.on_ne (i := 22) (by decide) h1)), fun _ => rfl, fun _ => rfl, fun h1 => (f23.out (Sch.on_ne (i := 22) (by decide) h1)), fun h1 => (f24.out (Sch.on_ne (i := 22) (by decide) h1)), fun h1 => (f25.out (Sch.on_ne (i := 22) (by decide) h1)), fun h1 => (f26.out (Sch.on_ne (i := 22) (by decide) h1)), fun h1 => (f27.out (Sch.on_ne (i := 22) (by decide) h1)), HB, HS⟩
      · obtain rfl := f22.out (hD 22 (by decide))
        obtain rfl := f17.out (hD 17 (by decide))
        obtain ⟨n0, n1, n2, n3, n4, n5⟩ := na_at HS.out 0 (by decide)
        simp only [List.getElem_cons_zero, List.getElem_cons_succ, Nat.zero_add, Nat.zero_mul, Nat.one_mul] at n0 n1 n2 n3 n4 n5
        refine Sch.fl_e rfl rfl (fun K hK => ?_)
        go_wp2_with fail
        refine hK _ _ trivial ⟨_, u0, u33, u34, u35, u36, u37, u38, u39, u40, u41, u42, u43, u44, u45, u46, u47, u48, u49, _, u51, u52, u53, u54, _, _, u57, u58, u59, fun h1 => (f0.out (Sch.on_ne (i := 23) (by decide) h1)), fun h1 => (f1.out (Sch.on_ne (i := 23) (by decide) h1)), fun h1 => (f2.out (Sch.on_ne (i := 23) (by decide) h1)), fun h1 => (f3.out (Sch.on_ne (i := 23) (by decide) h1)), fun h1 => (f4.out (Sch.on_ne (i := 23) (by decide) h1)), fun h1 => (f5.out (Sch.on_ne (i := 23) (by decide) h1)), fun h1 => (f6.out (Sch.on_ne (i := 23) (by decide) h1)), fun h1 => (f7.out (Sch.on_ne (i := 23) (by decide) h1)), fun h1 => (f8.out (Sch.on_ne (i := 23) (by decide) h1)), fun h1 => (f9.out (Sch.on_ne (i := 23) (by decide) h1)), fun h1 => (f10.out (Sch.on_ne (i := 23) (by decide) h1)), fun h1 => (f11.out (Sch.on_ne (i := 23) (by decide) h1)), fun h1 => (f12.out (Sch.on_ne (i := 23) (by decide) h1)), fun h1 => (f13.out (Sch.on_ne (i := 23) (by decide) h1)), fun h1 => (f14.out (Sch.on_ne (i := 23) (by decide) h1)), fun h1 => (f15.out (Sch.on_ne (i := 23) (by decide) h1)), fun h1 => (f16.out (Sch.on_ne (i := 23) (by decide) h1)), fun _ => rfl, fun h1 => (f18.out (Sch.on_ne (i := 23) (by decide) h1)), fun h1 => (f19.out (Sch.on_ne (i := 23) (by decide) h1)), fun h1 => (f20.out (Sch.on_ne (i := 23) (by decide) h1)), fun h1 => (f21.out (Sch.on_ne (i := 23) (by decide) h1)), fun _ => rfl, fun _ => rfl, fun h1 => (f24.out (Sch.on_ne (i := 23) (by decide) h1)), fun h1 => (f25.out (Sch.on_ne (i := 23) (by decide) h1)), fun h1 => (f26.out (Sch.on_ne (i := 23) (by decide) h1)), fun h1 => (f27.out (Sch.on_ne (i := 23) (by decide) h1)), HB, HS⟩
      · obtain rfl := f20.out (hD 20 (by decide))
        obtain rfl := f23.out (hD 23 (by decide))
        obtain rfl := f17.out (hD 17 (by decide))
        have hb := bel_box w3 (.cells #[.int .i64 1, .int .i64 200, .int .i64 2, .int .i64 3, .int .i64 71, .int .i32 233, .int .i64 2, .int .i64 3, .int .i64 1, .int .i64 2, .int .i64 70, .int .i32 0] 38)
        have hr : RowN (w3.alloc (.cells #[.int .i64 1, .int .i64 200, .int .i64 2, .int .i64 3, .int .i64 71, .int .i32 233, .int .i64 2, .int .i64 3, .int .i64 1, .int .i64 2, .int .i64 70, .int .i32 0] 38)) (some ⟨w3.heap.size, 0, none⟩) [kQ, kP] := RowN.lit w3 [kQ, kP] _ _ _ rfl
        refine Sch.fl_e rfl rfl (fun K hK => ?_)
        go_wp2_with fail
        refine hK _ _ trivial ⟨_, u0, u33, u34, u35, u36, u37, u38, u39, u40, u41, u42, u43, u44, u45, u46, u47, u48, u49, _, u51, u52, _, u54, u55, _, _, u58, u59, fun h1 => ((f0.out (Sch.on_ne (i := 24) (by decide) h1))).keep hb, fun h1 => ((f1.out (Sch.on_ne (i := 24) (by decide) h1))).keep hb, fun h1 => (f2.out (Sch.on_ne (i := 24) (by decide) h1)), fun h1 => (f3.out (Sch.on_ne (i := 24) (by decide) h1)), fun h1 => (f4.out (Sch.on_ne (i := 24) (by decide) h1)), fun h1 => ((f5.out (Sch.on_ne (i := 24) (by decide) h1))).keep hb, fun h1 => (f6.out (Sch.on_ne (i := 24) (by decide) h1)), fun h1 => ((f7.out (Sch.on_ne (i := 24) (by decide) h1))).keep hb, fun h1 => ((f8.out (Sch.on_ne (i := 24) (by decide) h1))).keep hb, fun h1 => ((f9.out (Sch.on_ne (i := 24) (by decide) h1))).keep hb, fun h1 => (f10.out (Sch.on_ne (i := 24) (by decide) h1)), fun h1 => (f11.out (Sch.on_ne (i := 24) (by decide) h1)), fun h1 => (f12.out (Sch.on_ne (i := 24) (by decide) h1)), fun h1 => (f13.out (Sch.on_ne (i := 24) (by decide) h1)), fun h1 => ((f14.out (Sch.on_ne (i := 24) (by decide) h1))).keep hb, fun h1 => (f15.out (Sch.on_ne (i := 24) (by decide) h1)), fun h1 => (f16.out (Sch.on_ne (i := 24) (by decide) h1)), fun _ => rfl, fun h1 => (f18.out (Sch.on_ne (i := 24) (by decide) h1)), fun h1 => (f19.out (Sch.on_ne (i := 24) (by decide) h1)), fun _ => rfl, fun h1 => (f21.out (Sch.on_ne (i := 24) (by decide) h1)), fun h1 => (f22.out (Sch.on_ne (i := 24) (by decide) h1)), fun _ => rfl, fun _ => ⟨_, rfl, hr⟩, fun h1 => (f25.out (Sch.on_ne (i := 24) (by decide) h1)), fun h1 => (f26.out (Sch.on_ne (i := 24) (by decide) h1)), fun h1 => (f27.out (Sch.on_ne (i := 24) (by decide) h1)), bel_tr HB hb, Lib.hid (HS.out.keep hb)⟩
      · obtain ⟨a24, rfl, hr24⟩ := f24.out (hD 24 (by decide))
        obtain rfl := f17.out (hD 17 (by decide))
        refine Sch.fl_e rfl rfl (fun K hK => ?_)
        go_wp2_with fail
        refine (encodes_true e8 rfl rfl (by decide) hr24 (.inl rfl)).mono ?_
        rintro e w4 ⟨rfl, hb⟩
        refine hK _ _ trivial ⟨_, u0, u33, u34, u35, u36, u37, u38, u39, u40, u41, u42, u43, u44, u45, u46, u47, u48, u49, _, u51, u52, u53, u54, u55, u56, _, _, u59, fun h1 => ((f0.out (Sch.on_ne (i := 25) (by decide) h1))).keep hb, fun h1 => ((f1.out (Sch.on_ne (i := 25) (by decide) h1))).keep hb, fun h1 => (f2.out (Sch.on_ne (i := 25) (by decide) h1)), fun h1 => (f3.out (Sch.on_ne (i := 25) (by decide) h1)), fun h1 => (f4.out (Sch.on_ne (i := 25) (by decide) h1)), fun h1 => ((f5.out (Sch.on_ne (i := 25) (by decide) h1))).keep hb, fun h1 => (f6.out (Sch.on_ne (i := 25) (by decide) h1)), fun h1 => ((f7.out (Sch.on_ne (i := 25) (by decide) h1))).keep hb, fun h1 => ((f8.out (Sch.on_ne (i := 25) (by decide) h1))).keep hb, fun h1 => ((f9.out (Sch.on_ne (i := 25) (by decide) h1))).keep hb, fun h1 => (f10.out (Sch.on_ne (i := 25) (by decide) h1)), fun h1 => (f11.out (Sch.on_ne (i := 25) (by decide) h1)), fun h1 => (f12.out (Sch.on_ne (i := 25) (by decide) h1)), fun h1 => (f13.out (Sch.on_ne (i := 25) (by decide) h1)), fun h1 => ((f14.out (Sch.on_ne (i := 25) (by decide) h1))).keep hb, fun h1 => (f15.out (Sch.on_ne (i := 25) (by decide) h1)), fun h1 => (f16.out (Sch.on_ne (i := 25) (by decide) h1)), fun _ => rfl, fun h1 => (f18.out (Sch.on_ne (i := 25) (by decide) h1)), fun h1 => (f19.out (Sch.on_ne (i := 25) (by decide) h1)), fun h1 => (f20.out (Sch.on_ne (i := 25) (by decide) h1)), fun h1 => (f21.out (Sch.on_ne (i := 25) (by decide) h1)), fun h1 => (f22.out (Sch.on_ne (i := 25) (by decide) h1)), fun h1 => (f23.out (Sch.on_ne (i := 25) (by decide) h1)), fun _ => ⟨a24, rfl, hr24.keep hb⟩, fun _ => rfl, fun h1 => (f26.out (Sch.on_ne (i := 25) (by decide) h1)), fun h1 => (f27.out (Sch.on_ne (i := 25) (by decide) h1)), bel_tr HB hb, Lib.hid (HS.out.keep hb)⟩
      · obtain rfl := f17.out (hD 17 (by decide))
        obtain rfl := f25.out (hD 25 (by decide))
        refine Sch.fl_e rfl rfl (fun K hK => ?_)
        go_wp2_with fail
        refine hK _ _ trivial ⟨_, u0, u33, u34, u35, u36, u37, u38, u39, u40, u41, u42, u43, u44, u45, u46, u47, u48, u49, _, u51, u52, u53, u54, u55, u56, u57, _, _, fun h1 => (f0.out (Sch.on_ne (i := 26) (by decide) h1)), fun h1 => (f1.out (Sch.on_ne (i := 26) (by decide) h1)), fun h1 => (f2.out (Sch.on_ne (i := 26) (by decide) h1)), fun h1 => (f3.out (Sch.on_ne (i := 26) (by decide) h1)), fun h1 => (f4.out (Sch.on_ne (i := 26) (by decide) h1)), fun h1 => (f5.out (Sch.on_ne (i := 26) (by decide) h1)), fun h1 => (f6.out (Sch.on_ne (i := 26) (by decide) h1)), fun h1 => (f7.out (Sch.on_ne (i := 26) (by decide) h1)), fun h1 => (f8.out (Sch.on_ne (i := 26) (by decide) h1)), fun h1 => (f9.out (Sch.on_ne (i := 26) (by decide) h1)), fun h1 => (f10.out (Sch.on_ne (i := 26) (by decide) h1)), fun h1 => (f11.out (Sch.on_ne (i := 26) (by decide) h1)), fun h1 => (f12.out (Sch.on_ne (i := 26) (by decide) h1)), fun h1 => (f13.out (Sch.on_ne (i := 26) (by decide) h1)), fun h1 => (f14.out (Sch.on_ne (i := 26) (by decide) h1)), fun h1 => (f15.out (Sch.on_ne (i := 26) (by decide) h1)), fun h1 => (f16.out (Sch.on_ne (i := 26) (by decide) h1)), fun _ => rfl, fun h1 => (f18.out (Sch.on_ne (i := 26) (by decide) h1)), fun h1 => (f19.out (Sch.on_ne (i := 26) (by decide) h1)), fun h1 => (f20.out (Sch.on_ne (i := 26) (by decide) h1)), fun h1 => (f21.out (Sch.on_ne (i := 26) (by decide) h1)), fun h1 => (f22.out (Sch.on_ne (i := 26) (by decide) h1)), fun h1 => (f23.out (Sch.on_ne (i := 26) (by decide) h1)), fun h1 => (f24.out (Sch.on_ne (i := 26) (by decide) h1)), fun _ => rfl, fun _ => rfl, fun h1 => (f27.out (Sch.on_ne (i := 26) (by decide) h1)), HB, HS⟩
      · obtain rfl := f26.out (hD 26 (by decide))
        refine Sch.fl_e rfl rfl (fun K hK => ?_)
        go_wp2_with fail
        refine hK _ _ trivial ⟨_, _, u33, u34, u35, u36, u37, u38, u39, u40, u41, u42, u43, u44, u45, u46, u47, u48, u49, u50, u51, u52, u53, u54, u55, u56, u57, u58, _, fun h1 => (f0.out (Sch.on_ne (i := 27) (by decide) h1)), fun h1 => (f1.out (Sch.on_ne (i := 27) (by decide) h1)), fun h1 => (f2.out (Sch.on_ne (i := 27) (by decide) h1)), fun h1 => (f3.out (Sch.on_ne (i := 27) (by decide) h1)), fun h1 => (f4.out (Sch.on_ne (i := 27) (by decide) h1)), fun h1 => (f5.out (Sch.on_ne (i := 27) (by decide) h1)), fun h1 => (f6.out (Sch.on_ne (i := 27) (by decide) h1)), fun h1 => (f7.out (Sch.on_ne (i := 27) (by decide) h1)), fun h1 => (f8.out (Sch.on_ne (i := 27) (by decide) h1)), fun h1 => (f9.out (Sch.on_ne (i := 27) (by decide) h1)), fun h1 => (f10.out (Sch.on_ne (i := 27) (by decide) h1)), fun h1 => (f11.out (Sch.on_ne (i := 27) (by decide) h1)), fun h1 => (f12.out (Sch.on_ne (i := 27) (by decide) h1)), fun h1 => (f13.out (Sch.on_ne (i := 27) (by decide) h1)), fun h1 => (f14.out (Sch.on_ne (i := 27) (by decide) h1)), fun h1 => (f15.out (Sch.on_ne (i := 27) (by decide) h1)), fun h1 => (f16.out (Sch.on_ne (i := 27) (by decide) h1)), fun h1 => (f17.out (Sch.on_ne (i := 27) (by decide) h1)), fun h1 => (f18.out (Sch.on_ne (i := 27) (by decide) h1)), fun h1 => (f19.out (Sch.on_ne (i := 27) (by decide) h1)), fun h1 => (f20.out (Sch.on_ne (i := 27) (by decide) h1)), fun h1 => (f21.out (Sch.on_ne (i := 27) (by decide) h1)), fun h1 => (f22.out (Sch.on_ne (i := 27) (by decide) h1)), fun h1 => (f23.out (Sch.on_ne (i := 27) (by decide) h1)), fun h1 => (f24.out (Sch.on_ne (i := 27) (by decide) h1)), fun h1 => (f25.out (Sch.on_ne (i := 27) (by decide) h1)), fun _ => rfl, fun _ => rfl, HB, HS⟩
    · clear HB HS
      rintro L hall a w3 - ⟨_, u0, u33, u34, u35, u36, u37, u38, u39, u40, u41, u42, u43, u44, u45, u46, u47, u48, u49, u50, u51, u52, u53, u54, u55, u56, u57, u58, u59, f0, f1, f2, f3, f4, f5, f6, f7, f8, f9, f10, f11, f12, f13, f14, f15, f16, f17, f18, f19, f20, f21, f22, f23, f24, f25, f26, f27, HB, HS⟩
      obtain rfl := f27.out (hall 27 (by decide))
      clear f0 f1 f2 f3 f4 f5 f6 f7 f8 f9 f10 f11 f12 f13 f14 f15 f16 f17 f18 f19 f20 f21 f22 f23 f24 f25 f26 f27 hall
      go_wp2_with fail
      go_ret
      exact ⟨rfl, HB.out⟩
end Go.Proofs.Ytfmlenhakejefaa.Ca
end

/-
  Layer 17: the laws CanonNodes, CanonContexts.
-/
section
namespace Go.Proofs.Ytfmlenhakejefaa.Ca
set_option linter.unusedVariables false
open Go.RowKit V Go.Sort D Nd Qs Jn Dg
open F (Ct cv cbox Bc Sb)
attribute [local irreducible] Sch.heldN Sch.stepV Sch.stepE

theorem valid_one (n : Nt) : validS [n] = validN n := by
  rw [Bool.eq_iff_iff, validS_iff]
  constructor
  · exact fun h => h.1 n (by simp)
  · exact fun h => ⟨fun x hx => by rw [List.mem_singleton.1 hx]; exact h, List.pairwise_singleton _ _⟩
theorem appB_yes {p : List UInt8} {l : List Nt} (h : validS l = true) (hl : l.length ≤ 65536) : appB p l = (p ++ stateB l, 0) := by unfold appB; rw [if_pos ⟨h, hl⟩]
theorem appB_no {p : List UInt8} {l : List Nt} (h : validS l = false) : appB p l = ([], 2) := by unfold appB; rw [if_neg (by rw [h]; simp), if_neg (by rw [h]; simp)]
set_option maxRecDepth 100000 in
set_option maxHeartbeats 4000000 in
theorem nodes_law (n : Nt) (w : World) :
    Calls Try.prog 4 #[nv n] w fun e w' => e = .returned (.bool true) ∧ Below w.heap.size w w' := by
  have HV := Lib.hid (valid_one n)
  have HI := Lib.hid (fun w => isNode_ref n w)
  have HA := Lib.hid (fun h => appB_yes (p := []) (l := [n]) h (by simp))
  have HN := Lib.hid (fun h => appB_no (p := []) (l := [n]) h)
  have HBy := Lib.hid (fun hv a c w hx => bytes_ref [n] hv a c w hx (by simp))
  have HT := Lib.hid (fun m z a p k c j d w h hk hj hx hp => encodes_true (l := [n]) (m := m) (z := z) (a := a) (p := p) (k := k) (c := c) (j := j) (d := d) (w := w) h hk hj (by simp) hx hp)
  have HZ := Lib.hid (fun x z a k c w h hk hx => sizes_true (l := [n]) (x := x) (z := z) (a := a) (k := k) (c := c) (w := w) h hk (by simp) hx)
  have HB := Lib.hid (bel_box w (.cells (nc n) 38))
  have HK := Lib.hid (Nb.new w n)
  have HRl := Lib.hid (fun (w : World) => (RowN.lit w [n] (nc n) 38 (0, 0) rfl : RowN (w.alloc (.cells (nc n) 38)) (some ⟨w.heap.size, 0, none⟩) [n]))
  obtain ⟨⟨q1, q2⟩, ⟨q3, q4⟩, q5, q6⟩ := n
  go_enter Try.func4, Try.ntmps4
  go_upto_region 1 with fail
  generalize w.alloc (.cells #[.int .i64 q1, .int .i64 q2, .int .i64 q3, .int .i64 q4, .int .i64 q5, .int .i32 q6] 38) = w1 at *
  obtain ⟨n0, n1, n2, n3, n4, n5⟩ := HK.out
  have HR := Lib.hid (HRl.out w1)
  have hb := bel_box w1 (.cells #[.int .i64 q1, .int .i64 q2, .int .i64 q3, .int .i64 q4, .int .i64 q5, .int .i32 q6] 38)
  replace HK := Lib.hid (HK.out.keep hb)
  replace HB := bel_tr HB hb
  clear hb
  go_upto_region 2 with fail
  clear n0 n1 n2 n3 n4 n5
  generalize w1.alloc (.cells #[.int .i64 q1, .int .i64 q2, .int .i64 q3, .int .i64 q4, .int .i64 q5, .int .i32 q6] 38) = w2 at *
  generalize w1.heap.size = g1 at *
  obtain ⟨n0, n1, n2, n3, n4, n5⟩ := HK.out
  go_wp2_with fail
  refine (HI.out _).mono ?_
  rintro e w3 ⟨rfl, hb⟩
  replace HR := Lib.hid (HR.out.keep hb)
  replace HB := bel_tr HB hb
  clear hb n0 n1 n2 n3 n4 n5 HK
  rw [HV.out] at HA HN HBy
  generalize ((q1, q2), (q3, q4), q5, q6) = n at *
  rcases hv : validN n with _ | _
  · have HT1 := Lib.hid (HT.out _ _ _ none 1 1 0 0 _ (HN.out hv) rfl rfl HR.out (.inl rfl))
    clear HT HZ HBy HA HN HV
    go_wp2_with fail
    refine HT1.out.mono ?_
    rintro e w4 ⟨rfl, hb⟩
    replace HB := bel_tr HB hb
    clear hb HR HT1
    go_wp2_with fail
    refine (known_any _).mono ?_
    rintro e w99 ⟨rfl, hb⟩
    replace HB := bel_tr HB hb
    clear hb
    go_wp2_with fail
    go_ret
    exact ⟨rfl, HB.out⟩
  · have HE := Lib.hid (HA.out hv)
    have HY := Lib.hid (HBy.out hv)
    clear HA HN HBy HV
    go_wp2_with fail
    refine (HY.out _ _ _ HR.out).mono ?_
    rintro e w4 ⟨v, rfl, ho, hb⟩
    obtain ⟨a4, c4, rfl, hr, -⟩ := ho.row
    replace HR := Lib.hid (HR.out.keep hb)
    replace HB := bel_tr HB hb
    have HM := Lib.hid hr
    clear ho hb hr
    have hE := HE.out
    rw [List.nil_append] at hE
    replace HE := Lib.hid hE
    have HZ1 := Lib.hid (fun w hx => HZ.out ((stateB [n]).length : Int) 0 (some ⟨g1, 0, none⟩) 1 1 w (by rw [HE.out]; exact ⟨rfl, rfl⟩) rfl hx)
    clear hE HZ
    generalize stateB [n] = Z at *
    go_wp2_with fail
    refine (HT.out _ _ _ _ _ _ _ _ _ HE.out rfl rfl HR.out HM.out).mono ?_
    rintro e w5 ⟨rfl, hb⟩
    replace HR := Lib.hid (HR.out.keep hb)
    replace HB := bel_tr HB hb
    clear hb HM
    go_wp2_with fail
    refine (HY.out _ _ _ HR.out).mono ?_
    rintro e w6 ⟨v, rfl, ho, hb⟩
    obtain ⟨a6, c6, rfl, -, -⟩ := ho.row
    replace HR := Lib.hid (HR.out.keep hb)
    replace HB := bel_tr HB hb
    clear ho hb HY HT HE
    go_wp2_with fail
    refine (HZ1.out _ HR.out).mono ?_
    rintro e w7 ⟨rfl, hb⟩
    replace HB := bel_tr HB hb
    clear hb HR HZ1
    go_wp2_with fail
    refine (known_any _).mono ?_
    rintro e w99 ⟨rfl, hb⟩
    replace HB := bel_tr HB hb
    clear hb
    go_wp2_with fail
    go_ret
    exact ⟨rfl, HB.out⟩
theorem ctxR_yes {A : Ct} (h : F.isCompR A = true) (h1 : A.1.length ≤ 65536) (h2 : A.2.length ≤ 65536) : ctxR A = (ctxB A, 0) := by unfold ctxR; rw [if_pos ⟨h, h1, h2⟩]
theorem ctxR_no {A : Ct} (h : F.isCompR A = false) : ctxR A = ([], 2) := by unfold ctxR; rw [if_neg (by rw [h]; simp), if_neg (by rw [h]; simp)]
set_option maxRecDepth 100000 in
set_option maxHeartbeats 4000000 in
theorem contexts_law (xs ys : List Dt) (a b : Option Addr) (n m : Nat) (w : World) (hx : RowD w a xs) (hy : RowD w b ys) (hxn : a = none → n = 0) (hyn : b = none → m = 0) (hlx : xs.length ≤ n) (hly : ys.length ≤ m) :
    Calls Try.prog 5 #[cv (.slice a xs.length n) (.slice b ys.length m)] w fun e w' => e = .returned (.bool true) ∧ Below w.heap.size w w' := by
  have hbx := bel_box w (cbox (.slice a xs.length n) (.slice b ys.length m))
  have HB := Lib.hid hbx
  have HT := Lib.hid (show F.Sb w.heap.size (.slice a xs.length n) (.slice b ys.length m) _ from F.two_new w (.slice a xs.length n) (.slice b ys.length m))
  have HSm := Lib.hid (fun w => small_ref a b xs.length ys.length n m w)
  have HX : Hid (Kx (w.alloc (cbox (.slice a xs.length n) (.slice b ys.length m))) (.slice a xs.length n) (.slice b ys.length m) (xs, ys)) :=
    ⟨⟨a, n, rfl, hx.keep hbx, hxn, hlx⟩, b, m, rfl, hy.keep hbx, hyn, hly⟩
  have HRx := Lib.hid (hx.keep hbx)
  have HRy := Lib.hid (hy.keep hbx)
  clear hx hy hxn hyn hlx hly hbx
  by_cases hs : xs.length ≤ 60 ∧ ys.length ≤ 60
  case neg =>
    have e : (decide (xs.length ≤ 60) && decide (ys.length ≤ 60)) = false := by rw [Bool.and_eq_false_iff, decide_eq_false_iff_not, decide_eq_false_iff_not]; omega
    rw [e] at HSm
    clear hs e
    go_enter Try.func5, Try.ntmps5
    go_upto_region 1 with fail
    generalize w.alloc (cbox (.slice a xs.length n) (.slice b ys.length m)) = w1 at *
    have t0 := HT.out.1
    have t1 := HT.out.2
    go_wp2_with fail
    refine (HSm.out _).mono ?_
    rintro e w2 ⟨rfl, hb⟩
    replace HB := bel_tr HB hb
    clear hb t0 t1
    go_wp2_with fail
    refine (known_any _).mono ?_
    rintro e w99 ⟨rfl, hb⟩
    replace HB := bel_tr HB hb
    clear hb
    go_wp2_with fail
    go_ret
    exact ⟨rfl, HB.out⟩
  obtain ⟨hs1, hs2⟩ := hs
  have e : (decide (xs.length ≤ 60) && decide (ys.length ≤ 60)) = true := by rw [Bool.and_eq_true, decide_eq_true_eq, decide_eq_true_eq]; omega
  rw [e] at HSm
  have HC := Lib.hid (fun w h => compR_ref xs ys (.slice a xs.length n) (.slice b ys.length m) w h ⟨by simp only; omega, by simp only; omega⟩)
  have HY := Lib.hid (fun h => ctxR_yes (A := (xs, ys)) h (by simp only; omega) (by simp only; omega))
  have HN := Lib.hid (fun h => ctxR_no (A := (xs, ys)) h)
  have HR := Lib.hid (fun (h : F.isCompR (xs, ys) = true) w hxv hxc => ctxB_ref xs ys (ctx_dots h).1 (ctx_dots h).2 a b n m w hxv hxc (by omega) (by omega))
  have HTr := Lib.hid (fun Z z (w : World) p j d h hj hx hp => contexts_true (A := (xs, ys)) (x := .slice a xs.length n) (y := .slice b ys.length m) (m := Z) (z := z) (p := p) (j := j) (d := d) (w := w) h hj ⟨by simp only; omega, by simp only; omega⟩ hx hp)
  clear e hs1 hs2
  go_enter Try.func5, Try.ntmps5
  go_upto_region 1 with fail
  generalize w.alloc (cbox (.slice a xs.length n) (.slice b ys.length m)) = w1 at *
  have t0 := HT.out.1
  have t1 := HT.out.2
  go_wp2_with fail
  refine (HSm.out _).mono ?_
  rintro e w2 ⟨rfl, hb⟩
  replace HB := bel_tr HB hb
  replace HX := Lib.hid (HX.out.keep hb)
  replace HT := Lib.hid (HT.out.keep hb)
  replace HRx := Lib.hid (HRx.out.keep hb)
  replace HRy := Lib.hid (HRy.out.keep hb)
  clear hb t0 t1 HSm
  have t0 := HT.out.1
  have t1 := HT.out.2
  go_wp2_with fail
  refine (HC.out _ HX.out).mono ?_
  rintro e w3 ⟨rfl, hb⟩
  replace HB := bel_tr HB hb
  replace HX := Lib.hid (HX.out.keep hb)
  replace HT := Lib.hid (HT.out.keep hb)
  replace HRx := Lib.hid (HRx.out.keep hb)
  replace HRy := Lib.hid (HRy.out.keep hb)
  clear hb t0 t1 HC
  rcases hv : F.isCompR (xs, ys) with _ | _
  · have hN := HN.out hv
    have HT1 := Lib.hid (HTr.out _ _ w3 none 0 0 hN rfl HX.out (.inl rfl))
    clear hv hN HN HY HR HTr
    have t0 := HT.out.1
    have t1 := HT.out.2
    go_wp2_with fail
    refine HT1.out.mono ?_
    rintro e w4 ⟨rfl, hb⟩
    replace HB := bel_tr HB hb
    clear hb HX HT HT1 t0 t1
    go_wp2_with fail
    refine (known_any _).mono ?_
    rintro e w99 ⟨rfl, hb⟩
    replace HB := bel_tr HB hb
    clear hb
    go_wp2_with fail
    go_ret
    exact ⟨rfl, HB.out⟩
  have HE := Lib.hid (HY.out hv)
  replace HR := Lib.hid (HR.out hv)
  clear hv HN HY
  generalize ctxB (xs, ys) = Z at *
  go_upto_region 5 with fail
  refine Sch.wp_region_tn (F.Sb w.heap.size (.slice a xs.length n) (.slice b ys.length m)) (.val 0 (.val 1 (.one 2 (.one 3 (.val 4 (.one 5 (.val 6 (.val 7 .done)))))))) (by kernel_rfl) (by kernel_rfl) (HT.out.keep ((Below.refl _ _).drew)) ?_
  have hb : Below w3.heap.size w3 w3.drew := (Below.refl _ _).drew
  replace HB := bel_tr HB hb
  replace HX := Lib.hid (HX.out.keep hb)
  replace HT := Lib.hid (HT.out.keep hb)
  replace HRx := Lib.hid (HRx.out.keep hb)
  replace HRy := Lib.hid (HRy.out.keep hb)
  clear hb
  generalize w3.drew = w4 at *
  repeat (first
    | (refine Sch.tn_q rfl rfl rfl (fun K hK => ?_); go_big_quiet_op; (first | refine hK _ ?_ | refine ⟨_, fun _ _ => rfl, hK _ ?_⟩); clear hK K)
    | (refine Sch.tn_load _ _ _ _ _ rfl rfl rfl rfl (by first | exact F.Sb.l | exact F.Sb.l0 | exact F.Sb.l1) rfl ?_; simp only [Act.put, List.setIfInBounds_toArray, List.set_cons_zero, List.set_cons_succ]))
  refine Sch.tn_e rfl rfl (fun K hK => ?_)
  go_wp2_with fail
  refine (HR.out _ HRx.out HRy.out).mono ?_
  rintro e w5 ⟨v, rfl, ho, hb⟩
  obtain ⟨a5, c5, rfl, hr, -⟩ := ho.row
  have HM := Lib.hid hr
  replace HB := bel_tr HB hb
  replace HX := Lib.hid (HX.out.keep hb)
  replace HT := Lib.hid (HT.out.keep hb)
  clear ho hb hr HR
  refine hK _ _ HT.out ?_
  clear hK K
  try simp only [Act.put, List.setIfInBounds_toArray, List.set_cons_zero, List.set_cons_succ]
  refine Sch.tn_e rfl rfl (fun K hK => ?_)
  go_wp2_with fail
  refine (HTr.out _ _ _ _ _ _ HE.out rfl HX.out HM.out).mono ?_
  rintro e w6 ⟨rfl, hb⟩
  replace HB := bel_tr HB hb
  replace HT := Lib.hid (HT.out.keep hb)
  clear hb HM HX HTr
  refine hK _ _ HT.out ?_
  clear hK K
  try simp only [Act.put, List.setIfInBounds_toArray, List.set_cons_zero, List.set_cons_succ]
  repeat (refine Sch.tn_q rfl rfl rfl (fun K hK => ?_); go_big_quiet_op; (first | refine hK _ ?_ | refine ⟨_, fun _ _ => rfl, hK _ ?_⟩); clear hK K)
  refine Sch.tn_e rfl rfl (fun K hK => ?_)
  go_wp2_with fail
  refine (known_any _).mono ?_
  rintro e w7 ⟨rfl, hb⟩
  replace HB := bel_tr HB hb
  replace HT := Lib.hid (HT.out.keep hb)
  clear hb
  refine hK _ _ HT.out ?_
  clear hK K
  try simp only [Act.put, List.setIfInBounds_toArray, List.set_cons_zero, List.set_cons_succ]
  repeat (refine Sch.tn_q rfl rfl rfl (fun K hK => ?_); go_big_quiet_op; (first | refine hK _ ?_ | refine ⟨_, fun _ _ => rfl, hK _ ?_⟩); clear hK K)
  refine Sch.tn_n ?_
  go_wp2_with fail
  go_ret
  exact ⟨rfl, HB.out⟩
end Go.Proofs.Ytfmlenhakejefaa.Ca
end
