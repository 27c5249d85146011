/-
  Kill of the program.
-/
import Derived.Test.YtfpfihmihlmobaaGreatQPlc
import Derived.Test.YtfpfihmihlmobaaGreatMQOwn
import Derived.Test.YtfpfihmihlmobaaGreatMEOf
import Derived.Test.YtfpfihmihlmobaaGreatMFMis
import Derived.Test.YtfpfihmihlmobaaGreatMDRefB
import Derived.Test.YtfpfihmihlmobaaGreatMQAdd

section
namespace Go.Proofs.YtfpfihmihlmobaaGreat.Qs
set_option linter.unusedVariables false
open Go.RowKit V Go.Sort D Nd

theorem enters_noDot : ∀ args w, (callFunc 69 args).run Tryz.prog w = .ok (.enter 69 args) w := enters_of Tryz.func69 (by kernel_rfl) rfl
set_option maxRecDepth 100000 in
theorem noDot_any (d : Dt) (w : World) : Calls Tryz.prog 69 #[dv d] w fun e w' => e = .returned (.bool (!validR d)) ∧ Below w.heap.size w w' := by
  have HV := Lib.hid (fun w => D.valid_any d w)
  generalize validR d = R at *
  obtain ⟨d1, d2⟩ := d
  go_enter Tryz.func69, Tryz.ntmps69
  go_wp2_with fail
  refine (HV.out _).mono ?_
  rintro e w2 ⟨rfl, hl⟩
  have HB := bel_tr (Lib.hid (bel_box w _)) hl
  clear hl HV
  go_wp2_with fail
  go_ret
  exact ⟨rfl, HB.out⟩
theorem ask_noDot (w : World) (l : List Dt) : F.Ask w 69 #[] l (fun d => !validR d) := fun W _ d _ => noDot_any d W

def killP (l : List Nt) (dots : List Dt) : List Nt × Int := if (validS l && dots.all validR) = true then killS l dots else ([], 2)
theorem killAt_congr {n : Nt} {a b : List Dt} (h : n.1 ∈ b ↔ n.1 ∈ a) : killAt a n = killAt b n := by
  unfold killAt
  by_cases hm : n.1 ∈ a
  · rw [if_pos hm, if_pos (h.2 hm)]
  · rw [if_neg hm, if_neg (fun k => hm (h.1 k))]
theorem kill_step {l : List Nt} {dots : List Dt} {k i : Nat} (hl : DN l) (hk : k < dots.length) (hi : i < l.length) (e : l[i].1 = dots[k]) {q : Nt} (hq : q = (l.map (killAt (dots.take k)))[i]'(by simpa using hi)) :
    (l.map (killAt (dots.take k))).set i (killN q) = l.map (killAt (dots.take (k + 1))) := by
  subst hq
  have et : dots.take (k + 1) = dots.take k ++ [dots[k]] := by rw [List.take_add_one, List.getElem?_eq_getElem hk]; rfl
  apply List.ext_getElem (by simp)
  intro j h1 h2
  have hj : j < l.length := by simpa using h2
  rw [List.getElem_set]
  by_cases hij : i = j
  · subst hij
    rw [if_pos rfl, List.getElem_map, List.getElem_map]
    have hm : l[i].1 ∈ dots.take (k + 1) := by rw [e, et]; exact List.mem_append_right _ (by simp)
    unfold killAt
    rw [if_pos hm]
    split <;> rfl
  · rw [if_neg hij]
    simp only [List.getElem_map]
    have hne : l[j].1 ≠ dots[k] := fun h => hij (dn_at hl hi hj (e.trans h.symm))
    have hm : l[j].1 ∈ dots.take (k + 1) ↔ l[j].1 ∈ dots.take k := by
      rw [et, List.mem_append, List.mem_singleton]
      exact ⟨fun h => h.resolve_right hne, .inl⟩
    exact killAt_congr hm

set_option maxRecDepth 100000 in
set_option maxHeartbeats 4000000 in
theorem kill_prog (l : List Nt) (dots : List Dt) (a b : Option Addr) (c n : Nat) (w : World) (hf : ∀ x ∈ l, fitN x) (hd : ∀ x ∈ dots, fitD x) (hx : RowN w a l) (hy : RowD w b dots) (hna : a = none → c = 0) (hlx : l.length ≤ 1000000) (hly : dots.length ≤ 1000000) :
    Calls Tryz.prog 37 #[.slice a l.length c, .slice b dots.length n] w fun e w' => ∃ v, e = .returned (.tuple #[v, .int .i64 (killP l dots).2]) ∧ ON w' w.heap.size E v (killP l dots).1 ∧ Below w.heap.size w w' := by
  have HE : Hid (killP l dots = if (validS l && dots.all validR) = true then killS l dots else ([], 2)) := rfl
  have HV := Lib.hid (fun w h => validS_any l a c w h hlx)
  have HD := Lib.hid (fun w h => F.containsF dots b n 69 #[] (fun d => !validR d) w enters_noDot (ask_noDot w dots) h hly)
  rw [F.any_valid] at HD
  have HS : Hid (validS l = true → DN l) := fun h => dn_srt (validS_iff.1 h).2
  have HP := Lib.hid (fun w hs h => places_any l a c w hs hf h hlx)
  have HC := Lib.hid (fun w h => cloneN l a c w h hna hlx)
  have HX := Lib.hid hx
  have HY := Lib.hid hy
  have HF := Lib.hid hd
  have hli : (l.length : Int) ≤ 1000000 := by omega
  have hld : (dots.length : Int) ≤ 1000000 := by omega
  clear hf hd hx hy hna hlx hly
  generalize killP l dots = R at *
  generalize validS l = va at *
  generalize dots.all validR = vd at *
  go_enter Tryz.func37, Tryz.ntmps37
  go_wp2_with fail
  refine (HV.out _ HX.out).mono ?_
  rintro e w2 ⟨rfl, hb⟩
  have HB := Lib.hid hb
  clear hb
  rcases va with _ | _
  · go_wp2_with fail
    go_ret2
    rw [HE.out]
    exact ⟨_, rfl, ON.nil _ _ _, HB.out⟩
  · go_wp2_with fail
    refine (HD.out _ (HY.out.keep HB.out)).mono ?_
    rintro e w3 ⟨rfl, hb⟩
    replace HB := bel_tr HB hb
    clear hb
    rcases vd with _ | _
    · go_wp2_with fail
      go_ret2
      rw [HE.out]
      exact ⟨_, rfl, ON.nil _ _ _, HB.out⟩
    · have HN := Lib.hid (HS.out (by first | trivial | rfl))
      have HE2 : Hid (R = killS l dots) := by show _ = _; rw [HE.out]; rfl
      go_wp2_with fail
      refine (HP.out _ HN.out (HX.out.keep HB.out)).mono ?_
      rintro e w4 ⟨p, rfl, -, hm, hb⟩
      have HM := Lib.hid hm
      have hpl := hm.lt
      replace HB := bel_tr HB hb
      clear hb hm
      go_wp2_with fail
      refine (HC.out _ (HX.out.keep HB.out)).mono ?_
      rintro e w5 ⟨v, rfl, ho, hb⟩
      replace HM := Lib.hid (HM.out.keep hb)
      replace HO := Lib.hid (ho.mono (base' := w4.heap.size) fun k hk => (ho.lt k hk).1)
      have HB4 := Lib.hid HB.out.size
      have HPl := Lib.hid hpl
      have HB5 := Lib.hid hb.size
      replace HB := bel_tr HB hb
      clear hb ho
      obtain ⟨A, cv, rfl, -, -, -, hA⟩ := HO.out.row
      have HA : Hid (∀ x, A = some x → x = ⟨x.block, 0, none⟩) := fun x hx => (hA x hx).1
      have HO2 : Hid (ON w5 w4.heap.size E (.slice A l.length cv) (l.map (killAt (dots.take 0)))) := by
        have e : l.map (killAt (dots.take 0)) = l := by
          have : killAt (dots.take 0) = id := by funext x; unfold killAt; simp
          rw [this, List.map_id]
        rw [e]; exact HO.out
      clear hA HO
      go_wp2_with fail
      go_loopw [9, 10, 11, 25] (fun _ _ _ i wr => ∃ k : Nat, k ≤ dots.length ∧ i = .int .i64 (k : Int) ∧ Hid (Below w.heap.size w wr) ∧ Hid (w4.heap.size ≤ wr.heap.size) ∧ Hid (Dm elInt wr p 1000000 (idxG l)) ∧ Hid (p < w4.heap.size) ∧ Hid (ON wr w4.heap.size E (.slice A l.length cv) (l.map (killAt (dots.take k)))) ∧ Hid (∀ j (hj : j < dots.length), j < k → atS l dots[j] ≠ none)) (fun _ _ _ i _ => dots.length - (intOf i).toNat)
      case atStart => exact ⟨0, Nat.zero_le _, rfl, HB, HB5, HM, HPl, HO2, fun j _ h => by omega⟩
      case round =>
        obtain ⟨k, hk, rfl, hh, HB5, HM, HPl, HO, HV⟩ := hrel
        by_cases hlt : k < dots.length
        · have hi0 : (k : Int) < (dots.length : Int) := by omega
          obtain ⟨b1, o1, rfl, p0, p1⟩ := (HY.out.keep hh.out).get (Below.refl _ _) k hlt
          have HFq := Lib.hid (HF.out dots[k] (List.getElem_mem hlt))
          have HKs := Lib.hid (fun i hi e q hq => kill_step (k := k) (i := i) (q := q) HN.out hlt hi e hq)
          have HMe := Lib.hid (List.getElem_mem hlt)
          have HVk : Hid (atS l dots[k] ≠ none → ∀ j (hj : j < dots.length), j < k + 1 → atS l dots[j] ≠ none) := fun h j hj hjk => by
            by_cases e : j = k
            · subst e; exact h
            · exact HV.out j hj (by omega)
          obtain ⟨q, hq⟩ : ∃ q, q = dots[k] := ⟨_, rfl⟩
          rw [← hq] at p0 p1 HFq HKs HMe HVk
          clear hq
          have hb0 := bel_box wr (.cells #[.int .i64 q.1, .int .i64 q.2] 33)
          have HB1 := bel_tr hh hb0
          have HM1 := Lib.hid (HM.out.keep hb0)
          have HO1 := Lib.hid (HO.out.below hb0)
          have HS1 : Hid (w4.heap.size ≤ (wr.alloc (.cells #[.int .i64 q.1, .int .i64 q.2] 33)).heap.size) := Nat.le_trans HB5.out hb0.size
          clear hb0
          have hlk := HM1.out.look_ok uInt (zInt _) HFq.out
          have HI : Hid (∀ z, z = idxG l q → (z = none ∧ atS l q = none) ∨ ∃ i, ∃ hi : i < l.length, z = some (i : Int) ∧ l[i].1 = q) := fun z hz => by
            rcases h0 : idxG l q with _ | i
            · exact .inl ⟨hz.trans h0, idxG_none.1 h0⟩
            · obtain ⟨i, hi, e, h1, -⟩ := idxG_some h0
              exact .inr ⟨i, hi, by rw [hz, h0, e], h1⟩
          obtain ⟨z, hz⟩ : ∃ z, z = idxG l q := ⟨_, rfl⟩
          rw [← hz] at hlk
          obtain ⟨q1, q2⟩ := q
          obtain ⟨rfl, ha⟩ | ⟨i, hi, rfl, ha⟩ := HI.out z hz
          · have hlk2 : (Instr.lookup 76 (.map (some p)) (dv (q1, q2)) true).run Tryz.prog (wr.alloc (.cells #[.int .i64 q1, .int .i64 q2] 33)) = .ok (.tuple #[.int .i64 0, .bool false]) (wr.alloc (.cells #[.int .i64 q1, .int .i64 q2] 33)) := hlk
            have HCo := Lib.hid (kill_code (l := l) (q1, q2) HMe.out ha)
            clear hlk hz HI ha
            go_wp2_with fail
            go_ret2
            rw [HE2.out, HCo.out]
            exact ⟨_, rfl, ON.nil _ _ _, HB1.out⟩
          · have hlk2 : (Instr.lookup 76 (.map (some p)) (dv (q1, q2)) true).run Tryz.prog (wr.alloc (.cells #[.int .i64 q1, .int .i64 q2] 33)) = .ok (.tuple #[.int .i64 (i : Int), .bool true]) (wr.alloc (.cells #[.int .i64 q1, .int .i64 q2] 33)) := hlk
            have HVn := Lib.hid (HVk.out (by
              intro h
              exact at_none.1 h l[i] (List.getElem_mem hi) ha))
            have hi2 : (i : Int) < (l.length : Int) := by omega
            have HLi : Hid (i < (l.map (killAt (dots.take k))).length) := by show _ < _; simpa using hi
            have HKt := Lib.hid (fun q hq => HKs.out i hi ha q hq)
            clear hlk hz HI ha
            obtain ⟨g, rfl⟩ : ∃ g, A = some ⟨g, 0, none⟩ := by
              rcases A with _ | x
              · have := HO1.out.r
                have h0 := this.2.1
                simp at h0
                have h3 := HO1.out.row
                obtain ⟨a', c', e, hr, hn, -⟩ := h3
                simp only [Value.slice.injEq] at e
                have := (hn e.1.symm).2
                have : l = [] := by simpa using this
                subst this
                simp at hi
              · exact ⟨x.block, by rw [HA.out x rfl]⟩
            obtain ⟨n0, n1, n2, n3, n4, n5⟩ := HO1.out.na i HLi.out
            obtain ⟨t, ht⟩ : ∃ t, t = (l.map (killAt (dots.take k)))[i]'HLi.out := ⟨_, rfl⟩
            rw [← ht] at n0 n1 n2 n3 n4 n5
            have HKq := Lib.hid (HKt.out t ht)
            clear ht
            have HKi := Lib.hid (fun w => Nd.kill_any t w)
            obtain ⟨⟨t1, t2⟩, ⟨t3, t4⟩, t5, t6⟩ := t
            go_wp2_with fail
            refine (HKi.out _).mono ?_
            rintro e w7 ⟨rfl, hl⟩
            have hb := hl.bel
            clear hl n0 n1 n2 n3 n4 n5 hlk2 p0 p1
            replace HB1 := bel_tr HB1 hb
            replace HM1 := Lib.hid (HM1.out.keep hb)
            replace HO1 := Lib.hid (HO1.out.below hb)
            replace HS1 := Lib.hid (Nat.le_trans HS1.out hb.size)
            clear hb
            obtain ⟨n0, n1, n2, n3, n4, n5⟩ := HO1.out.na i HLi.out
            obtain ⟨s, hs⟩ : ∃ s, s = (l.map (killAt (dots.take k)))[i]'HLi.out := ⟨_, rfl⟩
            rw [← hs] at n0 n1 n2 n3 n4 n5
            clear hs
            have f0 := HO1.out.free (i * 6)
            have f1 := HO1.out.free (i * 6 + 1)
            have f2 := HO1.out.free (i * 6 + 2)
            have f3 := HO1.out.free (i * 6 + 3)
            have f4 := HO1.out.free (i * 6 + 4)
            have f5 := HO1.out.free (i * 6 + 5)
            have HO3 := Lib.hid (HO1.out.put HLi.out (killN ((t1, t2), (t3, t4), t5, t6)))
            rw [HKq.out] at HO3
            have HGl := Lib.hid (HO1.out.lt g rfl).1
            have HB3 := Lib.hid (putAt_below HB1.out (Nat.le_trans HB4.out HGl.out) (i * 6) (killN ((t1, t2), (t3, t4), t5, t6)))
            have HM3 := Lib.hid (HM1.out.kept (putAt_gb w7 g (i * 6) (killN ((t1, t2), (t3, t4), t5, t6))) (by have := HPl.out; have := HGl.out; simp; omega))
            have HS3 := Lib.hid (Nat.le_trans HS1.out (putAt_gb w7 g (i * 6) (killN ((t1, t2), (t3, t4), t5, t6))).size)
            clear HKt HKq HKi HVk HKs
            go_wp2_with fail
            go_roundw
            case rel => exact ⟨k + 1, by omega, by go_num, HB3, HS3, HM3, HPl, HO3, HVn⟩
            case measure => simp [intOf]; omega
        · obtain rfl : k = dots.length := by omega
          have hend : ¬ (dots.length : Int) < (dots.length : Int) := by omega
          have HKa : Hid (killS l dots = (l.map (killAt dots), 0)) := kill_all (fun d hd => by
            obtain ⟨j, hj, rfl⟩ := List.mem_iff_getElem.1 hd
            exact HV.out j hj hj)
          rw [List.take_length] at HO
          go_wp2_with fail
          go_ret2
          rw [HE2.out, HKa.out]
          exact ⟨_, rfl, HO.out.mono (fun k hk => Nat.le_trans HB4.out (HO.out.lt k hk).1), hh.out⟩
end Go.Proofs.YtfpfihmihlmobaaGreat.Qs
end

/-
  The reference's Dots, Context, Lacking, Kill.
-/
section
namespace Go.Proofs.YtfpfihmihlmobaaGreat.Qs
set_option linter.unusedVariables false
open Go.RowKit V Go.Sort D Nd

theorem dots_step {l : List Nt} {dd : Bool} {k : Nat} (hk : k < l.length) : dotsS (l.take (k + 1)) dd = if (!dd || deadN l[k]) = true then dotsS (l.take k) dd ++ [l[k].1] else dotsS (l.take k) dd := by
  have e : l.take (k + 1) = l.take k ++ [l[k]] := by rw [List.take_add_one, List.getElem?_eq_getElem hk]; rfl
  unfold dotsS
  rw [e, List.filter_append, List.filter_cons]
  split
  · simp
  · simp
set_option maxRecDepth 100000 in
set_option maxHeartbeats 2000000 in
theorem dots_ref (l : List Nt) (dd : Bool) (a : Option Addr) (c : Nat) (w : World) (hx : RowN w a l) (hlx : l.length ≤ 1000000) :
    Calls Tryz.prog 63 #[.slice a l.length c, .bool dd] w fun e w' => ∃ v, e = .returned v ∧ OD w' w.heap.size D.E v (dotsS l dd) ∧ Below w.heap.size w w' := by
  have HX := Lib.hid hx
  have hli : (l.length : Int) ≤ 1000000 := by omega
  have HLn := Lib.hid hlx
  clear hx hlx
  go_enter Tryz.func63, Tryz.ntmps63
  go_wp2_with fail
  go_loopw [5, 6] (fun v i wr => ∃ k : Nat, k ≤ l.length ∧ i = .int .i64 (k : Int) ∧ Hid (Below w.heap.size w wr) ∧ Hid (OD wr w.heap.size D.E v (dotsS (l.take k) dd))) (fun _ i _ => l.length - (intOf i).toNat)
  case atStart => exact ⟨0, Nat.zero_le _, rfl, Below.refl _ _, OD.nil _ _ _⟩
  case round =>
    obtain ⟨k, hk, rfl, hh, HO⟩ := hrel
    by_cases hlt : k < l.length
    · have hi0 : (k : Int) < (l.length : Int) := by omega
      obtain ⟨b1, o1, rfl, hna⟩ := na_of (HX.out.keep hh.out) k hlt
      have HSt := Lib.hid (dots_step (dd := dd) hlt)
      have HPk : Hid ((dotsS (l.take k) dd).length ≤ 1000000) := by
        have h1 := dots_len (l.take k) dd
        rw [List.length_take] at h1
        have h2 := HLn.out
        show _ ≤ _
        omega
      obtain ⟨q, hq⟩ : ∃ q, q = l[k] := ⟨_, rfl⟩
      rw [← hq] at hna HSt
      clear hq
      have HDq : Hid (deadN q = decide (q.2.2.2 = 0)) := rfl
      obtain ⟨n0, n1, n2, n3, n4, n5⟩ := hna
      obtain ⟨⟨q1, q2⟩, ⟨q3, q4⟩, q5, q6⟩ := q
      simp only at HDq n0 n1 n5
      by_cases hc : dd = true ∧ ¬ q6 = 0
      · obtain ⟨rfl, h6⟩ := hc
        have hz : (q6 == 0) = false := by simpa using h6
        have HSt2 : Hid (dotsS (l.take (k + 1)) true = dotsS (l.take k) true) := by
          show _ = _
          rw [HSt.out, HDq.out, if_neg (by simp [h6])]
        rw [← HSt2.out] at HO
        clear HSt HDq
        go_wp2_with fail
        go_roundw
        case rel => exact ⟨k + 1, by omega, by go_num, hh, HO⟩
        case measure => simp [intOf]; omega
      · have HSt2 : Hid (dotsS (l.take (k + 1)) dd = dotsS (l.take k) dd ++ [(q1, q2)]) := by
          show _ = _
          rw [HSt.out, HDq.out, if_pos (by
            rcases dd with _ | _
            · rfl
            · have : q6 = 0 := by simpa using hc
              simp [this])]
        have hb2 := bel_box wr (.cells #[.int .i64 q1, .int .i64 q2] 33)
        have HO2 := Lib.hid (HO.out.below hb2)
        have HB2 := bel_tr hh hb2
        have HLt : Hid (RowD (wr.alloc (.cells #[.int .i64 q1, .int .i64 q2] 33)) (some ⟨wr.heap.size, 0, none⟩) [(q1, q2)]) := lit_one wr (q1, q2) _
        clear hb2 HSt HDq
        rcases dd with _ | _
        · go_wp2_with (at_builtin; refine wpList_appD rfl _ _ _ rfl Tryz.underlying43 infoD _ _ rfl HO2.out (some ⟨wr.heap.size, 0, none⟩) [(q1, q2)] 1 rfl HLt.out (fun h => by cases h) (by have := HPk.out; simp; omega) HB2.out.size ?_)
          intro v7 w7 ho hg _
          have HO7 : Hid (OD w7 w.heap.size D.E v7 (dotsS (l.take (k + 1)) false)) := by rw [HSt2.out]; exact ho
          have HB7 := Lib.hid (HB2.out.grown hg HB2.out.size (fun x hx => (HO2.out.lt x hx).1))
          clear ho hg n0 n1 n2 n3 n4 n5
          go_wp2_with fail
          go_roundw
          case rel => exact ⟨k + 1, by omega, by go_num, HB7, HO7⟩
          case measure => simp [intOf]; omega
        · have h6 : q6 = 0 := by simpa using hc
          subst h6
          go_wp2_with (at_builtin; refine wpList_appD rfl _ _ _ rfl Tryz.underlying43 infoD _ _ rfl HO2.out (some ⟨wr.heap.size, 0, none⟩) [(q1, q2)] 1 rfl HLt.out (fun h => by cases h) (by have := HPk.out; simp; omega) HB2.out.size ?_)
          intro v7 w7 ho hg _
          have HO7 : Hid (OD w7 w.heap.size D.E v7 (dotsS (l.take (k + 1)) true)) := by rw [HSt2.out]; exact ho
          have HB7 := Lib.hid (HB2.out.grown hg HB2.out.size (fun x hx => (HO2.out.lt x hx).1))
          clear ho hg n0 n1 n2 n3 n4 n5
          go_wp2_with fail
          go_roundw
          case rel => exact ⟨k + 1, by omega, by go_num, HB7, HO7⟩
          case measure => simp [intOf]; omega
    · obtain rfl : k = l.length := by omega
      have hend : ¬ (l.length : Int) < (l.length : Int) := by omega
      rw [List.take_length] at HO
      go_wp2_with fail
      go_ret
      exact ⟨_, rfl, HO.out, hh.out⟩

/-- A context that may be read. -/
def Sx (w : World) (x y : Value) (c : F.Ct) : Prop := E.SV w x c.1 ∧ E.SV w y c.2
set_option maxRecDepth 100000 in
set_option maxHeartbeats 2000000 in
theorem ctx_ref (l : List Nt) (dd : Bool) (a : Option Addr) (c : Nat) (w : World) (hv : validS l = true) (hx : RowN w a l) (hlx : l.length ≤ 300000) :
    Calls Tryz.prog 31 #[.slice a l.length c, .bool dd] w fun e w' => ∃ x y, e = .returned (F.cv x y) ∧ Sx w' x y (ctxS l dd) ∧ Below w.heap.size w w' := by
  have HDo := Lib.hid (fun w h => dots_ref l dd a c w h (by omega))
  have HA := Lib.hid (fun p j w h => F.add_ref [] [] (dotsS l dd) none none p 0 0 j w vc_nil (dots_valid hv dd) (.inl rfl) (.inl rfl) h (fun _ => rfl) (Nat.le_refl _) (by simp) (by simp) (by have := dots_len l dd; omega))
  have HE : Hid (F.addC ([], []) (dotsS l dd) = ctxS l dd) := rfl
  rw [HE.out] at HA
  have HR := Lib.hid (F.rc_new w none none 0 0 0 0)
  have HB := Lib.hid (bel_box w (F.cbox (.slice none 0 0) (.slice none 0 0)))
  have HX := Lib.hid (hx.keep HB.out)
  clear hx hlx hv HE
  generalize ctxS l dd = R at *
  generalize dotsS l dd = s at *
  go_enter Tryz.func31, Tryz.ntmps31
  go_wp2_with fail
  generalize w.alloc (F.cbox (.slice none 0 0) (.slice none 0 0)) = w1 at *
  refine (HDo.out _ HX.out).mono ?_
  rintro e w2 ⟨v, rfl, ho, hb⟩
  obtain ⟨A, cv, rfl, hr, -⟩ := ho.row
  replace HR := Lib.hid (HR.out.keep hb)
  replace HB := bel_tr HB hb
  have HC2 := Lib.hid (HA.out A cv w2 hr)
  clear ho hr hb HDo HA
  go_wp2_with fail
  refine (HC2.out).mono ?_
  rintro e w4 ⟨x, y, rfl, hs1, hs2, hb⟩
  have HSx := Lib.hid hs1
  have HSy := Lib.hid hs2
  replace HR := Lib.hid (HR.out.keep hb)
  replace HB := bel_tr HB hb
  clear hs1 hs2 hb HC2
  obtain ⟨⟨u0, r0⟩, r1⟩ := HR.out.wc 0 (by omega)
  obtain ⟨⟨u1, r2⟩, r3⟩ := HR.out.wc 1 (by omega)
  obtain ⟨a6, n6, rfl, -⟩ := F.SV.sh HSx.out
  obtain ⟨b6, m6, rfl, -⟩ := F.SV.sh HSy.out
  have HP := Lib.hid (F.put_two (x := .slice a6 R.1.length n6) (y := .slice b6 R.2.length m6) HR.out.wc)
  have HX2 := Lib.hid (F.SV.put2 (y := .slice a6 R.1.length n6) (z := .slice b6 R.2.length m6) HSx.out HR.out)
  have HY2 := Lib.hid (F.SV.put2 (y := .slice a6 R.1.length n6) (z := .slice b6 R.2.length m6) HSy.out HR.out)
  have HB4 := Lib.hid (F.below_put2 (g := w.heap.size) (y := .slice a6 R.1.length n6) (z := .slice b6 R.2.length m6) HB (Nat.le_refl _))
  go_wp2_with fail
  generalize (w4.setCell ⟨w.heap.size, 0, none⟩ (.slice a6 R.1.length n6)).setCell ⟨w.heap.size, 1, none⟩ (.slice b6 R.2.length m6) = W at *
  have q0 := HP.out.1
  have q1 := HP.out.2
  (try simp only [Exit.inBlock, Exit.then])
  refine bodyPost_ret (v := F.cv (.slice a6 R.1.length n6) (.slice b6 R.2.length m6)) (by rw [results_cell1 (fn := Tryz.f31) (p := 4) (ty := 51) rfl]; go_simp) rfl ?_
  exact ⟨_, _, rfl, ⟨HX2.out, HY2.out⟩, HB4.out⟩

theorem lack_step {l : List Nt} {k : Nat} (hk : k < l.length) : (l.take (k + 1)).foldl (fun o n => if lacksS l n = true then ins o n.2.1 else o) [] = if lacksS l l[k] = true then ins ((l.take k).foldl (fun o n => if lacksS l n = true then ins o n.2.1 else o) []) l[k].2.1 else (l.take k).foldl (fun o n => if lacksS l n = true then ins o n.2.1 else o) [] := by
  rw [foldl_take _ _ _ _ hk]
theorem ins_len (s : List Dt) (d : Dt) : (ins s d).length ≤ s.length + 1 := by
  unfold ins
  split
  · omega
  · simp only [List.length_append, List.length_take, List.length_drop, List.length_cons, List.length_nil]
    have := pos_le s d
    omega
set_option maxRecDepth 100000 in
set_option maxHeartbeats 2000000 in
theorem lack_ref (l : List Nt) (a : Option Addr) (c : Nat) (w : World) (hx : RowN w a l) (hlx : l.length ≤ 300000) :
    Calls Tryz.prog 33 #[.slice a l.length c] w fun e w' => ∃ v, e = .returned v ∧ OD w' w.heap.size D.E v (lackS l) ∧ Below w.heap.size w w' := by
  have HX := Lib.hid hx
  have hli : (l.length : Int) ≤ 300000 := by omega
  have HLn := Lib.hid hlx
  have HFn := Lib.hid (fun d w h => find_ref l d a c w h (by omega))
  obtain ⟨LK, hLK⟩ : ∃ LK : Nat → List Dt, ∀ k, LK k = (l.take k).foldl (fun o n => if lacksS l n = true then ins o n.2.1 else o) [] := ⟨_, fun _ => rfl⟩
  have HK0 : Hid (LK 0 = []) := by rw [hLK]; rfl
  have HKe : Hid (LK l.length = lackS l) := by rw [hLK, List.take_length]; rfl
  have HKs : Hid (∀ k (hk : k < l.length), LK (k + 1) = if lacksS l l[k] = true then ins (LK k) l[k].2.1 else LK k) := fun k hk => by rw [hLK, hLK]; exact lack_step hk
  have HKl : Hid (∀ k, (LK k).length ≤ k) := by
    intro k
    induction k with
    | zero => rw [HK0.out]; exact Nat.le_refl _
    | succ k ih =>
      by_cases h : k < l.length
      · rw [HKs.out k h]
        have := ins_len (LK k) l[k].2.1
        split <;> omega
      · have e : LK (k + 1) = LK k := by rw [hLK, hLK, List.take_of_length_le (by omega), List.take_of_length_le (by omega)]
        rw [e]; omega
  clear hx hlx hLK
  go_enter Tryz.func33, Tryz.ntmps33
  go_wp2_with fail
  go_loopw [3, 4, 5] (fun v i _ wr => ∃ k : Nat, k ≤ l.length ∧ i = .int .i64 (k : Int) ∧ Hid (Below w.heap.size w wr) ∧ Hid (OD wr w.heap.size D.E v (LK k))) (fun _ i _ _ => l.length - (intOf i).toNat)
  case atStart => exact ⟨0, Nat.zero_le _, rfl, Below.refl _ _, by rw [HK0.out]; exact OD.nil _ _ _⟩
  case round =>
    obtain ⟨k, hk, rfl, hh, HO⟩ := hrel
    by_cases hlt : k < l.length
    · have hi0 : (k : Int) < (l.length : Int) := by omega
      obtain ⟨b1, o1, rfl, hna⟩ := na_of (HX.out.keep hh.out) k hlt
      have HSt := Lib.hid (HKs.out k hlt)
      have HPk := Lib.hid (HKl.out k)
      obtain ⟨A, cv, rfl, -⟩ := HO.out.row
      obtain ⟨q, hq⟩ : ∃ q, q = l[k] := ⟨_, rfl⟩
      rw [← hq] at hna HSt
      clear hq
      have HLq : Hid (lacksS l q = (!rootR q.2.1 && (atS l q.2.1).isNone)) := rfl
      have HNe : Hid ((atS l q.2.1).isNone = decide (idxS l q.2.1 < 0)) := by
        show _ = _
        rw [Bool.eq_iff_iff, Option.isNone_iff_eq_none, decide_eq_true_eq, idx_neg]
      obtain ⟨n0, n1, n2, n3, n4, n5⟩ := hna
      obtain ⟨⟨q1, q2⟩, ⟨q3, q4⟩, q5, q6⟩ := q
      simp only at HLq n2 n3 HNe HSt
      have HRt := Lib.hid (fun w => root_ref (q3, q4) w)
      have HFq := Lib.hid (fun w h => HFn.out (q3, q4) w h)
      have hb0 := bel_box wr (.cells #[.int .i64 q3, .int .i64 q4] 33)
      have HB1 := bel_tr hh hb0
      have HO1 := Lib.hid (HO.out.below hb0)
      have HX1 := Lib.hid (HX.out.keep HB1.out)
      have hk0 : (wr.alloc (.cells #[.int .i64 q3, .int .i64 q4] 33)).cell? ⟨wr.heap.size, 0, none⟩ = some (.int .i64 q3) := by go_simp
      have hk1 : (wr.alloc (.cells #[.int .i64 q3, .int .i64 q4] 33)).cell? ⟨wr.heap.size, 1, none⟩ = some (.int .i64 q4) := by go_simp
      clear hb0
      generalize lacksS l ((q1, q2), (q3, q4), q5, q6) = ls at *
      generalize (atS l (q3, q4)).isNone = an at *
      generalize rootR (q3, q4) = rt at *
      generalize idxS l (q3, q4) = ix at *
      go_wp2_with fail
      generalize (wr.alloc (.cells #[.int .i64 q3, .int .i64 q4] 33)) = w1 at *
      refine (HRt.out _).mono ?_
      rintro e w2 ⟨rfl, hb⟩
      replace HB1 := bel_tr HB1 hb
      replace HO1 := Lib.hid (HO1.out.below hb)
      replace HX1 := Lib.hid (HX1.out.keep hb)
      have e0 := (hb.cell (p := ⟨wr.heap.size, 0, none⟩) (lt_of_cell hk0)).trans hk0
      have e1 := (hb.cell (p := ⟨wr.heap.size, 1, none⟩) (lt_of_cell hk1)).trans hk1
      clear hb hk0 hk1 HRt n0 n1 n2 n3 n4 n5
      rcases rt with _ | _
      · go_wp2_with fail
        refine (HFq.out _ HX1.out).mono ?_
        rintro e w3 ⟨rfl, hb⟩
        replace HB1 := bel_tr HB1 hb
        replace HO1 := Lib.hid (HO1.out.below hb)
        have g0 := (hb.cell (p := ⟨wr.heap.size, 0, none⟩) (lt_of_cell e0)).trans e0
        have g1 := (hb.cell (p := ⟨wr.heap.size, 1, none⟩) (lt_of_cell e1)).trans e1
        clear hb e0 e1 HFq
        by_cases hix : ix < 0
        · have HSt2 : Hid (LK (k + 1) = ins (LK k) (q3, q4)) := by
            show _ = _
            rw [HSt.out, HLq.out, HNe.out, decide_eq_true hix]
            rfl
          clear HSt HLq HNe
          have HWi := Lib.hid (with_ref (LK k) (q3, q4) A cv w.heap.size w3 HO1.out HB1.out.size (by have := HPk.out; omega))
          rw [← HSt2.out] at HWi
          go_wp2_with fail
          refine HWi.out.mono ?_
          rintro e w5 ⟨v, rfl, ho, hb⟩
          have HO5 := Lib.hid ho
          have HB5 := bel_tr HB1 hb
          clear ho hb g0 g1
          go_wp2_with fail
          go_roundw
          case rel => exact ⟨k + 1, by omega, by go_num, HB5, HO5⟩
          case measure => simp [intOf]; omega
        · have HSt2 : Hid (LK (k + 1) = LK k) := by
            show _ = _
            rw [HSt.out, HLq.out, HNe.out, decide_eq_false hix]
            rfl
          clear HSt HLq HNe
          go_wp2_with fail
          go_roundw
          case rel => exact ⟨k + 1, by omega, by go_num, HB1, by show OD _ _ _ _ _; rw [HSt2.out]; exact HO1.out⟩
          case measure => simp [intOf]; omega
      · have HSt2 : Hid (LK (k + 1) = LK k) := by
          show _ = _
          rw [HSt.out, HLq.out]
          rfl
        clear HSt HLq HNe
        go_wp2_with fail
        go_roundw
        case rel => exact ⟨k + 1, by omega, by go_num, HB1, by show OD _ _ _ _ _; rw [HSt2.out]; exact HO1.out⟩
        case measure => simp [intOf]; omega
    · obtain rfl : k = l.length := by omega
      have hend : ¬ (l.length : Int) < (l.length : Int) := by omega
      rw [HKe.out] at HO
      go_wp2_with fail
      go_ret
      exact ⟨_, rfl, HO.out, hh.out⟩

theorem kill_ref9 (n : Nt) (w : World) : Calls Tryz.prog 57 #[nv n] w fun e w' => e = .returned (nv (killN n)) ∧ Below w.heap.size w w' := by
  obtain ⟨⟨d1, d2⟩, ⟨p1, p2⟩, t, q⟩ := n
  go_enter Tryz.func57, Tryz.ntmps57
  go_wp2_with fail
  (try simp only [Exit.inBlock, Exit.then])
  refine bodyPost_ret (v := .agg #[.int .i64 d1, .int .i64 d2, .int .i64 p1, .int .i64 p2, .int .i64 t, .int .i32 0]) (by rw [results_cell1 (fn := Tryz.f57) (p := 2) (ty := 35) rfl]; go_simp) rfl ?_
  exact ⟨rfl, (lays_alloc2 _ _ _).bel⟩

theorem killAt_take {l : List Nt} {dots : List Dt} {k : Nat} (hk : k < l.length) : (l.take (k + 1)).map (killAt dots) = (l.take k).map (killAt dots) ++ [if l[k].1 ∈ dots then killN l[k] else l[k]] := by
  have e : l.take (k + 1) = l.take k ++ [l[k]] := by rw [List.take_add_one, List.getElem?_eq_getElem hk]; rfl
  rw [e, List.map_append]
  rfl
/-- A box with a node that may be written. -/
def Bx6 (w : World) (g : Nat) (n : Nt) : Prop := Nb w g n ∧ ∀ o, w.frozen? ⟨g, o, none⟩ = false
theorem Bx6.keep {w w' : World} {g : Nat} {n : Nt} (h : Bx6 w g n) (hb : Below w.heap.size w w') : Bx6 w' g n := ⟨h.1.keep hb, fun o => (hb.frozen (p := ⟨g, o, none⟩) h.1.lt).trans (h.2 o)⟩
theorem Bx6.new (w : World) (n : Nt) : Bx6 (w.alloc (.cells (nc n) 35)) w.heap.size n := by
  refine ⟨Nb.new w n, fun o => ?_⟩
  go_simp
theorem Bx6.put {w : World} {g : Nat} {n : Nt} (h : Bx6 w g n) (m : Nt) : Bx6 (Nd.putN w g m) g m := by
  obtain ⟨⟨h0, h1, h2, h3, h4, h5⟩, hf⟩ := h
  refine ⟨?_, fun o => ?_⟩
  · unfold Nd.putN
    refine ⟨?_, ?_, ?_, ?_, ?_, ?_⟩ <;> go_simp
  · unfold Nd.putN
    simp only [World.frozen?_setCell]
    exact hf o
theorem size_put6 (w : World) (g : Nat) (n : Nt) : (Nd.putN w g n).heap.size = w.heap.size := by
  unfold Nd.putN
  simp only [World.size_setCell]
theorem gb_put6 (w : World) (g : Nat) (n : Nt) : w.grownBy (Nd.putN w g n) (some g) :=
  gb_trans (gb_trans (gb_trans (gb_trans (gb_trans (gb_setCell _ _ _ _) (gb_setCell _ _ _ _)) (gb_setCell _ _ _ _)) (gb_setCell _ _ _ _)) (gb_setCell _ _ _ _)) (gb_setCell _ _ _ _)
set_option maxRecDepth 100000 in
set_option maxHeartbeats 4000000 in
theorem kill_ref (l : List Nt) (dots : List Dt) (a b : Option Addr) (c n : Nat) (w : World) (hx : RowN w a l) (hy : RowD w b dots) (hlx : l.length ≤ 300000) (hly : dots.length ≤ 300000) :
    Calls Tryz.prog 25 #[.slice a l.length c, .slice b dots.length n] w fun e w' => ∃ v, e = .returned (.tuple #[v, .int .i64 (killS l dots).2]) ∧ ON w' w.heap.size E v (killS l dots).1 ∧ Below w.heap.size w w' := by
  have HCo := Lib.hid (fun d h1 h2 => kill_code (l := l) (dots := dots) d h1 h2)
  have HKa := Lib.hid (fun h => kill_all (l := l) (dots := dots) h)
  have HX := Lib.hid hx
  have HY := Lib.hid hy
  have HLn := Lib.hid hlx
  have hli : (l.length : Int) ≤ 300000 := by omega
  have hld : (dots.length : Int) ≤ 300000 := by omega
  have HFn := Lib.hid (fun d w h => find_ref l d a c w h (by omega))
  have HHs := Lib.hid (fun d w h => D.has_ref dots d b n w h (by omega))
  obtain ⟨LK, hLK⟩ : ∃ LK : Nat → List Nt, ∀ k, LK k = (l.take k).map (killAt dots) := ⟨_, fun _ => rfl⟩
  have HK0 : Hid (LK 0 = []) := by rw [hLK]; rfl
  have HKe : Hid (LK l.length = l.map (killAt dots)) := by show _ = _; rw [hLK, List.take_length]
  have HKs : Hid (∀ k (hk : k < l.length), LK (k + 1) = LK k ++ [if l[k].1 ∈ dots then killN l[k] else l[k]]) := fun k hk => by rw [hLK, hLK]; exact killAt_take hk
  have HKl : Hid (∀ k, (LK k).length ≤ 300000) := fun k => by rw [hLK, List.length_map, List.length_take]; omega
  clear hx hy hlx hly hLK
  generalize killS l dots = R at *
  go_enter Tryz.func25, Tryz.ntmps25
  go_wp2_with fail
  go_loopw [6] (fun i wr => ∃ k : Nat, k ≤ dots.length ∧ i = .int .i64 (k : Int) ∧ Hid (Below w.heap.size w wr) ∧ Hid (∀ j (hj : j < dots.length), j < k → atS l dots[j] ≠ none)) (fun i _ => dots.length - (intOf i).toNat)
  case atStart => exact ⟨0, Nat.zero_le _, rfl, Below.refl _ _, fun j _ h => by omega⟩
  case round =>
    obtain ⟨k, hk, rfl, hh, HV⟩ := hrel
    by_cases hlt : k < dots.length
    · have hi0 : (k : Int) < (dots.length : Int) := by omega
      obtain ⟨b1, o1, rfl, p0, p1⟩ := (HY.out.keep hh.out).get (Below.refl _ _) k hlt
      have HMe := Lib.hid (List.getElem_mem hlt)
      have HVk : Hid (atS l dots[k] ≠ none → ∀ j (hj : j < dots.length), j < k + 1 → atS l dots[j] ≠ none) := fun h j hj hjk => by
        by_cases e : j = k
        · subst e; exact h
        · exact HV.out j hj (by omega)
      obtain ⟨q, hq⟩ : ∃ q, q = dots[k] := ⟨_, rfl⟩
      rw [← hq] at p0 p1 HMe HVk
      clear hq
      have HFq := Lib.hid (fun w h => HFn.out q w h)
      have HNe : Hid (idxS l q < 0 ↔ atS l q = none) := idx_neg
      have HCq := Lib.hid (HCo.out q HMe.out)
      obtain ⟨q1, q2⟩ := q
      generalize idxS l (q1, q2) = ix at *
      go_wp2_with fail
      refine (HFq.out _ (HX.out.keep hh.out)).mono ?_
      rintro e w2 ⟨rfl, hb⟩
      have HB1 := bel_tr hh hb
      clear hb p0 p1 HFq
      by_cases hix : ix < 0
      · have HE := Lib.hid (HCq.out (HNe.out.1 hix))
        go_wp2_with fail
        go_ret2
        rw [HE.out]
        exact ⟨_, rfl, ON.nil _ _ _, HB1.out⟩
      · have HVn := Lib.hid (HVk.out (fun h => hix (HNe.out.2 h)))
        go_wp2_with fail
        go_roundw
        case rel => exact ⟨k + 1, by omega, by go_num, HB1, HVn⟩
        case measure => simp [intOf]; omega
    · obtain rfl : k = dots.length := by omega
      have hend : ¬ (dots.length : Int) < (dots.length : Int) := by omega
      have HE := Lib.hid (HKa.out (fun d hd => by
        obtain ⟨j, hj, rfl⟩ := List.mem_iff_getElem.1 hd
        exact HV.out j hj hj))
      clear HV HCo HKa HFn
      go_wp2_with fail
      go_loopw [7, 8, 9] (fun v i _ wr => ∃ (vv : Value) (k : Nat), vv = v ∧ k ≤ l.length ∧ i = .int .i64 (k : Int) ∧ Hid (Below w.heap.size w wr) ∧ Hid (ON wr w.heap.size E vv (LK k))) (fun _ i _ _ => l.length - (intOf i).toNat)
      case atStart => exact ⟨_, 0, rfl, Nat.zero_le _, rfl, hh, by show ON _ _ _ _ _; rw [HK0.out]; exact ON.nil _ _ _⟩
      case round =>
        obtain ⟨v, k, rfl, hk, rfl, hh, HO⟩ := hrel
        by_cases hlt : k < l.length
        · have hi0 : (k : Int) < (l.length : Int) := by omega
          obtain ⟨b1, o1, rfl, hna⟩ := na_of (HX.out.keep hh.out) k hlt
          have HSt := Lib.hid (HKs.out k hlt)
          have HPk := Lib.hid (HKl.out k)
          obtain ⟨q, hq⟩ : ∃ q, q = l[k] := ⟨_, rfl⟩
          rw [← hq] at hna HSt
          clear hq
          have hb0 := bel_box wr (.cells (nc q) 35)
          have HB1 := bel_tr hh hb0
          have HO1 := Lib.hid (HO.out.below hb0)
          have HQ := Lib.hid (Bx6.new wr q)
          have HWs := Lib.hid hh.out.size
          have HHq := Lib.hid (fun w h => HHs.out q.1 w h)
          have HKi := Lib.hid (fun w => kill_ref9 q w)
          obtain ⟨n0, n1, n2, n3, n4, n5⟩ := hna
          clear hb0
          by_cases hm : q.1 ∈ dots
          · rw [decide_eq_true hm] at HHq
            rw [if_pos hm] at HSt
            clear hm
            obtain ⟨⟨q1, q2⟩, ⟨q3, q4⟩, q5, q6⟩ := q
            go_wp2_with fail
            generalize (wr.alloc (.cells (nc ((q1, q2), (q3, q4), q5, q6)) 35)) = w1 at *
            refine (HHq.out _ (HY.out.keep HB1.out)).mono ?_
            rintro e w2 ⟨rfl, hb⟩
            replace HB1 := bel_tr HB1 hb
            replace HO1 := Lib.hid (HO1.out.below hb)
            replace HQ := Lib.hid (HQ.out.keep hb)
            clear hb n0 n1 n2 n3 n4 n5 HHq
            obtain ⟨m0, m1, m2, m3, m4, m5⟩ := HQ.out.1
            go_wp2_with fail
            refine (HKi.out _).mono ?_
            rintro e w3 ⟨rfl, hb⟩
            replace HB1 := bel_tr HB1 hb
            replace HO1 := Lib.hid (HO1.out.below hb)
            replace HQ := Lib.hid (HQ.out.keep hb)
            clear hb m0 m1 m2 m3 m4 m5
            generalize killN ((q1, q2), (q3, q4), q5, q6) = m at *
            have HGb := gb_put6 w3 wr.heap.size m
            have HQ5 := Lib.hid (HQ.out.put m)
            have HB5 := Lib.hid (Nd.putN_below HB1.out HWs.out m)
            have HO5 := Lib.hid (HO1.out.keep HGb (.inr (by
              intro e
              have := (HO.out.lt _ e).2
              omega)))
            have f0 := HQ.out.2 0
            have f1 := HQ.out.2 1
            have f2 := HQ.out.2 2
            have f3 := HQ.out.2 3
            have f4 := HQ.out.2 4
            have f5 := HQ.out.2 5
            obtain ⟨m0, m1, m2, m3, m4, m5⟩ := HQ.out.1
            clear HGb HQ HB1 HO1
            have hb2 := bel_box (Nd.putN w3 wr.heap.size m) (.cells (nc m) 35)
            have HO2 := Lib.hid (HO5.out.below hb2)
            have HB2 := bel_tr HB5 hb2
            have HLt : Hid (RowN ((Nd.putN w3 wr.heap.size m).alloc (.cells (nc m) 35)) (some ⟨w3.heap.size, 0, none⟩) [m]) := by
              have h := RowN.lit (Nd.putN w3 wr.heap.size m) [m] (nc m) 35 (0, 0) rfl
              rw [size_put6] at h
              exact h
            clear hb2 HQ5 HB5 HO5
            go_wp2_with (at_builtin; refine wpList_appN rfl _ _ _ rfl Tryz.underlying22 infoN _ _ rfl HO2.out (some ⟨w3.heap.size, 0, none⟩) [m] 1 1 rfl rfl HLt.out (fun h => by cases h) (by have := HPk.out; simp only [List.length_cons, List.length_nil]; omega) HB2.out.size ?_)
            intro v7 w7 ho hg _
            have HO7 : Hid (ON w7 w.heap.size E v7 (LK (k + 1))) := by show ON _ _ _ _ _; rw [HSt.out]; exact ho
            have HB7 := Lib.hid (HB2.out.grown hg HB2.out.size (fun x hx => (HO2.out.lt x hx).1))
            clear ho hg m0 m1 m2 m3 m4 m5 f0 f1 f2 f3 f4 f5
            go_wp2_with fail
            go_roundw
            case rel => exact ⟨_, k + 1, rfl, by omega, by go_num, HB7, HO7⟩
            case measure => simp [intOf]; omega
          · rw [decide_eq_false hm] at HHq
            rw [if_neg hm] at HSt
            clear hm HKi
            obtain ⟨⟨q1, q2⟩, ⟨q3, q4⟩, q5, q6⟩ := q
            go_wp2_with fail
            generalize (wr.alloc (.cells (nc ((q1, q2), (q3, q4), q5, q6)) 35)) = w1 at *
            refine (HHq.out _ (HY.out.keep HB1.out)).mono ?_
            rintro e w2 ⟨rfl, hb⟩
            replace HB1 := bel_tr HB1 hb
            replace HO1 := Lib.hid (HO1.out.below hb)
            replace HQ := Lib.hid (HQ.out.keep hb)
            clear hb n0 n1 n2 n3 n4 n5 HHq
            have hw5 : ∃ w5, w5 = w2 := ⟨_, rfl⟩
            obtain ⟨w5, rfl⟩ := hw5
            obtain ⟨m0, m1, m2, m3, m4, m5⟩ := HQ.out.1
            have hb2 := bel_box w5 (.cells (nc ((q1, q2), (q3, q4), q5, q6)) 35)
            have HO2 := Lib.hid (HO1.out.below hb2)
            have HB2 := bel_tr HB1 hb2
            have HLt : Hid (RowN (w5.alloc (.cells (nc ((q1, q2), (q3, q4), q5, q6)) 35)) (some ⟨w5.heap.size, 0, none⟩) [((q1, q2), (q3, q4), q5, q6)]) := RowN.lit w5 [((q1, q2), (q3, q4), q5, q6)] _ _ _ rfl
            clear hb2
            go_wp2_with (at_builtin; refine wpList_appN rfl _ _ _ rfl Tryz.underlying22 infoN _ _ rfl HO2.out (some ⟨w5.heap.size, 0, none⟩) [((q1, q2), (q3, q4), q5, q6)] 1 1 rfl rfl HLt.out (fun h => by cases h) (by have := HPk.out; simp only [List.length_cons, List.length_nil]; omega) HB2.out.size ?_)
            intro v7 w7 ho hg _
            have HO7 : Hid (ON w7 w.heap.size E v7 (LK (k + 1))) := by show ON _ _ _ _ _; rw [HSt.out]; exact ho
            have HB7 := Lib.hid (HB2.out.grown hg HB2.out.size (fun x hx => (HO2.out.lt x hx).1))
            clear ho hg m0 m1 m2 m3 m4 m5
            go_wp2_with fail
            go_roundw
            case rel => exact ⟨_, k + 1, rfl, by omega, by go_num, HB7, HO7⟩
            case measure => simp [intOf]; omega
        · obtain rfl : k = l.length := by omega
          have hend : ¬ (l.length : Int) < (l.length : Int) := by omega
          rw [HKe.out] at HO
          go_wp2_with fail
          go_ret2
          rw [HE.out]
          exact ⟨_, rfl, HO.out, hh.out⟩
end Go.Proofs.YtfpfihmihlmobaaGreat.Qs
end

/-
  The reference's Put.
-/
section
namespace Go.Proofs.YtfpfihmihlmobaaGreat.Qs
set_option linter.unusedVariables false
open Go.RowKit V Go.Sort D Nd
attribute [local irreducible] Sch.heldN Sch.stepV Sch.stepE

/-! ### Parts of rows of nodes -/
theorem cut_loN (a : Option Addr) (len cap n : Nat) (hn : n ≤ cap) : ∀ wx : World,
    (Instr.slice 22 (.slice a len cap) none (some (.int .i64 (n : Int))) none).run Tryz.prog wx = .ok (.slice a n cap) wx := by
  obtain ⟨i, hi, hz0, hz1, hz2⟩ := G.info_of infoN
  intro wx
  have h1 : (Instr.sliceBound (.int .i64 (n : Int)) cap .sliceAcap).run Tryz.prog wx = .ok n wx := by
    rw [run_sliceBound _ _ _ _ _ (by omega) (by omega)]; rfl
  have h0 : (⟨0, 0, none⟩ : Addr).add 0 = ⟨0, 0, none⟩ := rfl
  by_cases hc : cap = 0
  · rw [hc] at h1
    simp [Instr.slice, run_underlying Tryz.underlying22, Instr.sliceBounds, h1, Result.andThen, sizeOf, typeInfo, hi, hc]
  · have : a.map (fun x => x.add 0) = a := by
      rcases a with _ | ⟨b, o, s⟩
      · rfl
      · simp [Addr.add]
    simp [Instr.slice, run_underlying Tryz.underlying22, Instr.sliceBounds, h1, Result.andThen, sizeOf, typeInfo, hi, hc, this]
def offN (a : Option Addr) (cap m : Nat) : Option Addr := if cap = m then a else a.map (·.add (m * 6))
theorem cut_hiN (a : Option Addr) (len cap m k : Nat) (hk : len = m + k) (hlc : len ≤ cap) : ∀ wx : World,
    (Instr.slice 22 (.slice a len cap) (some (.int .i64 (m : Int))) none none).run Tryz.prog wx = .ok (.slice (offN a cap m) k (cap - m)) wx := by
  obtain ⟨i, hi, hz0, hz1, hz2⟩ := G.info_of infoN
  intro wx
  have h2 : (Instr.sliceBound (.int .i64 (m : Int)) len .sliceB).run Tryz.prog wx = .ok m wx := by
    rw [run_sliceBound _ _ _ _ _ (by omega) (by omega)]; rfl
  have e : len - m = k := by omega
  simp [Instr.slice, run_underlying Tryz.underlying22, Instr.sliceBounds, h2, Result.andThen, sizeOf, typeInfo, hi, hz1, e, offN]
theorem offN_row {w : World} {a : Option Addr} {l : List Nt} (h : RowN w a l) (cap m : Nat) (hlc : l.length ≤ cap) (hm : m ≤ l.length) : RowN w (offN a cap m) (l.drop m) := by
  unfold offN
  split
  · left
    rw [List.drop_eq_nil_iff]; omega
  · rcases h with rfl | ⟨b, o, rfl, hc⟩
    · exact .inl (by simp)
    · have e : (⟨b, o, none⟩ : Addr).add (m * 6) = ⟨b, o + m * 6, none⟩ := by unfold Addr.add; split <;> simp_all
      rw [Option.map_some, e]
      exact RowN.drop (w := w) (b := b) (o := o) (l := l) (.inr ⟨b, o, rfl, hc⟩) m hm
theorem offN_none {a : Option Addr} {cap m : Nat} (h : offN a cap m = none) : a = none := by
  unfold offN at h
  split at h
  · exact h
  · simpa using h
theorem offN_some (b o cap m : Nat) (h : m < cap) : offN (some ⟨b, o, none⟩) cap m = some ⟨b, o + m * 6, none⟩ := by
  unfold offN
  rw [if_neg (by omega), Option.map_some]
  unfold Addr.add
  split <;> simp_all
theorem ixN0 (b o n c : Nat) (hk : 0 < n) : ∀ w, (Instr.indexAt 22 (.slice (some ⟨b, o, none⟩) n c) (.int .i64 0)).run Tryz.prog w = .ok (.pointer (some ⟨b, o, none⟩)) w := fun w => by
  have := ixN b o n c 0 0 rfl hk w
  rwa [Nat.zero_mul, Nat.add_zero] at this
/-- The box with the node. -/
def Kb6 (g : Nat) (n : Nt) (w : World) : Prop := Nb w g n
theorem Kb6.l {g : Nat} {n : Nt} : ∀ w, Kb6 g n w → (Instr.loadAt 35 (.pointer (some ⟨g, 0, none⟩))).run Tryz.prog w = .ok (nv n) w := fun w k => k.load
theorem Bx6.gb {w w' : World} {g : Nat} {n : Nt} {r : Option Nat} (h : Bx6 w g n) (hg : w.grownBy w' r) (hne : ∀ k, r = some k → k ≠ g) : Bx6 w' g n := by
  have e : w'.heap[g]? = w.heap[g]? := hg.block g h.1.lt (fun e => hne g e.symm rfl)
  obtain ⟨⟨h0, h1, h2, h3, h4, h5⟩, hf⟩ := h
  exact ⟨⟨(World.cell?_of_block (a := ⟨g, 0, none⟩) e).trans h0, (World.cell?_of_block (a := ⟨g, 1, none⟩) e).trans h1, (World.cell?_of_block (a := ⟨g, 2, none⟩) e).trans h2, (World.cell?_of_block (a := ⟨g, 3, none⟩) e).trans h3, (World.cell?_of_block (a := ⟨g, 4, none⟩) e).trans h4, (World.cell?_of_block (a := ⟨g, 5, none⟩) e).trans h5⟩, fun o => (World.frozen?_of_block (a := ⟨g, o, none⟩) e).trans (hf o)⟩
/-- The box and the node at the place. -/
def Pq (g b o : Nat) (n q : Nt) (w : World) : Prop := Nb w g n ∧ Na w b o q
section
variable {g b o : Nat} {n q : Nt}
theorem Pq.keep {w w' : World} (h : Pq g b o n q w) (hb : Below w.heap.size w w') : Pq g b o n q w' := ⟨h.1.keep hb, h.2.keep hb⟩
theorem Pq.nd : ∀ w, Pq g b o n q w → (Instr.loadAt 33 (.pointer (some ⟨g, 0, none⟩))).run Tryz.prog w = .ok (dv n.1) w := fun w k => k.1.loadD
theorem Pq.qd : ∀ w, Pq g b o n q w → (Instr.loadAt 33 (.pointer (some ⟨b, o, none⟩))).run Tryz.prog w = .ok (dv q.1) w := fun w k => k.2.loadD
theorem Pq.nn : ∀ w, Pq g b o n q w → (Instr.loadAt 35 (.pointer (some ⟨g, 0, none⟩))).run Tryz.prog w = .ok (nv n) w := fun w k => k.1.load
theorem Pq.qn : ∀ w, Pq g b o n q w → (Instr.loadAt 35 (.pointer (some ⟨b, o, none⟩))).run Tryz.prog w = .ok (nv q) w := fun w k => k.2.load
end
theorem na_gb {w w' : World} {b o r : Nat} {n : Nt} (h : Na w b o n) (hg : w.grownBy w' (some r)) (hne : b ≠ r) : Na w' b o n := by
  have hl : b < w.heap.size := lt_of_cell h.1
  have e : w'.heap[b]? = w.heap[b]? := hg.block b hl (by simpa using hne)
  obtain ⟨h0, h1, h2, h3, h4, h5⟩ := h
  exact ⟨(World.cell?_of_block (a := ⟨b, _, none⟩) e).trans h0, (World.cell?_of_block (a := ⟨b, _, none⟩) e).trans h1, (World.cell?_of_block (a := ⟨b, _, none⟩) e).trans h2, (World.cell?_of_block (a := ⟨b, _, none⟩) e).trans h3, (World.cell?_of_block (a := ⟨b, _, none⟩) e).trans h4, (World.cell?_of_block (a := ⟨b, _, none⟩) e).trans h5⟩
theorem lt_of_row {w : World} {b o : Nat} {l : List Nt} (h : RowN w (some ⟨b, o, none⟩) l) (hl : 0 < l.length) : b < w.heap.size := by
  rcases h with rfl | ⟨b2, o2, e, hc⟩
  · simp at hl
  · cases e
    exact lt_of_cell (hc 0 hl 0 (by omega))
/-! ### What Put gives at a place -/
theorem put_end {l : List Nt} {n : Nt} (hs : SrtN l) (h : l.length = posS l n.1) : putN l n = (l.take l.length ++ [n] ++ [], 0) := by
  have ha : atS l n.1 = none := at_none.2 fun x hx e => by
    obtain ⟨i, hi, rfl⟩ := List.mem_iff_getElem.1 hx
    exact less_ne (posS_lt hi (by omega)) e
  unfold putN
  rw [ha]
  simp only
  rw [setS_new ha, ← h, List.drop_length]
  simp
theorem put_mid {l : List Nt} {n : Nt} {k : Nat} (hs : SrtN l) (h : k = posS l n.1) (hk : k < l.length) (hne : l[k].1 ≠ n.1) : putN l n = (l.take k ++ [n] ++ l.drop k, 0) := by
  have ha : atS l n.1 = none := at_none.2 fun x hx e => by
    obtain ⟨i, hi, rfl⟩ := List.mem_iff_getElem.1 hx
    rcases Nat.lt_trichotomy i k with c | c | c
    · exact less_ne (posS_lt hi (by omega)) e
    · subst c; exact hne e
    · have h1 := List.pairwise_iff_getElem.1 hs k i hk hi c
      have h2 := posS_ge hs (d := n.1) hk (by omega)
      rw [e] at h1
      rw [h1] at h2
      cases h2
  unfold putN
  rw [ha]
  simp only
  rw [setS_new ha, ← h]
  simp
theorem put_eq {l : List Nt} {n : Nt} {k : Nat} (hs : SrtN l) (h : k = posS l n.1) (hk : k < l.length) (he : l[k].1 = n.1) : ((mergeN l[k] n).2 = 0 → putN l n = (l.take k ++ [(mergeN l[k] n).1] ++ l.drop (k + 1), 0)) ∧ ((mergeN l[k] n).2 ≠ 0 → putN l n = ([], (mergeN l[k] n).2)) := by
  have ha : atS l n.1 = some l[k] := by rw [← he]; exact at_mem hs (List.getElem_mem hk)
  constructor
  · intro hm
    have hd := (merge_dot hm).1.trans he
    unfold putN
    rw [ha]
    simp only [hm, if_true]
    obtain ⟨h1, h2, h3⟩ := setS_old (n := (mergeN l[k] n).1) (r := l[k]) hs (by rw [hd]; exact ha)
    rw [h3, hd, ← h]
    simp
  · intro hm
    unfold putN
    rw [ha]
    simp only [hm, if_false]
set_option maxRecDepth 100000 in
set_option maxHeartbeats 8000000 in
theorem put_ref (l : List Nt) (n : Nt) (a : Option Addr) (c : Nat) (w : World) (hv : validS l = true) (hn : validN n = true) (hx : RowN w a l) (hna : a = none → c = 0) (hlc : l.length ≤ c) (hlx : l.length ≤ 300000) :
    Calls Tryz.prog 22 #[.slice a l.length c, nv n] w fun e w' => ∃ v, e = .returned (.tuple #[v, .int .i64 (putN l n).2]) ∧ ON w' w.heap.size E v (putN l n).1 ∧ Below w.heap.size w w' := by
  obtain ⟨hvn, hs⟩ := validS_iff.1 hv
  have HPe := Lib.hid (fun h => put_end (n := n) hs h)
  have HPm := Lib.hid (fun k h hk hne => put_mid (n := n) (k := k) hs h hk hne)
  have HPq := Lib.hid (fun k h hk he => put_eq (n := n) (k := k) hs h hk he)
  have HMg : Hid (∀ (k : Nat) (hk : k < l.length), mergeN l[k] n = mrgR l[k] n) := fun k hk => mrg_valid (hvn _ (List.getElem_mem hk)) hn
  have HB := Lib.hid (bel_box w (.cells (nc n) 35))
  have HK := Lib.hid (Bx6.new w n)
  have HNe : Hid (∀ b o, a = some ⟨b, o, none⟩ → l ≠ [] → b ≠ w.heap.size) := fun b o e hl hb => by
    rcases hx with h | ⟨b2, o2, e2, hc⟩
    · exact hl h
    · rw [e] at e2
      cases e2
      have := lt_of_cell (hc 0 (by cases l; exact absurd rfl hl; simp) 0 (by omega))
      simp at this
      omega
  have HKl : Hid (w.heap.size < (w.alloc (.cells (nc n) 35)).heap.size) := by show _ < _; simp
  have HX := Lib.hid (hx.keep HB.out)
  have HNa := Lib.hid hna
  have HLc := Lib.hid hlc
  have HLn := Lib.hid hlx
  have hli : (l.length : Int) ≤ 300000 := by omega
  clear hx hna hlc hlx hv hn hvn hs
  generalize putN l n = R0 at *
  go_enter Tryz.func22, Tryz.ntmps22
  go_wp2_with fail
  generalize (w.alloc (.cells (nc n) 35)) = w1 at *
  go_loopw [6] (fun i wr => ∃ k : Nat, Hid (k ≤ posS l n.1) ∧ k ≤ l.length ∧ i = .int .i64 (k : Int) ∧ Hid (Below w1.heap.size w1 wr)) (fun i _ => l.length - (intOf i).toNat)
  case atStart => exact ⟨0, Nat.zero_le _, Nat.zero_le _, rfl, Below.refl _ _⟩
  case round =>
    obtain ⟨k, HKp, hk, rfl, hh⟩ := hrel
    replace HKl : Hid (w.heap.size < wr.heap.size) := Nat.lt_of_lt_of_le HKl.out hh.out.size
    have HK1 := Lib.hid (HK.out.keep hh.out)
    have HB1 := Lib.hid (HB.out.trans (hh.out.mono HB.out.size))
    by_cases hlt : k < l.length
    · have hi0 : (k : Int) < (l.length : Int) := by omega
      have hg : decide ((k : Int) < (l.length : Int)) = true := by simpa using hi0
      obtain ⟨b1, o1, rfl, hna⟩ := na_of (HX.out.keep hh.out) k hlt
      replace HNe := Lib.hid (HNe.out b1 o1 rfl (by intro e; subst e; simp at hlt))
      have HGo := Lib.hid (fun h => posS_go hlt HKp.out h)
      have HSt := Lib.hid (fun h => posS_stop hlt HKp.out h)
      obtain ⟨q, hq⟩ : ∃ q, q = l[k] := ⟨_, rfl⟩
      rw [← hq] at hna HGo HSt
      have HQ := Lib.hid hq
      clear hq
      have hd := (Below.refl wr.heap.size wr).drew
      have HPk : Hid (Pq w.heap.size b1 (o1 + k * 6) n q wr.drew) := ⟨HK1.out.1.keep hd, hna.keep hd⟩
      have HKd := Lib.hid (HK1.out.keep hd)
      have HBd := Lib.hid HB1.out.drew
      have HKd2 : Hid (w.heap.size < wr.drew.heap.size) := HKl.out
      have hix := ixN b1 o1 l.length c k (k : Int) rfl hlt
      have HLe := Lib.hid (fun w => less_ref q.1 n.1 w)
      have hhd : Hid (Below w1.heap.size w1 wr.drew) := hh.out.drew
      clear hd hna
      go_wp2_with fail
      refine Sch.wp_region_tn (Pq w.heap.size b1 (o1 + k * 6) n q) (.val 0 (.val 1 (.val 2 (.val 3 (.val 4 (.val 5 (.val 6 (.val 7 (.val 8 (.val 9 (.val 10 (.val 11 (.one 12 (.val 13 .done)))))))))))))) (by kernel_rfl) (by kernel_rfl) HPk.out ?_
      repeat (first
        | (refine Sch.tn_q rfl rfl rfl (fun K hK => ?_); go_big_quiet_op; (first | refine hK _ ?_ | refine ⟨_, fun _ _ => rfl, hK _ ?_⟩); clear hK K)
        | (refine Sch.tn_chk _ _ _ rfl rfl rfl rfl rfl ?_; simp only [Act.put, List.setIfInBounds_toArray, List.set_cons_zero, List.set_cons_succ])
        | (refine Sch.tn_load _ _ _ _ _ rfl rfl rfl rfl (by first | exact Pq.nd | exact Pq.qd) rfl ?_; simp only [Act.put, List.setIfInBounds_toArray, List.set_cons_zero, List.set_cons_succ]))
      repeat (first
        | (refine Sch.tn_q rfl rfl rfl (fun K hK => ?_); go_big_quiet_op; (first | refine hK _ ?_ | refine ⟨_, fun _ _ => rfl, hK _ ?_⟩); clear hK K)
        | (refine Sch.tn_chk _ _ _ rfl rfl rfl rfl rfl ?_; simp only [Act.put, List.setIfInBounds_toArray, List.set_cons_zero, List.set_cons_succ])
        | (refine Sch.tn_load _ _ _ _ _ rfl rfl rfl rfl (by first | exact Pq.nd | exact Pq.qd) rfl ?_; simp only [Act.put, List.setIfInBounds_toArray, List.set_cons_zero, List.set_cons_succ])
        | (refine Sch.tn_s _ rfl rfl rfl ?_; simp only [Act.put, List.setIfInBounds_toArray, List.set_cons_zero, List.set_cons_succ])
        | (refine Sch.tn_se _ rfl rfl rfl ?_; simp only [Act.put, List.setIfInBounds_toArray, List.set_cons_zero, List.set_cons_succ]))
      generalize wr.drew = w2 at *
      refine Sch.tn_e rfl rfl (fun K hK => ?_)
      go_wp2_with fail
      refine (HLe.out _).mono ?_
      rintro e w3 ⟨rfl, hl⟩
      have hb := hl.bel
      clear hl
      replace HPk := Lib.hid (HPk.out.keep hb)
      replace HKd := Lib.hid (HKd.out.keep hb)
      replace HKd2 := Lib.hid (Nat.lt_of_lt_of_le HKd2.out hb.size)
      replace HBd := bel_tr HBd hb
      replace hhd := bel_tr hhd hb
      clear hb HLe
      refine hK _ _ HPk.out ?_
      clear hK K
      rcases hls : less q.1 n.1 with _ | _
      · have HE := Lib.hid (HSt.out hls)
        clear hls HGo HSt
        repeat (first
          | (refine Sch.tn_q rfl rfl rfl (fun K hK => ?_); go_big_quiet_op; (first | refine hK _ ?_ | refine ⟨_, fun _ _ => rfl, hK _ ?_⟩); clear hK K)
          | (refine Sch.tn_chk _ _ _ rfl rfl rfl rfl rfl ?_; simp only [Act.put, List.setIfInBounds_toArray, List.set_cons_zero, List.set_cons_succ])
          | (refine Sch.tn_load _ _ _ _ _ rfl rfl rfl rfl (by first | exact Pq.nd | exact Pq.qd) rfl ?_; simp only [Act.put, List.setIfInBounds_toArray, List.set_cons_zero, List.set_cons_succ])
          | (refine Sch.tn_s _ rfl rfl rfl ?_; simp only [Act.put, List.setIfInBounds_toArray, List.set_cons_zero, List.set_cons_succ])
          | (refine Sch.tn_se _ rfl rfl rfl ?_; simp only [Act.put, List.setIfInBounds_toArray, List.set_cons_zero, List.set_cons_succ]))
        refine Sch.tn_n ?_
        have HCk : Hid (k < c) := by have := HLc.out; show _ < _; omega
        have s2 := cut_hiN (some ⟨b1, o1, none⟩) l.length c k (l.length - k) (by omega) HLc.out
        rw [offN_some b1 o1 c k HCk.out] at s2
        obtain ⟨m1, hm1⟩ : ∃ m1, m1 = l.length - k := ⟨_, rfl⟩
        obtain ⟨c2, hc2⟩ : ∃ c2, c2 = c - k := ⟨_, rfl⟩
        rw [← hm1, ← hc2] at s2
        have HM1 := Lib.hid hm1
        have HC2 := Lib.hid hc2
        have hm0 : 0 < m1 := by omega
        have hm2 : decide (0 < m1) = true := decide_eq_true hm0
        clear hm1 hc2
        have hix0 := ixN0 b1 (o1 + k * 6) m1 c2 hm0
        have hd := (Below.refl w3.heap.size w3).drew
        have HPk5 := Lib.hid (HPk.out.keep hd)
        by_cases he : q.1 = n.1
        · have hE : ∀ w, Sem.run Tryz.prog (binOp .eql 33 (dv q.1) (dv n.1)) w = .ok (.bool true) w := fun w => by rw [eql_dot, decide_eq_true he]
          go_wp2_with fail
          refine Sch.wp_region_tn (Pq w.heap.size b1 (o1 + k * 6) n q) (.val 0 (.val 1 (.val 2 (.val 3 (.val 4 (.val 5 (.val 6 (.val 7 (.val 8 (.val 9 (.val 10 (.val 11 .done)))))))))))) (by kernel_rfl) (by kernel_rfl) HPk5.out ?_
          repeat (first
            | (refine Sch.tn_q rfl rfl rfl (fun K hK => ?_); go_big_quiet_op; (first | refine hK _ ?_ | refine ⟨_, fun _ _ => rfl, hK _ ?_⟩); clear hK K)
            | (refine Sch.tn_chk _ _ _ rfl rfl rfl rfl rfl ?_; simp only [Act.put, List.setIfInBounds_toArray, List.set_cons_zero, List.set_cons_succ])
            | (refine Sch.tn_load _ _ _ _ _ rfl rfl rfl rfl (by first | exact Pq.nd | exact Pq.qd) rfl ?_; simp only [Act.put, List.setIfInBounds_toArray, List.set_cons_zero, List.set_cons_succ]))
          refine Sch.tn_n ?_
          have HQ1 : Hid (((mergeN q n).2 = 0 → R0 = (l.take k ++ [(mergeN q n).1] ++ l.drop (k + 1), 0)) ∧ ((mergeN q n).2 ≠ 0 → R0 = ([], (mergeN q n).2))) := by
            show _ ∧ _
            rw [HQ.out]
            exact HPq.out k HE.out hlt (by rw [← HQ.out]; exact he)
          have HMr : Hid (mergeN q n = mrgR q n) := by
            show _ = _
            rw [HQ.out]
            exact HMg.out k hlt
          have HM := Lib.hid (fun w => merge_ref q n w)
          rw [← HMr.out] at HM
          generalize mergeN q n = M at *
          replace HPk := HPk5
          replace HKd := Lib.hid (HKd.out.keep hd)
          replace HBd := Lib.hid HBd.out.drew
          replace hhd : Hid (Below w1.heap.size w1 w3.drew) := hhd.out.drew
          replace HKd2 : Hid (w.heap.size < w3.drew.heap.size) := HKd2.out
          clear HPk5 hd HMr HPe HPm HPq HMg HQ HE he hE hm2 hix
          generalize w3.drew = w4 at *
          go_wp2_with fail
          have hd := (Below.refl w4.heap.size w4).drew
          replace HPk := Lib.hid (HPk.out.keep hd)
          replace HKd := Lib.hid (HKd.out.keep hd)
          replace HBd := bel_tr HBd hd
          replace hhd := bel_tr hhd hd
          replace HKd2 := Lib.hid (Nat.lt_of_lt_of_le HKd2.out hd.size)
          clear hd
          refine Sch.wp_region_tn (Pq w.heap.size b1 (o1 + k * 6) n q) (.val 0 (.val 1 (.val 2 (.val 3 (.two 4 (.val 5 (.val 6 (.val 7 (.one 8 (.one 9 (.val 10 .done)))))) 8 (.one 4 (.val 5 (.val 6 (.val 7 (.one 9 (.val 10 .done))))))))))) (by kernel_rfl) (by kernel_rfl) HPk.out ?_
          repeat (first
            | (refine Sch.tn_q rfl rfl rfl (fun K hK => ?_); go_big_quiet_op; (first | refine hK _ ?_ | refine ⟨_, fun _ _ => rfl, hK _ ?_⟩); clear hK K)
            | (refine Sch.tn_chk _ _ _ rfl rfl rfl rfl rfl ?_; simp only [Act.put, List.setIfInBounds_toArray, List.set_cons_zero, List.set_cons_succ])
            | (refine Sch.tn_load _ _ _ _ _ rfl rfl rfl rfl (by first | exact Pq.qn | exact Pq.nn) rfl ?_; simp only [Act.put, List.setIfInBounds_toArray, List.set_cons_zero, List.set_cons_succ]))
          generalize w4.drew = w5 at *
          refine Sch.tn_two ?_ ?_
          · skip
            have HXb : Hid (b1 < w1.heap.size) := lt_of_row HX.out (by omega)
            have HXg : Hid (b1 ≠ w.heap.size) := HNe.out
            refine Sch.tn_e rfl rfl (fun K hK => ?_)
            go_wp2_with fail
            refine (HM.out _).mono ?_
            rintro e w6 ⟨rfl, hb⟩
            replace HPk := Lib.hid (HPk.out.keep hb)
            replace HKd := Lib.hid (HKd.out.keep hb)
            replace HBd := bel_tr HBd hb
            replace hhd := bel_tr hhd hb
            replace HKd2 := Lib.hid (Nat.lt_of_lt_of_le HKd2.out hb.size)
            clear hb
            refine hK _ _ HPk.out ?_
            clear hK K
            repeat (first
              | (refine Sch.tn_q rfl rfl rfl (fun K hK => ?_); go_big_quiet_op; (first | refine hK _ ?_ | refine ⟨_, fun _ _ => rfl, hK _ ?_⟩); clear hK K)
              | (refine Sch.tn_chk _ _ _ rfl rfl rfl rfl rfl ?_; simp only [Act.put, List.setIfInBounds_toArray, List.set_cons_zero, List.set_cons_succ]))
            have HQ1w : Hid (w1.heap.size ≤ w6.heap.size) := hhd.out.size
            have HZ := Lib.hid (Zb.new w6)
            have hbz := bel_box w6 (.cells #[.int .i64 0, .int .i64 0, .int .i64 0, .int .i64 0, .int .i64 0, .int .i32 0] 35)
            have HQw : Hid (w.heap.size < w6.heap.size) := HKd2.out
            replace HPk := Lib.hid (HPk.out.keep hbz)
            replace HKd := Lib.hid (HKd.out.keep hbz)
            replace HBd := bel_tr HBd hbz
            replace hhd := bel_tr hhd hbz
            replace HKd2 := Lib.hid (Nat.lt_of_lt_of_le HKd2.out hbz.size)
            clear hbz
            refine Sch.tn_e rfl rfl (fun K hK => ?_)
            go_wp2_with fail
            refine hK _ _ HPk.out ?_
            clear hK K
            generalize (w6.alloc (.cells #[.int .i64 0, .int .i64 0, .int .i64 0, .int .i64 0, .int .i64 0, .int .i32 0] 35)) = w7 at *
            generalize w6.heap.size = q8 at *
            have HQ9 : Hid (Nb (Nd.putN w7 q8 M.1) q8 M.1) := put_nb HZ.out M.1
            have hgb := gb_putN w7 q8 M.1
            have HP9 : Hid (Pq w.heap.size b1 (o1 + k * 6) n q (Nd.putN w7 q8 M.1)) := ⟨nb_gb HPk.out.1 hgb (by have := HQw.out; omega), na_gb HPk.out.2 hgb (by have := HXb.out; have := HQ1w.out; omega)⟩
            have HK9 := Lib.hid (HKd.out.gb hgb (fun k hk => by cases hk; have := HQw.out; omega))
            have HB9 : Hid (Below w.heap.size w (Nd.putN w7 q8 M.1)) := Nd.putN_below HBd.out (by have := HQw.out; omega) _
            have HH9 : Hid (Below w1.heap.size w1 (Nd.putN w7 q8 M.1)) := Nd.putN_below hhd.out HQ1w.out _
            have HW9 : Hid (w.heap.size < (Nd.putN w7 q8 M.1).heap.size) := Nat.lt_of_lt_of_le HKd2.out hgb.size
            obtain ⟨⟨z0, z1, z2, z3, z4, z5⟩, hf⟩ := HZ.out
            have f0 := hf 0
            have f1 := hf 1
            have f2 := hf 2
            have f3 := hf 3
            have f4 := hf 4
            have f5 := hf 5
            clear hf hgb HPk HKd HBd hhd HKd2
            refine Sch.tn_e rfl rfl (fun K hK => ?_)
            go_wp2_with fail
            refine hK _ (Nd.putN w7 q8 M.1) HP9.out ?_
            clear hK K z0 z1 z2 z3 z4 z5 f0 f1 f2 f3 f4 f5 HZ
            generalize Nd.putN w7 q8 M.1 = w9 at *
            repeat (first
              | (refine Sch.tn_q rfl rfl rfl (fun K hK => ?_); go_big_quiet_op; (first | refine hK _ ?_ | refine ⟨_, fun _ _ => rfl, hK _ ?_⟩); clear hK K)
              | (refine Sch.tn_chk _ _ _ rfl rfl rfl rfl rfl ?_; simp only [Act.put, List.setIfInBounds_toArray, List.set_cons_zero, List.set_cons_succ]))
            refine Sch.tn_n ?_
            clear HM
            generalize M.2 = z at *
            generalize M.1 = m at *
            by_cases hM : z = 0
            · have HI := Lib.hid (HQ1.out.1 hM)
              subst hM
              have hQ9 := HQ9.out
              obtain ⟨y0, y1, y2, y3, y4, y5⟩ := hQ9
              have g0 := HK9.out.2 0
              have g1 := HK9.out.2 1
              have g2 := HK9.out.2 2
              have g3 := HK9.out.2 3
              have g4 := HK9.out.2 4
              have g5 := HK9.out.2 5
              obtain ⟨x0, x1, x2, x3, x4, x5⟩ := HK9.out.1
              have s3 : ∀ wx : World, (Instr.slice 22 (.slice (some ⟨b1, o1 + k * 6, none⟩) m1 c2) (some (.int .i64 1)) none none).run Tryz.prog wx = .ok (.slice (offN (some ⟨b1, o1 + k * 6, none⟩) c2 1) (m1 - 1) (c2 - 1)) wx := cut_hiN (some ⟨b1, o1 + k * 6, none⟩) m1 c2 1 (m1 - 1) (by omega) (by have := HLc.out; have := HM1.out; have := HC2.out; omega)
              have hX9 := HX.out.keep HH9.out
              have hgb := gb_putN w9 w.heap.size m
              have HK : Hid (Bx6 ((((((w9.setCell ⟨w.heap.size, 0, none⟩ (.int .i64 m.1.1)).setCell ⟨w.heap.size, 1, none⟩ (.int .i64 m.1.2)).setCell ⟨w.heap.size, 2, none⟩ (.int .i64 m.2.1.1)).setCell ⟨w.heap.size, 3, none⟩ (.int .i64 m.2.1.2)).setCell ⟨w.heap.size, 4, none⟩ (.int .i64 m.2.2.1)).setCell ⟨w.heap.size, 5, none⟩ (.int .i32 m.2.2.2)) w.heap.size m) := HK9.out.put m
              have HB : Hid (Below w.heap.size w ((((((w9.setCell ⟨w.heap.size, 0, none⟩ (.int .i64 m.1.1)).setCell ⟨w.heap.size, 1, none⟩ (.int .i64 m.1.2)).setCell ⟨w.heap.size, 2, none⟩ (.int .i64 m.2.1.1)).setCell ⟨w.heap.size, 3, none⟩ (.int .i64 m.2.1.2)).setCell ⟨w.heap.size, 4, none⟩ (.int .i64 m.2.2.1)).setCell ⟨w.heap.size, 5, none⟩ (.int .i32 m.2.2.2))) := Nd.putN_below HB9.out (Nat.le_refl _) m
              have HKW : Hid (w.heap.size < ((((((w9.setCell ⟨w.heap.size, 0, none⟩ (.int .i64 m.1.1)).setCell ⟨w.heap.size, 1, none⟩ (.int .i64 m.1.2)).setCell ⟨w.heap.size, 2, none⟩ (.int .i64 m.2.1.1)).setCell ⟨w.heap.size, 3, none⟩ (.int .i64 m.2.1.2)).setCell ⟨w.heap.size, 4, none⟩ (.int .i64 m.2.2.1)).setCell ⟨w.heap.size, 5, none⟩ (.int .i32 m.2.2.2)).heap.size) := Nat.lt_of_lt_of_le HW9.out hgb.size
              have hXW : RowN ((((((w9.setCell ⟨w.heap.size, 0, none⟩ (.int .i64 m.1.1)).setCell ⟨w.heap.size, 1, none⟩ (.int .i64 m.1.2)).setCell ⟨w.heap.size, 2, none⟩ (.int .i64 m.2.1.1)).setCell ⟨w.heap.size, 3, none⟩ (.int .i64 m.2.1.2)).setCell ⟨w.heap.size, 4, none⟩ (.int .i64 m.2.2.1)).setCell ⟨w.heap.size, 5, none⟩ (.int .i32 m.2.2.2)) (some ⟨b1, o1, none⟩) l := hX9.gb hgb (fun b o e => by cases e; have := HXg.out; simp; omega)
              have HRP := Lib.hid (hXW.take k)
              have hr1 := hXW.drop k (by omega)
              have hr2 := offN_row hr1 c2 1 (by rw [List.length_drop]; have := HLc.out; have := HC2.out; omega) (by rw [List.length_drop]; omega)
              rw [List.drop_drop] at hr2
              have HRS := Lib.hid hr2
              have s1 := cut_loN (some ⟨b1, o1, none⟩) l.length c k (by have := HCk.out; omega)
              have hT : (l.take k).length = k := by rw [List.length_take]; omega
              have hD : (l.drop (k + 1)).length = m1 - 1 := by rw [List.length_drop, HM1.out]; omega
              have HLP : Hid ((l.take k).length + (l.drop (k + 1)).length ≤ 300000) := by
                show _ ≤ _
                rw [List.length_take, List.length_drop]
                have := HLn.out
                omega
              have HN2 : Hid (offN (some ⟨b1, o1 + k * 6, none⟩) c2 1 = none → c2 - 1 = 0) := fun h => by cases offN_none h
              clear hXW hr1 hr2 hX9 hgb HQ1 HQw HQ1w HP9 HK9 HB9 HH9 HW9 HQ9 HKl HK1 HB1 hh HKp hi0 hlt hk hg HCk HM1 HC2 hm0 hix0 HXb HXg
              generalize offN (some ⟨b1, o1 + k * 6, none⟩) c2 1 = ad2 at *
              generalize c2 - 1 = cR at *
              generalize l.take k = P at *
              generalize l.drop (k + 1) = R at *
              obtain rfl := hT
              rw [← hD] at s3
              clear hD
              go_wp2_with fail
              generalize ((((((w9.setCell ⟨w.heap.size, 0, none⟩ (.int .i64 m.1.1)).setCell ⟨w.heap.size, 1, none⟩ (.int .i64 m.1.2)).setCell ⟨w.heap.size, 2, none⟩ (.int .i64 m.2.1.1)).setCell ⟨w.heap.size, 3, none⟩ (.int .i64 m.2.1.2)).setCell ⟨w.heap.size, 4, none⟩ (.int .i64 m.2.2.1)).setCell ⟨w.heap.size, 5, none⟩ (.int .i32 m.2.2.2)) = W at *
              have hd := (Below.refl W.heap.size W).drew
              have HKl : Hid (w.heap.size < W.drew.heap.size) := HKW.out
              clear HKW
              replace HK := Lib.hid (HK.out.keep hd)
              replace HB := Lib.hid HB.out.drew
              replace HRP := Lib.hid (HRP.out.keep hd)
              replace HRS := Lib.hid (HRS.out.keep hd)
              clear hd
              refine Sch.wp_region_tn (Kb6 w.heap.size m) (.val 0 (.val 1 (.val 2 (.val 4 (.val 7 (.two 3 (.one 5 (.one 6 (.one 8 (.val 9 (.val 10 .done))))) 5 (.one 3 (.one 6 (.one 8 (.val 9 (.val 10 .done))))))))))) (by kernel_rfl) (by kernel_rfl) HK.out.1 ?_
              repeat (first
                | (refine Sch.tn_q rfl rfl rfl (fun K hK => ?_); go_big_quiet_op; (first | refine hK _ ?_ | refine ⟨_, fun _ _ => rfl, hK _ ?_⟩); clear hK K)
                | (refine Sch.tn_chk _ _ _ rfl rfl rfl rfl rfl ?_; simp only [Act.put, List.setIfInBounds_toArray, List.set_cons_zero, List.set_cons_succ])
                | (refine Sch.tn_load _ _ _ _ _ rfl rfl rfl rfl (by first | exact Kb6.l) rfl ?_; simp only [Act.put, List.setIfInBounds_toArray, List.set_cons_zero, List.set_cons_succ]))
              generalize W.drew = W2 at *
              have HZ := Lib.hid (Below.refl W2.heap.size W2)
              refine Sch.tn_two ?_ ?_
              · refine Sch.tn_e rfl rfl (fun K hK => ?_)
                refine wp_appN _ _ _ rfl Tryz.underlying22 infoN (.slice none 0 0) [] rfl (ON.nil _ W2.heap.size _) _ P c _ rfl rfl HRP.out HNa.out (by have := HLP.out; simp; omega) (Nat.le_refl _) ?_
                intro v1 w3 ho hg _
                have HO3 : Hid (ON w3 W2.heap.size E v1 P) := ho
                have hb3 : Below W2.heap.size W2 w3 := (Below.refl _ _).grown hg (Nat.le_refl _) (fun k hk => by cases hk)
                have HK3 := Lib.hid (HK.out.keep hb3)
                have HRS3 := Lib.hid (HRS.out.keep hb3)
                replace HZ := Lib.hid hb3
                clear ho hg hb3
                refine hK _ _ HK3.out.1 ?_
                clear hK K
                simp only [Act.put, List.setIfInBounds_toArray, List.set_cons_zero, List.set_cons_succ]
                refine Sch.tn_e rfl rfl (fun K hK => ?_)
                go_wp2_with fail
                have hb4 := bel_box w3 (.cells (nc m) 35)
                have HO4 := Lib.hid (HO3.out.below hb4)
                have HK4 := Lib.hid (HK3.out.keep hb4)
                have HRS4 := Lib.hid (HRS3.out.keep hb4)
                have HZ4 := Lib.hid (HZ.out.trans (hb4.mono HZ.out.size))
                have HL4 : Hid (RowN (w3.alloc (.cells (nc m) 35)) (some ⟨w3.heap.size, 0, none⟩) [m]) := RowN.lit w3 [m] _ _ _ rfl
                clear hb4 HO3 HK3 HRS3 HZ
                refine hK _ _ HK4.out.1 ?_
                clear hK K
                generalize (w3.alloc (.cells (nc m) 35)) = w4 at *
                refine Sch.tn_e rfl rfl (fun K hK => ?_)
                refine wp_appN _ _ _ rfl Tryz.underlying22 infoN v1 P rfl HO4.out (some ⟨w3.heap.size, 0, none⟩) [m] 1 1 rfl rfl HL4.out (fun h => by cases h) (by have := HLP.out; simp; omega) HZ4.out.size ?_
                intro v2 w5 ho hg _
                have hb5 := HZ4.out.grown hg HZ4.out.size (fun k hk => (HO4.out.lt k hk).1)
                have HK5 := Lib.hid (HK4.out.gb hg (fun k hk => by have := (HO4.out.lt k hk).1; have := HKl.out; omega))
                have HRS5 := Lib.hid (HRS.out.keep hb5)
                have HZ5 := Lib.hid hb5
                have HO5 := Lib.hid ho
                clear ho hg hb5 HO4 HK4 HZ4 HRS4
                refine hK _ _ HK5.out.1 ?_
                clear hK K
                simp only [Act.put, List.setIfInBounds_toArray, List.set_cons_zero, List.set_cons_succ]
                refine Sch.tn_e rfl rfl (fun K hK => ?_)
                refine wp_appN _ _ _ rfl Tryz.underlying22 infoN v2 (P ++ [m]) rfl HO5.out ad2 R cR _ rfl rfl HRS5.out HN2.out (by have := HLP.out; simp; omega) HZ5.out.size ?_
                intro v3 w6 ho hg _
                have HB6 := Lib.hid (HZ5.out.grown hg HZ5.out.size (fun k hk => (HO5.out.lt k hk).1))
                have HK6 := Lib.hid (HK5.out.gb hg (fun k hk => by have := (HO5.out.lt k hk).1; have := HKl.out; omega))
                have HO6 := Lib.hid ho
                clear ho hg HO5 HK5 HZ5 HRS5
                refine hK _ _ HK6.out.1 ?_
                clear hK K
                simp only [Act.put, List.setIfInBounds_toArray, List.set_cons_zero, List.set_cons_succ]
                repeat (first
                  | (refine Sch.tn_q rfl rfl rfl (fun K hK => ?_); go_big_quiet_op; (first | refine hK _ ?_ | refine ⟨_, fun _ _ => rfl, hK _ ?_⟩); clear hK K)
                  | (refine Sch.tn_chk _ _ _ rfl rfl rfl rfl rfl ?_; simp only [Act.put, List.setIfInBounds_toArray, List.set_cons_zero, List.set_cons_succ]))
                refine Sch.tn_n ?_
                go_wp2_with fail
                go_ret2
                rw [HI.out]
                exact ⟨_, rfl, HO6.out.mono fun k hk => Nat.le_trans HB.out.size (HO6.out.lt k hk).1, HB.out.trans (HB6.out.mono HB.out.size)⟩
              · skip
                refine Sch.tn_e rfl rfl (fun K hK => ?_)
                go_wp2_with fail
                have hb3 := bel_box W2 (.cells (nc m) 35)
                have HK3 := Lib.hid (HK.out.keep hb3)
                have HRS3 := Lib.hid (HRS.out.keep hb3)
                have HRP3 := Lib.hid (HRP.out.keep hb3)
                replace HZ := Lib.hid hb3
                have HL3 : Hid (RowN (W2.alloc (.cells (nc m) 35)) (some ⟨W2.heap.size, 0, none⟩) [m]) := RowN.lit W2 [m] _ _ _ rfl
                clear hb3
                refine hK _ _ HK3.out.1 ?_
                clear hK K
                generalize (W2.alloc (.cells (nc m) 35)) = w3 at *
                refine Sch.tn_e rfl rfl (fun K hK => ?_)
                refine wp_appN _ _ _ rfl Tryz.underlying22 infoN (.slice none 0 0) [] rfl (ON.nil _ W2.heap.size _) _ P c _ rfl rfl HRP3.out HNa.out (by have := HLP.out; simp; omega) HZ.out.size ?_
                intro v1 w4 ho hg _
                have HO4 : Hid (ON w4 W2.heap.size E v1 P) := ho
                have hb4 : Below w3.heap.size w3 w4 := (Below.refl _ _).grown hg (Nat.le_refl _) (fun k hk => by cases hk)
                have HZ4 := Lib.hid (HZ.out.trans (hb4.mono HZ.out.size))
                have HK4 := Lib.hid (HK3.out.keep hb4)
                have HL4 := Lib.hid (HL3.out.keep hb4)
                clear ho hg hb4 HK3 HZ HL3 HRS3 HRP3
                refine hK _ _ HK4.out.1 ?_
                clear hK K
                simp only [Act.put, List.setIfInBounds_toArray, List.set_cons_zero, List.set_cons_succ]
                refine Sch.tn_e rfl rfl (fun K hK => ?_)
                refine wp_appN _ _ _ rfl Tryz.underlying22 infoN v1 P rfl HO4.out (some ⟨W2.heap.size, 0, none⟩) [m] 1 1 rfl rfl HL4.out (fun h => by cases h) (by have := HLP.out; simp; omega) HZ4.out.size ?_
                intro v2 w5 ho hg _
                have hb5 := HZ4.out.grown hg HZ4.out.size (fun k hk => (HO4.out.lt k hk).1)
                have HK5 := Lib.hid (HK4.out.gb hg (fun k hk => by have := (HO4.out.lt k hk).1; have := HKl.out; omega))
                have HRS5 := Lib.hid (HRS.out.keep hb5)
                have HZ5 := Lib.hid hb5
                have HO5 := Lib.hid ho
                clear ho hg hb5 HO4 HK4 HZ4
                refine hK _ _ HK5.out.1 ?_
                clear hK K
                simp only [Act.put, List.setIfInBounds_toArray, List.set_cons_zero, List.set_cons_succ]
                refine Sch.tn_e rfl rfl (fun K hK => ?_)
                refine wp_appN _ _ _ rfl Tryz.underlying22 infoN v2 (P ++ [m]) rfl HO5.out ad2 R cR _ rfl rfl HRS5.out HN2.out (by have := HLP.out; simp; omega) HZ5.out.size ?_
                intro v3 w6 ho hg _
                have HB6 := Lib.hid (HZ5.out.grown hg HZ5.out.size (fun k hk => (HO5.out.lt k hk).1))
                have HK6 := Lib.hid (HK5.out.gb hg (fun k hk => by have := (HO5.out.lt k hk).1; have := HKl.out; omega))
                have HO6 := Lib.hid ho
                clear ho hg HO5 HK5 HZ5 HRS5
                refine hK _ _ HK6.out.1 ?_
                clear hK K
                simp only [Act.put, List.setIfInBounds_toArray, List.set_cons_zero, List.set_cons_succ]
                repeat (first
                  | (refine Sch.tn_q rfl rfl rfl (fun K hK => ?_); go_big_quiet_op; (first | refine hK _ ?_ | refine ⟨_, fun _ _ => rfl, hK _ ?_⟩); clear hK K)
                  | (refine Sch.tn_chk _ _ _ rfl rfl rfl rfl rfl ?_; simp only [Act.put, List.setIfInBounds_toArray, List.set_cons_zero, List.set_cons_succ]))
                refine Sch.tn_n ?_
                go_wp2_with fail
                go_ret2
                rw [HI.out]
                exact ⟨_, rfl, HO6.out.mono fun k hk => Nat.le_trans HB.out.size (HO6.out.lt k hk).1, HB.out.trans (HB6.out.mono HB.out.size)⟩
            · have HI := Lib.hid (HQ1.out.2 hM)
              have hM2 : (z == 0) = false := by simpa using hM
              go_wp2_with fail
              go_ret2
              rw [HI.out]
              exact ⟨_, rfl, ON.nil _ _ _, HB9.out⟩
          · skip
            have HXb : Hid (b1 < w1.heap.size) := lt_of_row HX.out (by omega)
            have HXg : Hid (b1 ≠ w.heap.size) := HNe.out
            have HQ1w : Hid (w1.heap.size ≤ w5.heap.size) := hhd.out.size
            have HZ := Lib.hid (Zb.new w5)
            have hbz := bel_box w5 (.cells #[.int .i64 0, .int .i64 0, .int .i64 0, .int .i64 0, .int .i64 0, .int .i32 0] 35)
            have HQw : Hid (w.heap.size < w5.heap.size) := HKd2.out
            replace HPk := Lib.hid (HPk.out.keep hbz)
            replace HKd := Lib.hid (HKd.out.keep hbz)
            replace HBd := bel_tr HBd hbz
            replace hhd := bel_tr hhd hbz
            replace HKd2 := Lib.hid (Nat.lt_of_lt_of_le HKd2.out hbz.size)
            clear hbz
            refine Sch.tn_e rfl rfl (fun K hK => ?_)
            go_wp2_with fail
            refine hK _ _ HPk.out ?_
            clear hK K
            generalize (w5.alloc (.cells #[.int .i64 0, .int .i64 0, .int .i64 0, .int .i64 0, .int .i64 0, .int .i32 0] 35)) = w7 at *
            generalize w5.heap.size = q8 at *
            refine Sch.tn_e rfl rfl (fun K hK => ?_)
            go_wp2_with fail
            refine (HM.out _).mono ?_
            rintro e w6 ⟨rfl, hb⟩
            replace HPk := Lib.hid (HPk.out.keep hb)
            replace HKd := Lib.hid (HKd.out.keep hb)
            replace HBd := bel_tr HBd hb
            replace hhd := bel_tr hhd hb
            replace HKd2 := Lib.hid (Nat.lt_of_lt_of_le HKd2.out hb.size)
            replace HZ := Lib.hid (HZ.out.keep hb)
            clear hb
            refine hK _ _ HPk.out ?_
            clear hK K
            repeat (first
              | (refine Sch.tn_q rfl rfl rfl (fun K hK => ?_); go_big_quiet_op; (first | refine hK _ ?_ | refine ⟨_, fun _ _ => rfl, hK _ ?_⟩); clear hK K)
              | (refine Sch.tn_chk _ _ _ rfl rfl rfl rfl rfl ?_; simp only [Act.put, List.setIfInBounds_toArray, List.set_cons_zero, List.set_cons_succ]))
            have HQ9 : Hid (Nb (Nd.putN w6 q8 M.1) q8 M.1) := put_nb HZ.out M.1
            have hgb := gb_putN w6 q8 M.1
            have HP9 : Hid (Pq w.heap.size b1 (o1 + k * 6) n q (Nd.putN w6 q8 M.1)) := ⟨nb_gb HPk.out.1 hgb (by have := HQw.out; omega), na_gb HPk.out.2 hgb (by have := HXb.out; have := HQ1w.out; omega)⟩
            have HK9 := Lib.hid (HKd.out.gb hgb (fun k hk => by cases hk; have := HQw.out; omega))
            have HB9 : Hid (Below w.heap.size w (Nd.putN w6 q8 M.1)) := Nd.putN_below HBd.out (by have := HQw.out; omega) _
            have HH9 : Hid (Below w1.heap.size w1 (Nd.putN w6 q8 M.1)) := Nd.putN_below hhd.out HQ1w.out _
            have HW9 : Hid (w.heap.size < (Nd.putN w6 q8 M.1).heap.size) := Nat.lt_of_lt_of_le HKd2.out hgb.size
            obtain ⟨⟨z0, z1, z2, z3, z4, z5⟩, hf⟩ := HZ.out
            have f0 := hf 0
            have f1 := hf 1
            have f2 := hf 2
            have f3 := hf 3
            have f4 := hf 4
            have f5 := hf 5
            clear hf hgb HPk HKd HBd hhd HKd2
            refine Sch.tn_e rfl rfl (fun K hK => ?_)
            go_wp2_with fail
            refine hK _ (Nd.putN w6 q8 M.1) HP9.out ?_
            clear hK K z0 z1 z2 z3 z4 z5 f0 f1 f2 f3 f4 f5 HZ
            generalize Nd.putN w6 q8 M.1 = w9 at *
            repeat (first
              | (refine Sch.tn_q rfl rfl rfl (fun K hK => ?_); go_big_quiet_op; (first | refine hK _ ?_ | refine ⟨_, fun _ _ => rfl, hK _ ?_⟩); clear hK K)
              | (refine Sch.tn_chk _ _ _ rfl rfl rfl rfl rfl ?_; simp only [Act.put, List.setIfInBounds_toArray, List.set_cons_zero, List.set_cons_succ]))
            refine Sch.tn_n ?_
            clear HM
            generalize M.2 = z at *
            generalize M.1 = m at *
            by_cases hM : z = 0
            · have HI := Lib.hid (HQ1.out.1 hM)
              subst hM
              have hQ9 := HQ9.out
              obtain ⟨y0, y1, y2, y3, y4, y5⟩ := hQ9
              have g0 := HK9.out.2 0
              have g1 := HK9.out.2 1
              have g2 := HK9.out.2 2
              have g3 := HK9.out.2 3
              have g4 := HK9.out.2 4
              have g5 := HK9.out.2 5
              obtain ⟨x0, x1, x2, x3, x4, x5⟩ := HK9.out.1
              have s3 : ∀ wx : World, (Instr.slice 22 (.slice (some ⟨b1, o1 + k * 6, none⟩) m1 c2) (some (.int .i64 1)) none none).run Tryz.prog wx = .ok (.slice (offN (some ⟨b1, o1 + k * 6, none⟩) c2 1) (m1 - 1) (c2 - 1)) wx := cut_hiN (some ⟨b1, o1 + k * 6, none⟩) m1 c2 1 (m1 - 1) (by omega) (by have := HLc.out; have := HM1.out; have := HC2.out; omega)
              have hX9 := HX.out.keep HH9.out
              have hgb := gb_putN w9 w.heap.size m
              have HK : Hid (Bx6 ((((((w9.setCell ⟨w.heap.size, 0, none⟩ (.int .i64 m.1.1)).setCell ⟨w.heap.size, 1, none⟩ (.int .i64 m.1.2)).setCell ⟨w.heap.size, 2, none⟩ (.int .i64 m.2.1.1)).setCell ⟨w.heap.size, 3, none⟩ (.int .i64 m.2.1.2)).setCell ⟨w.heap.size, 4, none⟩ (.int .i64 m.2.2.1)).setCell ⟨w.heap.size, 5, none⟩ (.int .i32 m.2.2.2)) w.heap.size m) := HK9.out.put m
              have HB : Hid (Below w.heap.size w ((((((w9.setCell ⟨w.heap.size, 0, none⟩ (.int .i64 m.1.1)).setCell ⟨w.heap.size, 1, none⟩ (.int .i64 m.1.2)).setCell ⟨w.heap.size, 2, none⟩ (.int .i64 m.2.1.1)).setCell ⟨w.heap.size, 3, none⟩ (.int .i64 m.2.1.2)).setCell ⟨w.heap.size, 4, none⟩ (.int .i64 m.2.2.1)).setCell ⟨w.heap.size, 5, none⟩ (.int .i32 m.2.2.2))) := Nd.putN_below HB9.out (Nat.le_refl _) m
              have HKW : Hid (w.heap.size < ((((((w9.setCell ⟨w.heap.size, 0, none⟩ (.int .i64 m.1.1)).setCell ⟨w.heap.size, 1, none⟩ (.int .i64 m.1.2)).setCell ⟨w.heap.size, 2, none⟩ (.int .i64 m.2.1.1)).setCell ⟨w.heap.size, 3, none⟩ (.int .i64 m.2.1.2)).setCell ⟨w.heap.size, 4, none⟩ (.int .i64 m.2.2.1)).setCell ⟨w.heap.size, 5, none⟩ (.int .i32 m.2.2.2)).heap.size) := Nat.lt_of_lt_of_le HW9.out hgb.size
              have hXW : RowN ((((((w9.setCell ⟨w.heap.size, 0, none⟩ (.int .i64 m.1.1)).setCell ⟨w.heap.size, 1, none⟩ (.int .i64 m.1.2)).setCell ⟨w.heap.size, 2, none⟩ (.int .i64 m.2.1.1)).setCell ⟨w.heap.size, 3, none⟩ (.int .i64 m.2.1.2)).setCell ⟨w.heap.size, 4, none⟩ (.int .i64 m.2.2.1)).setCell ⟨w.heap.size, 5, none⟩ (.int .i32 m.2.2.2)) (some ⟨b1, o1, none⟩) l := hX9.gb hgb (fun b o e => by cases e; have := HXg.out; simp; omega)
              have HRP := Lib.hid (hXW.take k)
              have hr1 := hXW.drop k (by omega)
              have hr2 := offN_row hr1 c2 1 (by rw [List.length_drop]; have := HLc.out; have := HC2.out; omega) (by rw [List.length_drop]; omega)
              rw [List.drop_drop] at hr2
              have HRS := Lib.hid hr2
              have s1 := cut_loN (some ⟨b1, o1, none⟩) l.length c k (by have := HCk.out; omega)
              have hT : (l.take k).length = k := by rw [List.length_take]; omega
              have hD : (l.drop (k + 1)).length = m1 - 1 := by rw [List.length_drop, HM1.out]; omega
              have HLP : Hid ((l.take k).length + (l.drop (k + 1)).length ≤ 300000) := by
                show _ ≤ _
                rw [List.length_take, List.length_drop]
                have := HLn.out
                omega
              have HN2 : Hid (offN (some ⟨b1, o1 + k * 6, none⟩) c2 1 = none → c2 - 1 = 0) := fun h => by cases offN_none h
              clear hXW hr1 hr2 hX9 hgb HQ1 HQw HQ1w HP9 HK9 HB9 HH9 HW9 HQ9 HKl HK1 HB1 hh HKp hi0 hlt hk hg HCk HM1 HC2 hm0 hix0 HXb HXg
              generalize offN (some ⟨b1, o1 + k * 6, none⟩) c2 1 = ad2 at *
              generalize c2 - 1 = cR at *
              generalize l.take k = P at *
              generalize l.drop (k + 1) = R at *
              obtain rfl := hT
              rw [← hD] at s3
              clear hD
              go_wp2_with fail
              generalize ((((((w9.setCell ⟨w.heap.size, 0, none⟩ (.int .i64 m.1.1)).setCell ⟨w.heap.size, 1, none⟩ (.int .i64 m.1.2)).setCell ⟨w.heap.size, 2, none⟩ (.int .i64 m.2.1.1)).setCell ⟨w.heap.size, 3, none⟩ (.int .i64 m.2.1.2)).setCell ⟨w.heap.size, 4, none⟩ (.int .i64 m.2.2.1)).setCell ⟨w.heap.size, 5, none⟩ (.int .i32 m.2.2.2)) = W at *
              have hd := (Below.refl W.heap.size W).drew
              have HKl : Hid (w.heap.size < W.drew.heap.size) := HKW.out
              clear HKW
              replace HK := Lib.hid (HK.out.keep hd)
              replace HB := Lib.hid HB.out.drew
              replace HRP := Lib.hid (HRP.out.keep hd)
              replace HRS := Lib.hid (HRS.out.keep hd)
              clear hd
              refine Sch.wp_region_tn (Kb6 w.heap.size m) (.val 0 (.val 1 (.val 2 (.val 4 (.val 7 (.two 3 (.one 5 (.one 6 (.one 8 (.val 9 (.val 10 .done))))) 5 (.one 3 (.one 6 (.one 8 (.val 9 (.val 10 .done))))))))))) (by kernel_rfl) (by kernel_rfl) HK.out.1 ?_
              repeat (first
                | (refine Sch.tn_q rfl rfl rfl (fun K hK => ?_); go_big_quiet_op; (first | refine hK _ ?_ | refine ⟨_, fun _ _ => rfl, hK _ ?_⟩); clear hK K)
                | (refine Sch.tn_chk _ _ _ rfl rfl rfl rfl rfl ?_; simp only [Act.put, List.setIfInBounds_toArray, List.set_cons_zero, List.set_cons_succ])
                | (refine Sch.tn_load _ _ _ _ _ rfl rfl rfl rfl (by first | exact Kb6.l) rfl ?_; simp only [Act.put, List.setIfInBounds_toArray, List.set_cons_zero, List.set_cons_succ]))
              generalize W.drew = W2 at *
              have HZ := Lib.hid (Below.refl W2.heap.size W2)
              refine Sch.tn_two ?_ ?_
              · refine Sch.tn_e rfl rfl (fun K hK => ?_)
                refine wp_appN _ _ _ rfl Tryz.underlying22 infoN (.slice none 0 0) [] rfl (ON.nil _ W2.heap.size _) _ P c _ rfl rfl HRP.out HNa.out (by have := HLP.out; simp; omega) (Nat.le_refl _) ?_
                intro v1 w3 ho hg _
                have HO3 : Hid (ON w3 W2.heap.size E v1 P) := ho
                have hb3 : Below W2.heap.size W2 w3 := (Below.refl _ _).grown hg (Nat.le_refl _) (fun k hk => by cases hk)
                have HK3 := Lib.hid (HK.out.keep hb3)
                have HRS3 := Lib.hid (HRS.out.keep hb3)
                replace HZ := Lib.hid hb3
                clear ho hg hb3
                refine hK _ _ HK3.out.1 ?_
                clear hK K
                simp only [Act.put, List.setIfInBounds_toArray, List.set_cons_zero, List.set_cons_succ]
                refine Sch.tn_e rfl rfl (fun K hK => ?_)
                go_wp2_with fail
                have hb4 := bel_box w3 (.cells (nc m) 35)
                have HO4 := Lib.hid (HO3.out.below hb4)
                have HK4 := Lib.hid (HK3.out.keep hb4)
                have HRS4 := Lib.hid (HRS3.out.keep hb4)
                have HZ4 := Lib.hid (HZ.out.trans (hb4.mono HZ.out.size))
                have HL4 : Hid (RowN (w3.alloc (.cells (nc m) 35)) (some ⟨w3.heap.size, 0, none⟩) [m]) := RowN.lit w3 [m] _ _ _ rfl
                clear hb4 HO3 HK3 HRS3 HZ
                refine hK _ _ HK4.out.1 ?_
                clear hK K
                generalize (w3.alloc (.cells (nc m) 35)) = w4 at *
                refine Sch.tn_e rfl rfl (fun K hK => ?_)
                refine wp_appN _ _ _ rfl Tryz.underlying22 infoN v1 P rfl HO4.out (some ⟨w3.heap.size, 0, none⟩) [m] 1 1 rfl rfl HL4.out (fun h => by cases h) (by have := HLP.out; simp; omega) HZ4.out.size ?_
                intro v2 w5 ho hg _
                have hb5 := HZ4.out.grown hg HZ4.out.size (fun k hk => (HO4.out.lt k hk).1)
                have HK5 := Lib.hid (HK4.out.gb hg (fun k hk => by have := (HO4.out.lt k hk).1; have := HKl.out; omega))
                have HRS5 := Lib.hid (HRS.out.keep hb5)
                have HZ5 := Lib.hid hb5
                have HO5 := Lib.hid ho
                clear ho hg hb5 HO4 HK4 HZ4 HRS4
                refine hK _ _ HK5.out.1 ?_
                clear hK K
                simp only [Act.put, List.setIfInBounds_toArray, List.set_cons_zero, List.set_cons_succ]
                refine Sch.tn_e rfl rfl (fun K hK => ?_)
                refine wp_appN _ _ _ rfl Tryz.underlying22 infoN v2 (P ++ [m]) rfl HO5.out ad2 R cR _ rfl rfl HRS5.out HN2.out (by have := HLP.out; simp; omega) HZ5.out.size ?_
                intro v3 w6 ho hg _
                have HB6 := Lib.hid (HZ5.out.grown hg HZ5.out.size (fun k hk => (HO5.out.lt k hk).1))
                have HK6 := Lib.hid (HK5.out.gb hg (fun k hk => by have := (HO5.out.lt k hk).1; have := HKl.out; omega))
                have HO6 := Lib.hid ho
                clear ho hg HO5 HK5 HZ5 HRS5
                refine hK _ _ HK6.out.1 ?_
                clear hK K
                simp only [Act.put, List.setIfInBounds_toArray, List.set_cons_zero, List.set_cons_succ]
                repeat (first
                  | (refine Sch.tn_q rfl rfl rfl (fun K hK => ?_); go_big_quiet_op; (first | refine hK _ ?_ | refine ⟨_, fun _ _ => rfl, hK _ ?_⟩); clear hK K)
                  | (refine Sch.tn_chk _ _ _ rfl rfl rfl rfl rfl ?_; simp only [Act.put, List.setIfInBounds_toArray, List.set_cons_zero, List.set_cons_succ]))
                refine Sch.tn_n ?_
                go_wp2_with fail
                go_ret2
                rw [HI.out]
                exact ⟨_, rfl, HO6.out.mono fun k hk => Nat.le_trans HB.out.size (HO6.out.lt k hk).1, HB.out.trans (HB6.out.mono HB.out.size)⟩
              · skip
                refine Sch.tn_e rfl rfl (fun K hK => ?_)
                go_wp2_with fail
                have hb3 := bel_box W2 (.cells (nc m) 35)
                have HK3 := Lib.hid (HK.out.keep hb3)
                have HRS3 := Lib.hid (HRS.out.keep hb3)
                have HRP3 := Lib.hid (HRP.out.keep hb3)
                replace HZ := Lib.hid hb3
                have HL3 : Hid (RowN (W2.alloc (.cells (nc m) 35)) (some ⟨W2.heap.size, 0, none⟩) [m]) := RowN.lit W2 [m] _ _ _ rfl
                clear hb3
                refine hK _ _ HK3.out.1 ?_
                clear hK K
                generalize (W2.alloc (.cells (nc m) 35)) = w3 at *
                refine Sch.tn_e rfl rfl (fun K hK => ?_)
                refine wp_appN _ _ _ rfl Tryz.underlying22 infoN (.slice none 0 0) [] rfl (ON.nil _ W2.heap.size _) _ P c _ rfl rfl HRP3.out HNa.out (by have := HLP.out; simp; omega) HZ.out.size ?_
                intro v1 w4 ho hg _
                have HO4 : Hid (ON w4 W2.heap.size E v1 P) := ho
                have hb4 : Below w3.heap.size w3 w4 := (Below.refl _ _).grown hg (Nat.le_refl _) (fun k hk => by cases hk)
                have HZ4 := Lib.hid (HZ.out.trans (hb4.mono HZ.out.size))
                have HK4 := Lib.hid (HK3.out.keep hb4)
                have HL4 := Lib.hid (HL3.out.keep hb4)
                clear ho hg hb4 HK3 HZ HL3 HRS3 HRP3
                refine hK _ _ HK4.out.1 ?_
                clear hK K
                simp only [Act.put, List.setIfInBounds_toArray, List.set_cons_zero, List.set_cons_succ]
                refine Sch.tn_e rfl rfl (fun K hK => ?_)
                refine wp_appN _ _ _ rfl Tryz.underlying22 infoN v1 P rfl HO4.out (some ⟨W2.heap.size, 0, none⟩) [m] 1 1 rfl rfl HL4.out (fun h => by cases h) (by have := HLP.out; simp; omega) HZ4.out.size ?_
                intro v2 w5 ho hg _
                have hb5 := HZ4.out.grown hg HZ4.out.size (fun k hk => (HO4.out.lt k hk).1)
                have HK5 := Lib.hid (HK4.out.gb hg (fun k hk => by have := (HO4.out.lt k hk).1; have := HKl.out; omega))
                have HRS5 := Lib.hid (HRS.out.keep hb5)
                have HZ5 := Lib.hid hb5
                have HO5 := Lib.hid ho
                clear ho hg hb5 HO4 HK4 HZ4
                refine hK _ _ HK5.out.1 ?_
                clear hK K
                simp only [Act.put, List.setIfInBounds_toArray, List.set_cons_zero, List.set_cons_succ]
                refine Sch.tn_e rfl rfl (fun K hK => ?_)
                refine wp_appN _ _ _ rfl Tryz.underlying22 infoN v2 (P ++ [m]) rfl HO5.out ad2 R cR _ rfl rfl HRS5.out HN2.out (by have := HLP.out; simp; omega) HZ5.out.size ?_
                intro v3 w6 ho hg _
                have HB6 := Lib.hid (HZ5.out.grown hg HZ5.out.size (fun k hk => (HO5.out.lt k hk).1))
                have HK6 := Lib.hid (HK5.out.gb hg (fun k hk => by have := (HO5.out.lt k hk).1; have := HKl.out; omega))
                have HO6 := Lib.hid ho
                clear ho hg HO5 HK5 HZ5 HRS5
                refine hK _ _ HK6.out.1 ?_
                clear hK K
                simp only [Act.put, List.setIfInBounds_toArray, List.set_cons_zero, List.set_cons_succ]
                repeat (first
                  | (refine Sch.tn_q rfl rfl rfl (fun K hK => ?_); go_big_quiet_op; (first | refine hK _ ?_ | refine ⟨_, fun _ _ => rfl, hK _ ?_⟩); clear hK K)
                  | (refine Sch.tn_chk _ _ _ rfl rfl rfl rfl rfl ?_; simp only [Act.put, List.setIfInBounds_toArray, List.set_cons_zero, List.set_cons_succ]))
                refine Sch.tn_n ?_
                go_wp2_with fail
                go_ret2
                rw [HI.out]
                exact ⟨_, rfl, HO6.out.mono fun k hk => Nat.le_trans HB.out.size (HO6.out.lt k hk).1, HB.out.trans (HB6.out.mono HB.out.size)⟩
            · have HI := Lib.hid (HQ1.out.2 hM)
              have hM2 : (z == 0) = false := by simpa using hM
              go_wp2_with fail
              go_ret2
              rw [HI.out]
              exact ⟨_, rfl, ON.nil _ _ _, HB9.out⟩
        · have hE : ∀ w, Sem.run Tryz.prog (binOp .eql 33 (dv q.1) (dv n.1)) w = .ok (.bool false) w := fun w => by rw [eql_dot, decide_eq_false he]
          go_wp2_with fail
          refine Sch.wp_region_tn (Pq w.heap.size b1 (o1 + k * 6) n q) (.val 0 (.val 1 (.val 2 (.val 3 (.val 4 (.val 5 (.val 6 (.val 7 (.val 8 (.val 9 (.val 10 (.val 11 .done)))))))))))) (by kernel_rfl) (by kernel_rfl) HPk5.out ?_
          repeat (first
            | (refine Sch.tn_q rfl rfl rfl (fun K hK => ?_); go_big_quiet_op; (first | refine hK _ ?_ | refine ⟨_, fun _ _ => rfl, hK _ ?_⟩); clear hK K)
            | (refine Sch.tn_chk _ _ _ rfl rfl rfl rfl rfl ?_; simp only [Act.put, List.setIfInBounds_toArray, List.set_cons_zero, List.set_cons_succ])
            | (refine Sch.tn_load _ _ _ _ _ rfl rfl rfl rfl (by first | exact Pq.nd | exact Pq.qd) rfl ?_; simp only [Act.put, List.setIfInBounds_toArray, List.set_cons_zero, List.set_cons_succ]))
          refine Sch.tn_n ?_
          have HI := Lib.hid (HPm.out k HE.out hlt (by rw [← HQ.out]; exact he))
          have HK := Lib.hid (HKd.out.keep hd)
          have HB := Lib.hid HBd.out.drew
          have HKW : Hid (w.heap.size < w3.drew.heap.size) := HKd2.out
          have hX3 := (HX.out.keep hhd.out).keep hd
          have HRP := Lib.hid (hX3.take k)
          have HRS := Lib.hid (hX3.drop k (by omega))
          have s1 := cut_loN (some ⟨b1, o1, none⟩) l.length c k (by have := HCk.out; omega)
          have hT : (l.take k).length = k := by rw [List.length_take]; omega
          have hD : (l.drop k).length = m1 := by rw [List.length_drop, HM1.out]
          have HLP : Hid ((l.take k).length + (l.drop k).length ≤ 300000) := by
            show _ ≤ _
            rw [List.length_take, List.length_drop]
            have := HLn.out
            omega
          have HN2 : Hid ((some ⟨b1, o1 + k * 6, none⟩ : Option Addr) = none → c2 = 0) := fun h => by cases h
          clear hd HPe HPm HPq HMg hX3 HPk HPk5 HKd HBd HKd2 hhd HQ HE he hE HM1 HC2 hm0 hm2 hix0 hix HKl HK1 HB1 hh HKp hi0 hlt hk hg HCk
          generalize l.take k = P at *
          generalize l.drop k = R at *
          obtain rfl := hT
          obtain rfl := hD
          generalize w3.drew = w4 at *
          go_wp2_with fail
          have hd := (Below.refl w4.heap.size w4).drew
          have HKl : Hid (w.heap.size < w4.drew.heap.size) := HKW.out
          clear HKW
          replace HK := Lib.hid (HK.out.keep hd)
          replace HB := Lib.hid HB.out.drew
          replace HRP := Lib.hid (HRP.out.keep hd)
          replace HRS := Lib.hid (HRS.out.keep hd)
          clear hd
          refine Sch.wp_region_tn (Kb6 w.heap.size n) (.val 0 (.val 1 (.val 2 (.val 4 (.val 7 (.two 3 (.one 5 (.one 6 (.one 8 (.val 9 (.val 10 .done))))) 5 (.one 3 (.one 6 (.one 8 (.val 9 (.val 10 .done))))))))))) (by kernel_rfl) (by kernel_rfl) HK.out.1 ?_
          repeat (first
            | (refine Sch.tn_q rfl rfl rfl (fun K hK => ?_); go_big_quiet_op; (first | refine hK _ ?_ | refine ⟨_, fun _ _ => rfl, hK _ ?_⟩); clear hK K)
            | (refine Sch.tn_chk _ _ _ rfl rfl rfl rfl rfl ?_; simp only [Act.put, List.setIfInBounds_toArray, List.set_cons_zero, List.set_cons_succ])
            | (refine Sch.tn_load _ _ _ _ _ rfl rfl rfl rfl (by first | exact Kb6.l) rfl ?_; simp only [Act.put, List.setIfInBounds_toArray, List.set_cons_zero, List.set_cons_succ]))
          generalize w4.drew = W2 at *
          have HZ := Lib.hid (Below.refl W2.heap.size W2)
          refine Sch.tn_two ?_ ?_
          · refine Sch.tn_e rfl rfl (fun K hK => ?_)
            refine wp_appN _ _ _ rfl Tryz.underlying22 infoN (.slice none 0 0) [] rfl (ON.nil _ W2.heap.size _) _ P c _ rfl rfl HRP.out HNa.out (by have := HLP.out; simp; omega) (Nat.le_refl _) ?_
            intro v1 w3 ho hg _
            have HO3 : Hid (ON w3 W2.heap.size E v1 P) := ho
            have hb3 : Below W2.heap.size W2 w3 := (Below.refl _ _).grown hg (Nat.le_refl _) (fun k hk => by cases hk)
            have HK3 := Lib.hid (HK.out.keep hb3)
            have HRS3 := Lib.hid (HRS.out.keep hb3)
            replace HZ := Lib.hid hb3
            clear ho hg hb3
            refine hK _ _ HK3.out.1 ?_
            clear hK K
            simp only [Act.put, List.setIfInBounds_toArray, List.set_cons_zero, List.set_cons_succ]
            refine Sch.tn_e rfl rfl (fun K hK => ?_)
            go_wp2_with fail
            have hb4 := bel_box w3 (.cells (nc n) 35)
            have HO4 := Lib.hid (HO3.out.below hb4)
            have HK4 := Lib.hid (HK3.out.keep hb4)
            have HRS4 := Lib.hid (HRS3.out.keep hb4)
            have HZ4 := Lib.hid (HZ.out.trans (hb4.mono HZ.out.size))
            have HL4 : Hid (RowN (w3.alloc (.cells (nc n) 35)) (some ⟨w3.heap.size, 0, none⟩) [n]) := RowN.lit w3 [n] _ _ _ rfl
            clear hb4 HO3 HK3 HRS3 HZ
            refine hK _ _ HK4.out.1 ?_
            clear hK K
            generalize (w3.alloc (.cells (nc n) 35)) = w4 at *
            refine Sch.tn_e rfl rfl (fun K hK => ?_)
            refine wp_appN _ _ _ rfl Tryz.underlying22 infoN v1 P rfl HO4.out (some ⟨w3.heap.size, 0, none⟩) [n] 1 1 rfl rfl HL4.out (fun h => by cases h) (by have := HLP.out; simp; omega) HZ4.out.size ?_
            intro v2 w5 ho hg _
            have hb5 := HZ4.out.grown hg HZ4.out.size (fun k hk => (HO4.out.lt k hk).1)
            have HK5 := Lib.hid (HK4.out.gb hg (fun k hk => by have := (HO4.out.lt k hk).1; have := HKl.out; omega))
            have HRS5 := Lib.hid (HRS.out.keep hb5)
            have HZ5 := Lib.hid hb5
            have HO5 := Lib.hid ho
            clear ho hg hb5 HO4 HK4 HZ4 HRS4
            refine hK _ _ HK5.out.1 ?_
            clear hK K
            simp only [Act.put, List.setIfInBounds_toArray, List.set_cons_zero, List.set_cons_succ]
            refine Sch.tn_e rfl rfl (fun K hK => ?_)
            refine wp_appN _ _ _ rfl Tryz.underlying22 infoN v2 (P ++ [n]) rfl HO5.out (some ⟨b1, o1 + P.length * 6, none⟩) R c2 _ rfl rfl HRS5.out HN2.out (by have := HLP.out; simp; omega) HZ5.out.size ?_
            intro v3 w6 ho hg _
            have HB6 := Lib.hid (HZ5.out.grown hg HZ5.out.size (fun k hk => (HO5.out.lt k hk).1))
            have HK6 := Lib.hid (HK5.out.gb hg (fun k hk => by have := (HO5.out.lt k hk).1; have := HKl.out; omega))
            have HO6 := Lib.hid ho
            clear ho hg HO5 HK5 HZ5 HRS5
            refine hK _ _ HK6.out.1 ?_
            clear hK K
            simp only [Act.put, List.setIfInBounds_toArray, List.set_cons_zero, List.set_cons_succ]
            repeat (first
              | (refine Sch.tn_q rfl rfl rfl (fun K hK => ?_); go_big_quiet_op; (first | refine hK _ ?_ | refine ⟨_, fun _ _ => rfl, hK _ ?_⟩); clear hK K)
              | (refine Sch.tn_chk _ _ _ rfl rfl rfl rfl rfl ?_; simp only [Act.put, List.setIfInBounds_toArray, List.set_cons_zero, List.set_cons_succ]))
            refine Sch.tn_n ?_
            go_wp2_with fail
            go_ret2
            rw [HI.out]
            exact ⟨_, rfl, HO6.out.mono fun k hk => Nat.le_trans HB.out.size (HO6.out.lt k hk).1, HB.out.trans (HB6.out.mono HB.out.size)⟩
          · skip
            refine Sch.tn_e rfl rfl (fun K hK => ?_)
            go_wp2_with fail
            have hb3 := bel_box W2 (.cells (nc n) 35)
            have HK3 := Lib.hid (HK.out.keep hb3)
            have HRS3 := Lib.hid (HRS.out.keep hb3)
            have HRP3 := Lib.hid (HRP.out.keep hb3)
            replace HZ := Lib.hid hb3
            have HL3 : Hid (RowN (W2.alloc (.cells (nc n) 35)) (some ⟨W2.heap.size, 0, none⟩) [n]) := RowN.lit W2 [n] _ _ _ rfl
            clear hb3
            refine hK _ _ HK3.out.1 ?_
            clear hK K
            generalize (W2.alloc (.cells (nc n) 35)) = w3 at *
            refine Sch.tn_e rfl rfl (fun K hK => ?_)
            refine wp_appN _ _ _ rfl Tryz.underlying22 infoN (.slice none 0 0) [] rfl (ON.nil _ W2.heap.size _) _ P c _ rfl rfl HRP3.out HNa.out (by have := HLP.out; simp; omega) HZ.out.size ?_
            intro v1 w4 ho hg _
            have HO4 : Hid (ON w4 W2.heap.size E v1 P) := ho
            have hb4 : Below w3.heap.size w3 w4 := (Below.refl _ _).grown hg (Nat.le_refl _) (fun k hk => by cases hk)
            have HZ4 := Lib.hid (HZ.out.trans (hb4.mono HZ.out.size))
            have HK4 := Lib.hid (HK3.out.keep hb4)
            have HL4 := Lib.hid (HL3.out.keep hb4)
            clear ho hg hb4 HK3 HZ HL3 HRS3 HRP3
            refine hK _ _ HK4.out.1 ?_
            clear hK K
            simp only [Act.put, List.setIfInBounds_toArray, List.set_cons_zero, List.set_cons_succ]
            refine Sch.tn_e rfl rfl (fun K hK => ?_)
            refine wp_appN _ _ _ rfl Tryz.underlying22 infoN v1 P rfl HO4.out (some ⟨W2.heap.size, 0, none⟩) [n] 1 1 rfl rfl HL4.out (fun h => by cases h) (by have := HLP.out; simp; omega) HZ4.out.size ?_
            intro v2 w5 ho hg _
            have hb5 := HZ4.out.grown hg HZ4.out.size (fun k hk => (HO4.out.lt k hk).1)
            have HK5 := Lib.hid (HK4.out.gb hg (fun k hk => by have := (HO4.out.lt k hk).1; have := HKl.out; omega))
            have HRS5 := Lib.hid (HRS.out.keep hb5)
            have HZ5 := Lib.hid hb5
            have HO5 := Lib.hid ho
            clear ho hg hb5 HO4 HK4 HZ4
            refine hK _ _ HK5.out.1 ?_
            clear hK K
            simp only [Act.put, List.setIfInBounds_toArray, List.set_cons_zero, List.set_cons_succ]
            refine Sch.tn_e rfl rfl (fun K hK => ?_)
            refine wp_appN _ _ _ rfl Tryz.underlying22 infoN v2 (P ++ [n]) rfl HO5.out (some ⟨b1, o1 + P.length * 6, none⟩) R c2 _ rfl rfl HRS5.out HN2.out (by have := HLP.out; simp; omega) HZ5.out.size ?_
            intro v3 w6 ho hg _
            have HB6 := Lib.hid (HZ5.out.grown hg HZ5.out.size (fun k hk => (HO5.out.lt k hk).1))
            have HK6 := Lib.hid (HK5.out.gb hg (fun k hk => by have := (HO5.out.lt k hk).1; have := HKl.out; omega))
            have HO6 := Lib.hid ho
            clear ho hg HO5 HK5 HZ5 HRS5
            refine hK _ _ HK6.out.1 ?_
            clear hK K
            simp only [Act.put, List.setIfInBounds_toArray, List.set_cons_zero, List.set_cons_succ]
            repeat (first
              | (refine Sch.tn_q rfl rfl rfl (fun K hK => ?_); go_big_quiet_op; (first | refine hK _ ?_ | refine ⟨_, fun _ _ => rfl, hK _ ?_⟩); clear hK K)
              | (refine Sch.tn_chk _ _ _ rfl rfl rfl rfl rfl ?_; simp only [Act.put, List.setIfInBounds_toArray, List.set_cons_zero, List.set_cons_succ]))
            refine Sch.tn_n ?_
            go_wp2_with fail
            go_ret2
            rw [HI.out]
            exact ⟨_, rfl, HO6.out.mono fun k hk => Nat.le_trans HB.out.size (HO6.out.lt k hk).1, HB.out.trans (HB6.out.mono HB.out.size)⟩
      · have HKp2 := Lib.hid (HGo.out hls)
        clear hls HGo HSt
        repeat (first
          | (refine Sch.tn_q rfl rfl rfl (fun K hK => ?_); go_big_quiet_op; (first | refine hK _ ?_ | refine ⟨_, fun _ _ => rfl, hK _ ?_⟩); clear hK K)
          | (refine Sch.tn_chk _ _ _ rfl rfl rfl rfl rfl ?_; simp only [Act.put, List.setIfInBounds_toArray, List.set_cons_zero, List.set_cons_succ])
          | (refine Sch.tn_load _ _ _ _ _ rfl rfl rfl rfl (by first | exact Pq.nd | exact Pq.qd) rfl ?_; simp only [Act.put, List.setIfInBounds_toArray, List.set_cons_zero, List.set_cons_succ])
          | (refine Sch.tn_s _ rfl rfl rfl ?_; simp only [Act.put, List.setIfInBounds_toArray, List.set_cons_zero, List.set_cons_succ])
          | (refine Sch.tn_se _ rfl rfl rfl ?_; simp only [Act.put, List.setIfInBounds_toArray, List.set_cons_zero, List.set_cons_succ]))
        refine Sch.tn_n ?_
        go_wp2_with fail
        go_roundw
        case rel => exact ⟨k + 1, HKp2, by omega, by go_num, hhd⟩
        case measure => simp [intOf]; omega
    · obtain rfl : k = l.length := by omega
      have hg : decide ((l.length : Int) < (l.length : Int)) = false := by simp
      have hd := (Below.refl wr.heap.size wr).drew
      have HKd := Lib.hid (HK1.out.keep hd)
      have HBd := Lib.hid HB1.out.drew
      have HKd2 : Hid (w.heap.size < wr.drew.heap.size) := HKl.out
      have hhd : Hid (Below w1.heap.size w1 wr.drew) := hh.out.drew
      have HE : Hid (l.length = posS l n.1) := posS_end rfl HKp.out
      have HI := Lib.hid (HPe.out HE.out)
      rw [List.take_length] at HI
      have s2 := cut_hiN a l.length c l.length 0 (by omega) HLc.out
      have s1 := cut_loN a l.length c l.length HLc.out
      have hHn : Hid (offN a c l.length = none → c - l.length = 0) := fun h => by have := HNa.out (offN_none h); omega
      clear hd
      go_wp2_with fail
      refine Sch.wp_region_tn (Kb6 w.heap.size n) (.val 0 (.val 1 (.val 2 (.val 3 (.val 4 (.val 5 (.val 6 (.val 7 (.val 8 (.val 9 (.val 10 (.val 11 (.one 12 (.val 13 .done)))))))))))))) (by kernel_rfl) (by kernel_rfl) HKd.out.1 ?_
      repeat (first
        | (refine Sch.tn_q rfl rfl rfl (fun K hK => ?_); go_big_quiet_op; (first | refine hK _ ?_ | refine ⟨_, fun _ _ => rfl, hK _ ?_⟩); clear hK K)
        | (refine Sch.tn_chk _ _ _ rfl rfl rfl rfl rfl ?_; simp only [Act.put, List.setIfInBounds_toArray, List.set_cons_zero, List.set_cons_succ])
        | (refine Sch.tn_load _ _ _ _ _ rfl rfl rfl rfl (by first | exact Kb6.l) rfl ?_; simp only [Act.put, List.setIfInBounds_toArray, List.set_cons_zero, List.set_cons_succ]))
      repeat (first
        | (refine Sch.tn_q rfl rfl rfl (fun K hK => ?_); go_big_quiet_op; (first | refine hK _ ?_ | refine ⟨_, fun _ _ => rfl, hK _ ?_⟩); clear hK K)
        | (refine Sch.tn_chk _ _ _ rfl rfl rfl rfl rfl ?_; simp only [Act.put, List.setIfInBounds_toArray, List.set_cons_zero, List.set_cons_succ])
        | (refine Sch.tn_load _ _ _ _ _ rfl rfl rfl rfl (by first | exact Kb6.l) rfl ?_; simp only [Act.put, List.setIfInBounds_toArray, List.set_cons_zero, List.set_cons_succ])
        | (refine Sch.tn_s _ rfl rfl rfl ?_; simp only [Act.put, List.setIfInBounds_toArray, List.set_cons_zero, List.set_cons_succ])
        | (refine Sch.tn_se _ rfl rfl rfl ?_; simp only [Act.put, List.setIfInBounds_toArray, List.set_cons_zero, List.set_cons_succ]))
      refine Sch.tn_n ?_
      generalize wr.drew = w3 at *
      go_wp2_with fail
      have hd := (Below.refl w3.heap.size w3).drew
      replace HKd := Lib.hid (HKd.out.keep hd)
      replace HBd := bel_tr HBd hd
      replace hhd := bel_tr hhd hd
      replace HKd2 : Hid (w.heap.size < w3.drew.heap.size) := HKd2.out
      clear hd
      refine Sch.wp_region_tn (Kb6 w.heap.size n) (.val 0 (.val 1 (.val 2 (.val 3 (.val 4 (.val 5 (.val 6 (.val 7 (.val 8 (.val 9 (.val 10 (.val 11 .done)))))))))))) (by kernel_rfl) (by kernel_rfl) HKd.out.1 ?_
      repeat (first
        | (refine Sch.tn_q rfl rfl rfl (fun K hK => ?_); go_big_quiet_op; (first | refine hK _ ?_ | refine ⟨_, fun _ _ => rfl, hK _ ?_⟩); clear hK K)
        | (refine Sch.tn_chk _ _ _ rfl rfl rfl rfl rfl ?_; simp only [Act.put, List.setIfInBounds_toArray, List.set_cons_zero, List.set_cons_succ])
        | (refine Sch.tn_load _ _ _ _ _ rfl rfl rfl rfl (by first | exact Kb6.l) rfl ?_; simp only [Act.put, List.setIfInBounds_toArray, List.set_cons_zero, List.set_cons_succ]))
      repeat (first
        | (refine Sch.tn_q rfl rfl rfl (fun K hK => ?_); go_big_quiet_op; (first | refine hK _ ?_ | refine ⟨_, fun _ _ => rfl, hK _ ?_⟩); clear hK K)
        | (refine Sch.tn_chk _ _ _ rfl rfl rfl rfl rfl ?_; simp only [Act.put, List.setIfInBounds_toArray, List.set_cons_zero, List.set_cons_succ])
        | (refine Sch.tn_load _ _ _ _ _ rfl rfl rfl rfl (by first | exact Kb6.l) rfl ?_; simp only [Act.put, List.setIfInBounds_toArray, List.set_cons_zero, List.set_cons_succ])
        | (refine Sch.tn_s _ rfl rfl rfl ?_; simp only [Act.put, List.setIfInBounds_toArray, List.set_cons_zero, List.set_cons_succ])
        | (refine Sch.tn_se _ rfl rfl rfl ?_; simp only [Act.put, List.setIfInBounds_toArray, List.set_cons_zero, List.set_cons_succ]))
      refine Sch.tn_n ?_
      generalize w3.drew = w4 at *
      have HK := HKd
      have HB := HBd
      have HKW := HKd2
      have HRP := Lib.hid (HX.out.keep hhd.out)
      have HRS : Hid (RowN w4 (offN a c l.length) []) := .inl rfl
      have HN2 := hHn
      have HLP : Hid (l.length + ([] : List Nt).length ≤ 300000) := HLn.out
      clear HPe HPm HPq HMg HKd HBd HKd2 hhd HE HKl HK1 HB1 hh HKp hk hHn
      generalize offN a c l.length = ad2 at *
      generalize c - l.length = cR at *
      go_wp2_with fail
      have hd := (Below.refl w4.heap.size w4).drew
      have HKl : Hid (w.heap.size < w4.drew.heap.size) := HKW.out
      clear HKW
      replace HK := Lib.hid (HK.out.keep hd)
      replace HB := Lib.hid HB.out.drew
      replace HRP := Lib.hid (HRP.out.keep hd)
      replace HRS := Lib.hid (HRS.out.keep hd)
      clear hd
      refine Sch.wp_region_tn (Kb6 w.heap.size n) (.val 0 (.val 1 (.val 2 (.val 4 (.val 7 (.two 3 (.one 5 (.one 6 (.one 8 (.val 9 (.val 10 .done))))) 5 (.one 3 (.one 6 (.one 8 (.val 9 (.val 10 .done))))))))))) (by kernel_rfl) (by kernel_rfl) HK.out.1 ?_
      repeat (first
        | (refine Sch.tn_q rfl rfl rfl (fun K hK => ?_); go_big_quiet_op; (first | refine hK _ ?_ | refine ⟨_, fun _ _ => rfl, hK _ ?_⟩); clear hK K)
        | (refine Sch.tn_chk _ _ _ rfl rfl rfl rfl rfl ?_; simp only [Act.put, List.setIfInBounds_toArray, List.set_cons_zero, List.set_cons_succ])
        | (refine Sch.tn_load _ _ _ _ _ rfl rfl rfl rfl (by first | exact Kb6.l) rfl ?_; simp only [Act.put, List.setIfInBounds_toArray, List.set_cons_zero, List.set_cons_succ]))
      generalize w4.drew = W2 at *
      have HZ := Lib.hid (Below.refl W2.heap.size W2)
      refine Sch.tn_two ?_ ?_
      · refine Sch.tn_e rfl rfl (fun K hK => ?_)
        refine wp_appN _ _ _ rfl Tryz.underlying22 infoN (.slice none 0 0) [] rfl (ON.nil _ W2.heap.size _) _ l c _ rfl rfl HRP.out HNa.out (by have := HLP.out; simp; omega) (Nat.le_refl _) ?_
        intro v1 w3 ho hg _
        have HO3 : Hid (ON w3 W2.heap.size E v1 l) := ho
        have hb3 : Below W2.heap.size W2 w3 := (Below.refl _ _).grown hg (Nat.le_refl _) (fun k hk => by cases hk)
        have HK3 := Lib.hid (HK.out.keep hb3)
        have HRS3 := Lib.hid (HRS.out.keep hb3)
        replace HZ := Lib.hid hb3
        clear ho hg hb3
        refine hK _ _ HK3.out.1 ?_
        clear hK K
        simp only [Act.put, List.setIfInBounds_toArray, List.set_cons_zero, List.set_cons_succ]
        refine Sch.tn_e rfl rfl (fun K hK => ?_)
        go_wp2_with fail
        have hb4 := bel_box w3 (.cells (nc n) 35)
        have HO4 := Lib.hid (HO3.out.below hb4)
        have HK4 := Lib.hid (HK3.out.keep hb4)
        have HRS4 := Lib.hid (HRS3.out.keep hb4)
        have HZ4 := Lib.hid (HZ.out.trans (hb4.mono HZ.out.size))
        have HL4 : Hid (RowN (w3.alloc (.cells (nc n) 35)) (some ⟨w3.heap.size, 0, none⟩) [n]) := RowN.lit w3 [n] _ _ _ rfl
        clear hb4 HO3 HK3 HRS3 HZ
        refine hK _ _ HK4.out.1 ?_
        clear hK K
        generalize (w3.alloc (.cells (nc n) 35)) = w4 at *
        refine Sch.tn_e rfl rfl (fun K hK => ?_)
        refine wp_appN _ _ _ rfl Tryz.underlying22 infoN v1 l rfl HO4.out (some ⟨w3.heap.size, 0, none⟩) [n] 1 1 rfl rfl HL4.out (fun h => by cases h) (by have := HLP.out; simp; omega) HZ4.out.size ?_
        intro v2 w5 ho hg _
        have hb5 := HZ4.out.grown hg HZ4.out.size (fun k hk => (HO4.out.lt k hk).1)
        have HK5 := Lib.hid (HK4.out.gb hg (fun k hk => by have := (HO4.out.lt k hk).1; have := HKl.out; omega))
        have HRS5 := Lib.hid (HRS.out.keep hb5)
        have HZ5 := Lib.hid hb5
        have HO5 := Lib.hid ho
        clear ho hg hb5 HO4 HK4 HZ4 HRS4
        refine hK _ _ HK5.out.1 ?_
        clear hK K
        simp only [Act.put, List.setIfInBounds_toArray, List.set_cons_zero, List.set_cons_succ]
        refine Sch.tn_e rfl rfl (fun K hK => ?_)
        refine wp_appN _ _ _ rfl Tryz.underlying22 infoN v2 (l ++ [n]) rfl HO5.out ad2 [] cR _ rfl rfl HRS5.out HN2.out (by have := HLP.out; simp; omega) HZ5.out.size ?_
        intro v3 w6 ho hg _
        have HB6 := Lib.hid (HZ5.out.grown hg HZ5.out.size (fun k hk => (HO5.out.lt k hk).1))
        have HK6 := Lib.hid (HK5.out.gb hg (fun k hk => by have := (HO5.out.lt k hk).1; have := HKl.out; omega))
        have HO6 := Lib.hid ho
        clear ho hg HO5 HK5 HZ5 HRS5
        refine hK _ _ HK6.out.1 ?_
        clear hK K
        simp only [Act.put, List.setIfInBounds_toArray, List.set_cons_zero, List.set_cons_succ]
        repeat (first
          | (refine Sch.tn_q rfl rfl rfl (fun K hK => ?_); go_big_quiet_op; (first | refine hK _ ?_ | refine ⟨_, fun _ _ => rfl, hK _ ?_⟩); clear hK K)
          | (refine Sch.tn_chk _ _ _ rfl rfl rfl rfl rfl ?_; simp only [Act.put, List.setIfInBounds_toArray, List.set_cons_zero, List.set_cons_succ]))
        refine Sch.tn_n ?_
        go_wp2_with fail
        go_ret2
        rw [HI.out]
        exact ⟨_, rfl, HO6.out.mono fun k hk => Nat.le_trans HB.out.size (HO6.out.lt k hk).1, HB.out.trans (HB6.out.mono HB.out.size)⟩
      · skip
        refine Sch.tn_e rfl rfl (fun K hK => ?_)
        go_wp2_with fail
        have hb3 := bel_box W2 (.cells (nc n) 35)
        have HK3 := Lib.hid (HK.out.keep hb3)
        have HRS3 := Lib.hid (HRS.out.keep hb3)
        have HRP3 := Lib.hid (HRP.out.keep hb3)
        replace HZ := Lib.hid hb3
        have HL3 : Hid (RowN (W2.alloc (.cells (nc n) 35)) (some ⟨W2.heap.size, 0, none⟩) [n]) := RowN.lit W2 [n] _ _ _ rfl
        clear hb3
        refine hK _ _ HK3.out.1 ?_
        clear hK K
        generalize (W2.alloc (.cells (nc n) 35)) = w3 at *
        refine Sch.tn_e rfl rfl (fun K hK => ?_)
        refine wp_appN _ _ _ rfl Tryz.underlying22 infoN (.slice none 0 0) [] rfl (ON.nil _ W2.heap.size _) _ l c _ rfl rfl HRP3.out HNa.out (by have := HLP.out; simp; omega) HZ.out.size ?_
        intro v1 w4 ho hg _
        have HO4 : Hid (ON w4 W2.heap.size E v1 l) := ho
        have hb4 : Below w3.heap.size w3 w4 := (Below.refl _ _).grown hg (Nat.le_refl _) (fun k hk => by cases hk)
        have HZ4 := Lib.hid (HZ.out.trans (hb4.mono HZ.out.size))
        have HK4 := Lib.hid (HK3.out.keep hb4)
        have HL4 := Lib.hid (HL3.out.keep hb4)
        clear ho hg hb4 HK3 HZ HL3 HRS3 HRP3
        refine hK _ _ HK4.out.1 ?_
        clear hK K
        simp only [Act.put, List.setIfInBounds_toArray, List.set_cons_zero, List.set_cons_succ]
        refine Sch.tn_e rfl rfl (fun K hK => ?_)
        refine wp_appN _ _ _ rfl Tryz.underlying22 infoN v1 l rfl HO4.out (some ⟨W2.heap.size, 0, none⟩) [n] 1 1 rfl rfl HL4.out (fun h => by cases h) (by have := HLP.out; simp; omega) HZ4.out.size ?_
        intro v2 w5 ho hg _
        have hb5 := HZ4.out.grown hg HZ4.out.size (fun k hk => (HO4.out.lt k hk).1)
        have HK5 := Lib.hid (HK4.out.gb hg (fun k hk => by have := (HO4.out.lt k hk).1; have := HKl.out; omega))
        have HRS5 := Lib.hid (HRS.out.keep hb5)
        have HZ5 := Lib.hid hb5
        have HO5 := Lib.hid ho
        clear ho hg hb5 HO4 HK4 HZ4
        refine hK _ _ HK5.out.1 ?_
        clear hK K
        simp only [Act.put, List.setIfInBounds_toArray, List.set_cons_zero, List.set_cons_succ]
        refine Sch.tn_e rfl rfl (fun K hK => ?_)
        refine wp_appN _ _ _ rfl Tryz.underlying22 infoN v2 (l ++ [n]) rfl HO5.out ad2 [] cR _ rfl rfl HRS5.out HN2.out (by have := HLP.out; simp; omega) HZ5.out.size ?_
        intro v3 w6 ho hg _
        have HB6 := Lib.hid (HZ5.out.grown hg HZ5.out.size (fun k hk => (HO5.out.lt k hk).1))
        have HK6 := Lib.hid (HK5.out.gb hg (fun k hk => by have := (HO5.out.lt k hk).1; have := HKl.out; omega))
        have HO6 := Lib.hid ho
        clear ho hg HO5 HK5 HZ5 HRS5
        refine hK _ _ HK6.out.1 ?_
        clear hK K
        simp only [Act.put, List.setIfInBounds_toArray, List.set_cons_zero, List.set_cons_succ]
        repeat (first
          | (refine Sch.tn_q rfl rfl rfl (fun K hK => ?_); go_big_quiet_op; (first | refine hK _ ?_ | refine ⟨_, fun _ _ => rfl, hK _ ?_⟩); clear hK K)
          | (refine Sch.tn_chk _ _ _ rfl rfl rfl rfl rfl ?_; simp only [Act.put, List.setIfInBounds_toArray, List.set_cons_zero, List.set_cons_succ]))
        refine Sch.tn_n ?_
        go_wp2_with fail
        go_ret2
        rw [HI.out]
        exact ⟨_, rfl, HO6.out.mono fun k hk => Nat.le_trans HB.out.size (HO6.out.lt k hk).1, HB.out.trans (HB6.out.mono HB.out.size)⟩
end Go.Proofs.YtfpfihmihlmobaaGreat.Qs
end

/-
  The reference's Of.
-/
section
namespace Go.Proofs.YtfpfihmihlmobaaGreat.Qs
set_option linter.unusedVariables false
open Go.RowKit V Go.Sort D Nd
attribute [local irreducible] Sch.heldN Sch.stepV Sch.stepE

theorem put_len1 (o : List Nt) (n : Nt) : (putN o n).1.length ≤ o.length + 1 := by
  by_cases h : (putN o n).2 = 0
  · obtain ⟨h1, -⟩ := put_yes h
    rw [h1]
    unfold setS
    rw [List.length_append, List.length_cons, List.length_take]
    have h2 := List.length_filter_le (fun x : Nt => !decide (x.1 = (upN o n).1)) (o.drop (posS o (upN o n).1))
    rw [List.length_drop] at h2
    have h3 := posS_le o (upN o n).1
    omega
  · rw [put_no h]
    simp
theorem fold_len (l : List Nt) : ∀ i, (foldN (l.take i) []).length ≤ i
  | 0 => by simp [foldN]
  | i + 1 => by
    by_cases h : i < l.length
    · unfold foldN
      rw [foldl_take _ _ _ _ h]
      have h1 := put_len1 (List.foldl (fun o n => (putN o n).1) [] (l.take i)) l[i]
      have h2 := fold_len l i
      unfold foldN at h2
      omega
    · have e : l.take (i + 1) = l.take i := by rw [List.take_of_length_le (by omega), List.take_of_length_le (by omega)]
      rw [e]
      have := fold_len l i
      omega
theorem ag_of {l : List Nt} (h : ∀ i j (hi : i < l.length) (hj : j < l.length), j < i → l[j].1 = l[i].1 → agreeN l[j] l[i] = true) : agAll l := fun a ha b hb e => by
  obtain ⟨i, hi, rfl⟩ := List.mem_iff_getElem.1 ha
  obtain ⟨j, hj, rfl⟩ := List.mem_iff_getElem.1 hb
  rcases Nat.lt_trichotomy i j with c | c | c
  · exact h j i hj hi c e
  · subst c; exact agree_self _
  · rw [agree_comm]; exact h i j hi hj c e.symm
theorem ag_no {l : List Nt} {i j : Nat} (hi : i < l.length) (hj : j < l.length) (e : l[j].1 = l[i].1) (h : agreeN l[j] l[i] = false) : ¬ agAll l := fun k => by
  rw [k _ (List.getElem_mem hj) _ (List.getElem_mem hi) e] at h
  cases h
theorem Vr.lx {b o o2 : Nat} {n m : Nt} : ∀ w, Vr b o o2 n m w → (Instr.loadAt 35 (.pointer (some ⟨b, o2, none⟩))).run Tryz.prog w = .ok (nv m) w := fun w k => k.2.load
set_option maxRecDepth 100000 in
set_option maxHeartbeats 4000000 in
theorem of_ref (l : List Nt) (a : Option Addr) (c : Nat) (w : World) (hi : ∀ x ∈ l, i32 x.2.2.2) (hx : RowN w a l) (hlx : l.length ≤ 200000) :
    Calls Tryz.prog 14 #[.slice a l.length c] w fun e w' => ∃ v, e = .returned (.tuple #[v, .int .i64 (ofN l).2]) ∧ ON w' w.heap.size E v (ofN l).1 ∧ Below w.heap.size w w' := by
  have HX := Lib.hid hx
  have hli : (l.length : Int) ≤ 200000 := by omega
  have HLn := Lib.hid hlx
  have HI := Lib.hid hi
  have HEv : Hid (∀ (k : Nat) (hk : k < l.length), validN l[k] = false → ofN l = ([], 2)) := fun k hk h => by
    unfold ofN
    rw [if_neg]
    intro h2
    rw [List.all_eq_true.1 h2 _ (List.getElem_mem hk)] at h
    cases h
  have HEc : Hid ((∀ x ∈ l, validN x = true) → ¬ agAll l → ofN l = ([], 15)) := fun h1 h2 => of_clash h1 (fun x h => h) h2
  have HEo : Hid ((∀ x ∈ l, validN x = true) → agAll l → ofN l = (foldN l [], 0)) := fun h1 h2 => (of_ok h1 h2).1
  clear hx hlx hi
  generalize ofN l = R at *
  go_enter Tryz.func14, Tryz.ntmps14
  go_wp2_with fail
  go_loopw [4] (fun i wr => ∃ k : Nat, k ≤ l.length ∧ i = .int .i64 (k : Int) ∧ Hid (Below w.heap.size w wr) ∧ Hid (∀ j (hj : j < l.length), j < k → validN l[j] = true)) (fun i _ => l.length - (intOf i).toNat)
  case atStart => exact ⟨0, Nat.zero_le _, rfl, Below.refl _ _, fun j _ h => by omega⟩
  case round =>
    obtain ⟨k, hk, rfl, hh, HV⟩ := hrel
    by_cases hlt : k < l.length
    · have hi0 : (k : Int) < (l.length : Int) := by omega
      obtain ⟨b1, o1, rfl, hna⟩ := na_of (HX.out.keep hh.out) k hlt
      have HG := Lib.hid (fun w => validN_ref l[k] (HI.out _ (List.getElem_mem hlt)) w)
      have HEk := Lib.hid (HEv.out k hlt)
      have HVk : Hid (validN l[k] = true → ∀ j (hj : j < l.length), j < k + 1 → validN l[j] = true) := fun h j hj hjk => by
        by_cases e : j = k
        · subst e; exact h
        · exact HV.out j hj (by omega)
      obtain ⟨q, hq⟩ : ∃ q, q = l[k] := ⟨_, rfl⟩
      rw [← hq] at hna HG HEk HVk
      clear hq
      obtain ⟨n0, n1, n2, n3, n4, n5⟩ := hna
      generalize validN q = vq at *
      obtain ⟨⟨q1, q2⟩, ⟨q3, q4⟩, q5, q6⟩ := q
      go_wp2_with fail
      refine (HG.out _).mono ?_
      rintro e w2 ⟨rfl, hb⟩
      have HB1 := bel_tr hh hb
      clear hb n0 n1 n2 n3 n4 n5 HG
      rcases vq with _ | _
      · have HE := Lib.hid (HEk.out (by first | trivial | rfl))
        go_wp2_with fail
        go_ret2
        rw [HE.out]
        exact ⟨_, rfl, ON.nil _ _ _, HB1.out⟩
      · have HVn := Lib.hid (HVk.out (by first | trivial | rfl))
        go_wp2_with fail
        go_roundw
        case rel => exact ⟨k + 1, by omega, by go_num, HB1, HVn⟩
        case measure => simp [intOf]; omega
    · obtain rfl : k = l.length := by omega
      have hend : ¬ (l.length : Int) < (l.length : Int) := by omega
      have HVa : Hid (∀ x ∈ l, validN x = true) := fun x hx => by
        obtain ⟨j, hj, rfl⟩ := List.mem_iff_getElem.1 hx
        exact HV.out j hj hj
      clear HV HEv HI
      go_wp2_with fail
      go_loopw [5, 6] (fun i _ wr => ∃ k : Nat, k ≤ l.length ∧ i = .int .i64 (k : Int) ∧ Hid (Below w.heap.size w wr) ∧ Hid (∀ i j (hi : i < l.length) (hj : j < l.length), i < k → j < i → l[j].1 = l[i].1 → agreeN l[j] l[i] = true)) (fun i _ _ => l.length - (intOf i).toNat)
      case atStart => exact ⟨0, Nat.zero_le _, rfl, hh, fun i j _ _ h => by omega⟩
      case round =>
        obtain ⟨k, hk, rfl, hh, HV⟩ := hrel
        by_cases hlt : k < l.length
        · have hi0 : (k : Int) < (l.length : Int) := by omega
          have HEn : Hid ((∀ j (hj : j < l.length), j < k → l[j].1 = l[k].1 → agreeN l[j] l[k] = true) → ∀ i j (hi : i < l.length) (hj : j < l.length), i < k + 1 → j < i → l[j].1 = l[i].1 → agreeN l[j] l[i] = true) := fun h i j hi hj hik hji e => by
            by_cases e2 : i = k
            · subst e2; exact h j hj hji e
            · exact HV.out i j hi hj (by omega) hji e
          obtain ⟨s, hs⟩ : ∃ s, s = l[k] := ⟨_, rfl⟩
          rw [← hs] at HEn
          have HSk := Lib.hid hs
          clear hs
          obtain ⟨b1, o1, rfl, hna⟩ := na_of (HX.out.keep hh.out) k hlt
          clear hna
          go_wp2_with fail
          go_loopw [6] (fun i wr => ∃ m : Nat, m ≤ k ∧ i = .int .i64 (m : Int) ∧ Hid (Below w.heap.size w wr) ∧ Hid (∀ j (hj : j < l.length), j < m → l[j].1 = s.1 → agreeN l[j] s = true)) (fun i _ => k - (intOf i).toNat)
          case atStart => exact ⟨0, Nat.zero_le _, rfl, hh, fun j _ h => by omega⟩
          case round =>
            obtain ⟨m, hm, rfl, hh, HW⟩ := hrel
            by_cases hmk : m < k
            · have hi1 : (m : Int) < (k : Int) := by omega
              have hml : m < l.length := by omega
              have hi2 : (m : Int) < (l.length : Int) := by omega
              have hX := HX.out.keep hh.out
              obtain ⟨b2, o2, e2, hnq⟩ := na_of hX k hlt
              cases e2
              obtain ⟨b3, o3, e3, hnp⟩ := na_of hX m hml
              cases e3
              have HNo := Lib.hid (fun e h => HEc.out HVa.out (ag_no (i := k) (j := m) hlt hml e h))
              have HWn : Hid ((l[m].1 = s.1 → agreeN l[m] s = true) → ∀ j (hj : j < l.length), j < m + 1 → l[j].1 = s.1 → agreeN l[j] s = true) := fun h j hj hjm e => by
                by_cases e2 : j = m
                · subst e2; exact h e
                · exact HW.out j hj (by omega) e
              have HAg := Lib.hid (fun w => agree_ref l[m] l[k] w)
              obtain ⟨p, hp⟩ : ∃ p, p = l[m] := ⟨_, rfl⟩
              have hs : l[k] = s := HSk.out.symm
              rw [← hp] at hnp HNo HWn HAg
              rw [hs] at hnq HNo HAg
              clear hp hs hX
              have hd := (Below.refl wr.heap.size wr).drew
              have HK : Hid (Vr b1 (o1 + k * 6) (o1 + m * 6) s p wr.drew) := ⟨hnq.keep hd, hnp.keep hd⟩
              have HBd : Hid (Below w.heap.size w wr.drew) := hh.out.drew
              have hix := ixN b1 o1 l.length c k (k : Int) rfl hlt
              have hix2 := ixN b1 o1 l.length c m (m : Int) rfl hml
              clear hd hnq hnp
              generalize agreeN p s = ag at *
              by_cases he : p.1 = s.1
              · have hE : ∀ w, Sem.run Tryz.prog (binOp .eql 33 (dv p.1) (dv s.1)) w = .ok (.bool true) w := fun w => by rw [eql_dot, decide_eq_true he]
                go_wp2_with fail
                refine Sch.wp_region_tn (Vr b1 (o1 + k * 6) (o1 + m * 6) s p) (.val 0 (.val 1 (.val 2 (.val 3 (.val 4 (.val 5 (.val 6 (.val 7 (.val 8 (.val 9 (.val 10 (.val 11 (.val 12 (.val 13 (.val 14 (.val 15 (.val 16 (.val 17 (.val 18 (.val 19 (.one 20 (.val 21 (.val 22 .done))))))))))))))))))))))) (by kernel_rfl) (by kernel_rfl) HK.out ?_
                repeat (first
                  | (refine Sch.tn_q rfl rfl rfl (fun K hK => ?_); go_big_quiet_op; (first | refine hK _ ?_ | refine ⟨_, fun _ _ => rfl, hK _ ?_⟩); clear hK K)
                  | (refine Sch.tn_chk _ _ _ rfl rfl rfl rfl rfl ?_; simp only [Act.put, List.setIfInBounds_toArray, List.set_cons_zero, List.set_cons_succ])
                  | (refine Sch.tn_load _ _ _ _ _ rfl rfl rfl rfl (by first | exact Vr.ln | exact Vr.lx | exact Vr.ld | exact Vr.lm) rfl ?_; simp only [Act.put, List.setIfInBounds_toArray, List.set_cons_zero, List.set_cons_succ]))
                generalize wr.drew = w2 at *
                refine Sch.tn_e rfl rfl (fun K hK => ?_)
                go_wp2_with fail
                refine (HAg.out _).mono ?_
                rintro e w3 ⟨rfl, hb⟩
                replace HK := Lib.hid (HK.out.keep hb)
                replace HBd := bel_tr HBd hb
                clear hb
                refine hK _ _ HK.out ?_
                clear hK K
                rcases ag with _ | _
                · have HE := Lib.hid (HNo.out he (by first | trivial | rfl))
                  repeat (first
                    | (refine Sch.tn_q rfl rfl rfl (fun K hK => ?_); go_big_quiet_op; (first | refine hK _ ?_ | refine ⟨_, fun _ _ => rfl, hK _ ?_⟩); clear hK K)
                    | (refine Sch.tn_chk _ _ _ rfl rfl rfl rfl rfl ?_; simp only [Act.put, List.setIfInBounds_toArray, List.set_cons_zero, List.set_cons_succ])
                    | (refine Sch.tn_load _ _ _ _ _ rfl rfl rfl rfl (by first | exact Vr.ln) rfl ?_; simp only [Act.put, List.setIfInBounds_toArray, List.set_cons_zero, List.set_cons_succ])
                    | (refine Sch.tn_s _ rfl rfl rfl ?_; simp only [Act.put, List.setIfInBounds_toArray, List.set_cons_zero, List.set_cons_succ])
                    | (refine Sch.tn_se _ rfl rfl rfl ?_; simp only [Act.put, List.setIfInBounds_toArray, List.set_cons_zero, List.set_cons_succ]))
                  refine Sch.tn_n ?_
                  go_wp2_with fail
                  go_ret2
                  rw [HE.out]
                  exact ⟨_, rfl, ON.nil _ _ _, HBd.out⟩
                · have HWm := Lib.hid (HWn.out (fun _ => by first | trivial | rfl))
                  repeat (first
                    | (refine Sch.tn_q rfl rfl rfl (fun K hK => ?_); go_big_quiet_op; (first | refine hK _ ?_ | refine ⟨_, fun _ _ => rfl, hK _ ?_⟩); clear hK K)
                    | (refine Sch.tn_chk _ _ _ rfl rfl rfl rfl rfl ?_; simp only [Act.put, List.setIfInBounds_toArray, List.set_cons_zero, List.set_cons_succ])
                    | (refine Sch.tn_load _ _ _ _ _ rfl rfl rfl rfl (by first | exact Vr.ln) rfl ?_; simp only [Act.put, List.setIfInBounds_toArray, List.set_cons_zero, List.set_cons_succ])
                    | (refine Sch.tn_s _ rfl rfl rfl ?_; simp only [Act.put, List.setIfInBounds_toArray, List.set_cons_zero, List.set_cons_succ])
                    | (refine Sch.tn_se _ rfl rfl rfl ?_; simp only [Act.put, List.setIfInBounds_toArray, List.set_cons_zero, List.set_cons_succ]))
                  refine Sch.tn_n ?_
                  go_wp2_with fail
                  go_roundw
                  case rel => exact ⟨m + 1, by omega, by go_num, HBd, HWm⟩
                  case measure => simp [intOf]; omega
              · have hE : ∀ w, Sem.run Tryz.prog (binOp .eql 33 (dv p.1) (dv s.1)) w = .ok (.bool false) w := fun w => by rw [eql_dot, decide_eq_false he]
                have HWm := Lib.hid (HWn.out (fun e => absurd e he))
                go_wp2_with fail
                refine Sch.wp_region_tn (Vr b1 (o1 + k * 6) (o1 + m * 6) s p) (.val 0 (.val 1 (.val 2 (.val 3 (.val 4 (.val 5 (.val 6 (.val 7 (.val 8 (.val 9 (.val 10 (.val 11 (.val 12 (.val 13 (.val 14 (.val 15 (.val 16 (.val 17 (.val 18 (.val 19 (.one 20 (.val 21 (.val 22 .done))))))))))))))))))))))) (by kernel_rfl) (by kernel_rfl) HK.out ?_
                repeat (first
                  | (refine Sch.tn_q rfl rfl rfl (fun K hK => ?_); go_big_quiet_op; (first | refine hK _ ?_ | refine ⟨_, fun _ _ => rfl, hK _ ?_⟩); clear hK K)
                  | (refine Sch.tn_chk _ _ _ rfl rfl rfl rfl rfl ?_; simp only [Act.put, List.setIfInBounds_toArray, List.set_cons_zero, List.set_cons_succ])
                  | (refine Sch.tn_load _ _ _ _ _ rfl rfl rfl rfl (by first | exact Vr.ln | exact Vr.lx | exact Vr.ld | exact Vr.lm) rfl ?_; simp only [Act.put, List.setIfInBounds_toArray, List.set_cons_zero, List.set_cons_succ]))
                repeat (first
                  | (refine Sch.tn_q rfl rfl rfl (fun K hK => ?_); go_big_quiet_op; (first | refine hK _ ?_ | refine ⟨_, fun _ _ => rfl, hK _ ?_⟩); clear hK K)
                  | (refine Sch.tn_chk _ _ _ rfl rfl rfl rfl rfl ?_; simp only [Act.put, List.setIfInBounds_toArray, List.set_cons_zero, List.set_cons_succ])
                  | (refine Sch.tn_load _ _ _ _ _ rfl rfl rfl rfl (by first | exact Vr.ln) rfl ?_; simp only [Act.put, List.setIfInBounds_toArray, List.set_cons_zero, List.set_cons_succ])
                  | (refine Sch.tn_s _ rfl rfl rfl ?_; simp only [Act.put, List.setIfInBounds_toArray, List.set_cons_zero, List.set_cons_succ])
                  | (refine Sch.tn_se _ rfl rfl rfl ?_; simp only [Act.put, List.setIfInBounds_toArray, List.set_cons_zero, List.set_cons_succ]))
                refine Sch.tn_n ?_
                generalize wr.drew = w2 at *
                go_wp2_with fail
                go_roundw
                case rel => exact ⟨m + 1, by omega, by go_num, HBd, HWm⟩
                case measure => simp [intOf]; omega
            · obtain rfl : m = k := by omega
              have hend2 : ¬ (m : Int) < (m : Int) := by omega
              have HEx := Lib.hid (HEn.out HW.out)
              go_wp2_with fail
              go_roundw
              case rel => exact ⟨m + 1, by omega, by go_num, hh, HEx⟩
              case measure => simp [intOf]; omega
        · obtain rfl : k = l.length := by omega
          have HAg : Hid (agAll l) := ag_of fun i j hi hj hji e => HV.out i j hi hj hi hji e
          have HE := Lib.hid (HEo.out HVa.out HAg.out)
          have HSq := Lib.hid (fun i hi => put_seq HVa.out HAg.out i hi)
          clear HV HEc HEo
          go_wp2_with fail
          go_loopw [7, 8, 9, 10] (fun v i _ _ wr => ∃ (vv : Value) (k : Nat), vv = v ∧ k ≤ l.length ∧ i = .int .i64 (k : Int) ∧ Hid (Below w.heap.size w wr) ∧ Hid (ON wr w.heap.size E vv (foldN (l.take k) []))) (fun _ i _ _ _ => l.length - (intOf i).toNat)
          case atStart => exact ⟨_, 0, rfl, Nat.zero_le _, rfl, hh, ON.nil _ _ _⟩
          case round =>
            obtain ⟨v, k, rfl, hk, rfl, hh, HO⟩ := hrel
            by_cases hlt : k < l.length
            · have hi0 : (k : Int) < (l.length : Int) := by omega
              obtain ⟨b1, o1, rfl, hna⟩ := na_of (HX.out.keep hh.out) k hlt
              obtain ⟨A, cv, rfl, hro, hnil, hcp, -⟩ := HO.out.row
              obtain ⟨hv, h0, h1⟩ := HSq.out k hlt
              have HP := Lib.hid (put_ref (foldN (l.take k) []) l[k] A cv wr hv (HVa.out _ (List.getElem_mem hlt)) hro (fun h => (hnil h).1) hcp (by have := fold_len l k; have := HLn.out; omega))
              rw [h0, h1] at HP
              clear hv h0 h1 hro hnil hcp
              obtain ⟨q, hq⟩ : ∃ q, q = l[k] := ⟨_, rfl⟩
              rw [← hq] at hna HP
              clear hq
              obtain ⟨n0, n1, n2, n3, n4, n5⟩ := hna
              generalize (foldN (l.take k) []).length = n9 at *
              obtain ⟨⟨q1, q2⟩, ⟨q3, q4⟩, q5, q6⟩ := q
              go_wp2_with fail
              refine HP.out.mono ?_
              rintro e w5 ⟨v5, rfl, ho, hb⟩
              have HO5 := Lib.hid (ho.mono (base' := w.heap.size) fun y hy => Nat.le_trans hh.out.size (ho.lt y hy).1)
              have HB5 := bel_tr hh hb
              clear ho hb n0 n1 n2 n3 n4 n5 HP
              go_wp2_with fail
              go_roundw
              case rel => exact ⟨_, k + 1, rfl, by omega, by go_num, HB5, HO5⟩
              case measure => simp [intOf]; omega
            · obtain rfl : k = l.length := by omega
              have hend : ¬ (l.length : Int) < (l.length : Int) := by omega
              rw [List.take_length] at HO
              go_wp2_with fail
              go_ret2
              rw [HE.out]
              exact ⟨_, rfl, HO.out, hh.out⟩
end Go.Proofs.YtfpfihmihlmobaaGreat.Qs
end

/-
  Context, Dead, Time of the program.
-/
section
namespace Go.Proofs.YtfpfihmihlmobaaGreat.Qs
set_option linter.unusedVariables false
open Go.RowKit V Go.Sort D Nd

theorem enters_every : ∀ args w, (callFunc 83 args).run Tryz.prog w = .ok (.enter 83 args) w := enters_of Tryz.func83 (by kernel_rfl) rfl
theorem enters_dead : ∀ args w, (callFunc 51 args).run Tryz.prog w = .ok (.enter 51 args) w := enters_of Tryz.func51 (by kernel_rfl) rfl
set_option maxRecDepth 100000 in
theorem every_any (n : Nt) (w : World) : Calls Tryz.prog 83 #[nv n] w fun e w' => e = .returned (.bool true) ∧ Below w.heap.size w w' := by
  go_enter Tryz.func83, Tryz.ntmps83
  go_wp2_with fail
  go_ret
  exact ⟨rfl, bel_box _ _⟩
theorem ask_every (w : World) (l : List Nt) : AskN w 83 #[] l (fun _ => true) := fun W _ n _ => every_any n W
theorem ask_dead (w : World) (l : List Nt) : AskN w 51 #[] l (fun n => deadN n) := fun W _ n _ => (dead_any n W).mono fun _ _ h => ⟨h.1, h.2.bel⟩
/-- The dots of the chosen nodes. -/
def pickS (l : List Nt) (p : Nt → Bool) : List Dt := (l.filter p).map (·.1)
theorem pick_step {l : List Nt} {p : Nt → Bool} {k : Nat} (hk : k < l.length) : pickS (l.take (k + 1)) p = if p l[k] = true then pickS (l.take k) p ++ [l[k].1] else pickS (l.take k) p := by
  have e : l.take (k + 1) = l.take k ++ [l[k]] := by rw [List.take_add_one, List.getElem?_eq_getElem hk]; rfl
  unfold pickS
  rw [e, List.filter_append, List.filter_cons]
  split
  · simp
  · simp
theorem pick_len (l : List Nt) (p : Nt → Bool) : (pickS l p).length ≤ l.length := by
  unfold pickS
  rw [List.length_map]
  exact List.length_filter_le _ _
def ctxP (l : List Nt) (p : Nt → Bool) : F.Ct × Int := if validS l = true then F.madeB (pickS l p) else (([], []), 2)

theorem wc_gb {w w' : World} {g : Nat} {r : Option Nat} (h : F.Wc w g) (hg : w.grownBy w' r) (hne : some g ≠ r) : F.Wc w' g := fun i hi => by
  obtain ⟨⟨v, hv⟩, hf⟩ := h i hi
  have e := hg.block g h.lt hne
  exact ⟨⟨v, (World.cell?_of_block (a := ⟨g, i, none⟩) e).trans hv⟩, (World.frozen?_of_block (a := ⟨g, i, none⟩) e).trans hf⟩
set_option maxRecDepth 100000 in
set_option maxHeartbeats 4000000 in
theorem ctx_of (l : List Nt) (p : Nt → Bool) (g : Nat) (a : Option Addr) (c : Nat) (w : World) (eg : ∀ args w, (callFunc g args).run Tryz.prog w = .ok (.enter g args) w) (hp : AskN w g #[] l p) (hx : RowN w a l) (hlx : l.length ≤ 300000) :
    Calls Tryz.prog 72 #[.slice a l.length c, .func (.func g) #[] #[]] w fun e w' => ∃ x y, e = .returned (.tuple #[F.cv x y, .int .i64 (ctxP l p).2]) ∧ F.Ov w' w.heap.size x y (ctxP l p).1 ∧ Below w.heap.size w w' := by
  have HE : Hid ((validS l = true → ctxP l p = F.madeB (pickS l p)) ∧ (validS l = false → ctxP l p = (([], []), 2))) := ⟨fun h => if_pos h, fun h => if_neg (by rw [h]; simp)⟩
  have HV := Lib.hid (fun w h => validS_any l a c w h (by omega))
  have HM := Lib.hid (fun A cv w (h : RowD w A (pickS l p)) => F.of_any6 (pickS l p) A cv w h (by have := pick_len l p; omega))
  have HX := Lib.hid hx
  have HP := Lib.hid hp
  have HLn := Lib.hid hlx
  have hli : (l.length : Int) ≤ 300000 := by omega
  have hb0 := bel_box w (F.cbox (.slice none 0 0) (.slice none 0 0))
  have HW0 := Lib.hid (F.wc_new w)
  have HB0 := Lib.hid hb0
  clear hp hx hlx hb0
  generalize ctxP l p = R at *
  generalize validS l = va at *
  go_enter Tryz.func72, Tryz.ntmps72
  go_wp2_with fail
  generalize w.alloc (F.cbox (.slice none 0 0) (.slice none 0 0)) = w1 at *
  refine (HV.out _ (HX.out.keep HB0.out)).mono ?_
  rintro e w2 ⟨rfl, hb⟩
  have HB := bel_tr HB0 hb
  have HW := Lib.hid (HW0.out.keep hb)
  have HB0 := Lib.hid HB
  clear hb HV HW0
  rcases va with _ | _
  · have HE2 := Lib.hid (HE.out.2 (by first | trivial | rfl))
    obtain ⟨⟨u0, r0⟩, r1⟩ := HW.out 0 (by omega)
    obtain ⟨⟨u1, r2⟩, r3⟩ := HW.out 1 (by omega)
    have HP2 := Lib.hid (F.put_two (x := .slice none 0 0) (y := .slice none 0 0) HW.out)
    have HB4 := Lib.hid (F.below_put (g := w.heap.size) (x := .slice none 0 0) (y := .slice none 0 0) HB.out (Nat.le_refl _))
    go_wp2_with fail
    generalize (w2.setCell ⟨w.heap.size, 0, none⟩ (.slice none 0 0)).setCell ⟨w.heap.size, 1, none⟩ (.slice none 0 0) = W at *
    have q0 := HP2.out.1
    have q1 := HP2.out.2
    (try simp only [Exit.inBlock, Exit.then])
    refine bodyPost_ret (v := .tuple #[F.cv (.slice none 0 0) (.slice none 0 0), .int .i64 2]) (by rw [results_cell_tmp (fn := Tryz.f72) (p := 4) (u := 5) (ty := 51) rfl]; go_simp) rfl ?_
    rw [HE2.out]
    exact ⟨_, _, rfl, F.Ov.nil _ _, HB4.out⟩
  · have HE2 := Lib.hid (HE.out.1 (by first | trivial | rfl))
    have hWl := HW.out.lt
    have HWl := Lib.hid hWl
    clear hWl
    go_wp2_with fail
    go_loopw [6, 8, 15] (fun v _ i wr => ∃ k : Nat, k ≤ l.length ∧ i = .int .i64 (k : Int) ∧ Hid (Below w.heap.size w wr) ∧ Hid (w2.heap.size ≤ wr.heap.size) ∧ Hid (F.Wc wr w.heap.size) ∧ Hid (OD wr w2.heap.size D.E v (pickS (l.take k) p))) (fun _ _ i _ => l.length - (intOf i).toNat)
    case atStart => exact ⟨0, Nat.zero_le _, rfl, HB, Nat.le_refl _, HW, OD.nil _ _ _⟩
    case round =>
      obtain ⟨k, hk, rfl, hh, HS, HW, HO⟩ := hrel
      by_cases hlt : k < l.length
      · have hi0 : (k : Int) < (l.length : Int) := by omega
        obtain ⟨b1, o1, rfl, hna⟩ := na_of (HX.out.keep hh.out) k hlt
        have HSt := Lib.hid (pick_step (p := p) hlt)
        have HMe := Lib.hid (List.getElem_mem hlt)
        obtain ⟨q, hq⟩ : ∃ q, q = l[k] := ⟨_, rfl⟩
        rw [← hq] at hna HSt HMe
        clear hq
        have hb0 := bel_box wr (.cells (nc q) 35)
        have HB1 := bel_tr hh hb0
        have HW1 := Lib.hid (HW.out.keep hb0)
        have HO1 := Lib.hid (HO.out.below hb0)
        have HS1 := Lib.hid (Nat.le_trans HS.out hb0.size)
        have HQ := Lib.hid (HP.out _ HB1.out q HMe.out)
        have HPk : Hid ((pickS (l.take k) p).length ≤ 300000) := by
          have h1 := pick_len (l.take k) p
          rw [List.length_take] at h1
          have h2 := HLn.out
          show _ ≤ _
          omega
        have hbx := Nb.new wr q
        clear hb0
        rcases hpq : p q with _ | _
        · rw [hpq] at HQ
          have HSt2 : Hid (pickS (l.take (k + 1)) p = pickS (l.take k) p) := by show _ = _; rw [HSt.out, if_neg (by rw [hpq]; simp)]
          rw [← HSt2.out] at HO1
          clear hpq HSt hbx
          obtain ⟨n0, n1, n2, n3, n4, n5⟩ := hna
          obtain ⟨⟨q1, q2⟩, ⟨q3, q4⟩, q5, q6⟩ := q
          go_wp2_with fail
          refine HQ.out.mono ?_
          rintro e w4 ⟨rfl, hb⟩
          replace HB1 := bel_tr HB1 hb
          replace HW1 := Lib.hid (HW1.out.keep hb)
          replace HO1 := Lib.hid (HO1.out.below hb)
          replace HS1 := Lib.hid (Nat.le_trans HS1.out hb.size)
          clear hb HQ n0 n1 n2 n3 n4 n5
          go_wp2_with fail
          go_roundw
          case rel => exact ⟨k + 1, by omega, by go_num, HB1, HS1, HW1, HO1⟩
          case measure => simp [intOf]; omega
        · rw [hpq] at HQ
          have HSt2 : Hid (pickS (l.take (k + 1)) p = pickS (l.take k) p ++ [q.1]) := by show _ = _; rw [HSt.out, if_pos hpq]
          clear hpq HSt
          obtain ⟨n0, n1, n2, n3, n4, n5⟩ := hna
          obtain ⟨⟨q1, q2⟩, ⟨q3, q4⟩, q5, q6⟩ := q
          go_wp2_with fail
          refine HQ.out.mono ?_
          rintro e w4 ⟨rfl, hb⟩
          replace HB1 := bel_tr HB1 hb
          replace HW1 := Lib.hid (HW1.out.keep hb)
          replace HO1 := Lib.hid (HO1.out.below hb)
          replace HS1 := Lib.hid (Nat.le_trans HS1.out hb.size)
          have HN := Lib.hid (hbx.keep hb)
          clear hb HQ n0 n1 n2 n3 n4 n5 hbx
          obtain ⟨n0, n1, n2, n3, n4, n5⟩ := HN.out
          have hb2 := bel_box w4 (.cells #[.int .i64 q1, .int .i64 q2] 33)
          have HO2 := Lib.hid (HO1.out.below hb2)
          have HB2 := bel_tr HB1 hb2
          have HW2 := Lib.hid (HW1.out.keep hb2)
          have HS2 := Lib.hid (Nat.le_trans HS1.out hb2.size)
          have HLt : Hid (RowD (w4.alloc (.cells #[.int .i64 q1, .int .i64 q2] 33)) (some ⟨w4.heap.size, 0, none⟩) [(q1, q2)]) := lit_one w4 (q1, q2) _
          clear hb2
          go_wp2_with (at_builtin; refine wpList_appD rfl _ _ _ rfl Tryz.underlying43 infoD _ _ rfl HO2.out (some ⟨w4.heap.size, 0, none⟩) [(q1, q2)] 1 rfl HLt.out (fun h => by cases h) (by have := HPk.out; simp; omega) HS2.out ?_)
          intro v7 w7 ho hg _
          have HO7 : Hid (OD w7 w2.heap.size D.E v7 (pickS (l.take (k + 1)) p)) := by rw [HSt2.out]; exact ho
          have HB7 := Lib.hid (HB2.out.grown hg HB2.out.size (fun x hx => Nat.le_trans HB0.out.size (HO2.out.lt x hx).1))
          have HW7 := Lib.hid (wc_gb HW2.out hg (fun e => by have := (HO2.out.lt _ e.symm).1; have := HWl.out; omega))
          have HS7 := Lib.hid (Nat.le_trans HS2.out hg.size)
          clear ho hg n0 n1 n2 n3 n4 n5
          go_wp2_with fail
          go_roundw
          case rel => exact ⟨k + 1, by omega, by go_num, HB7, HS7, HW7, HO7⟩
          case measure => simp [intOf]; omega
      · obtain rfl : k = l.length := by omega
        have hend : ¬ (l.length : Int) < (l.length : Int) := by omega
        rw [List.take_length] at HO
        obtain ⟨A, cv, rfl, hr, -⟩ := HO.out.row
        have HM2 := Lib.hid (HM.out A cv wr hr)
        have hl := HW.out.lt
        clear hr HM
        generalize F.madeB (pickS l p) = M at *
        generalize (pickS l p).length = n5 at *
        go_wp2_with fail
        refine HM2.out.mono ?_
        rintro e w3 ⟨x, y, rfl, ho, hb⟩
        have HO3 := Lib.hid ho
        have HBs := Lib.hid hh.out.size
        replace HW := Lib.hid (HW.out.keep hb)
        have HB3 := bel_tr hh hb
        obtain ⟨⟨u0, r0⟩, r1⟩ := HW.out 0 (by omega)
        obtain ⟨⟨u1, r2⟩, r3⟩ := HW.out 1 (by omega)
        obtain ⟨a6, n6, b6, m6, rfl, rfl⟩ := HO3.out.shape
        have HP2 := Lib.hid (F.put_two (x := .slice a6 M.1.1.length n6) (y := .slice b6 M.1.2.length m6) HW.out)
        have HO2 := Lib.hid ((HO3.out.put (g := w.heap.size) (u := .slice a6 M.1.1.length n6) (v := .slice b6 M.1.2.length m6) hl).mono HBs.out)
        have HB4 := Lib.hid (F.below_put (g := w.heap.size) (x := .slice a6 M.1.1.length n6) (y := .slice b6 M.1.2.length m6) HB3.out (Nat.le_refl _))
        clear ho hb hl HO HO3 HM2
        go_wp2_with fail
        generalize (w3.setCell ⟨w.heap.size, 0, none⟩ (.slice a6 M.1.1.length n6)).setCell ⟨w.heap.size, 1, none⟩ (.slice b6 M.1.2.length m6) = W at *
        have q0 := HP2.out.1
        have q1 := HP2.out.2
        (try simp only [Exit.inBlock, Exit.then])
        refine bodyPost_ret (v := .tuple #[F.cv (.slice a6 M.1.1.length n6) (.slice b6 M.1.2.length m6), .int .i64 M.2]) (by rw [results_cell_tmp (fn := Tryz.f72) (p := 4) (u := 5) (ty := 51) rfl]; go_simp) rfl ?_
        rw [HE2.out]
        exact ⟨_, _, rfl, HO2.out, HB4.out⟩
end Go.Proofs.YtfpfihmihlmobaaGreat.Qs
end

/-
  Context, Dead and Time of the program.
-/
section
namespace Go.Proofs.YtfpfihmihlmobaaGreat.Qs
set_option linter.unusedVariables false
open Go.RowKit V Go.Sort D Nd

def chs (dead : Bool) (n : Nt) : Bool := !dead || deadN n
set_option maxRecDepth 100000 in
set_option maxHeartbeats 4000000 in
theorem context_prog (l : List Nt) (a : Option Addr) (c : Nat) (w : World) (hx : RowN w a l) (hlx : l.length ≤ 300000) :
    Calls Tryz.prog 58 #[.slice a l.length c] w fun e w' => ∃ x y, e = .returned (.tuple #[F.cv x y, .int .i64 (ctxP l (chs false)).2]) ∧ F.Ov w' w.heap.size x y (ctxP l (chs false)).1 ∧ Below w.heap.size w w' := by
  have HC := Lib.hid (fun w h => ctx_of l (chs false) 83 a c w enters_every (ask_every w l) h hlx)
  have HW := Lib.hid (F.wc_new w)
  have HB := Lib.hid (bel_box w (F.cbox (.slice none 0 0) (.slice none 0 0)))
  have HX := Lib.hid (hx.keep HB.out)
  clear hx hlx
  generalize ctxP l (chs false) = R at *
  go_enter Tryz.func58, Tryz.ntmps58
  go_wp2_with fail
  generalize w.alloc (F.cbox (.slice none 0 0) (.slice none 0 0)) = w1 at *
  have hl := HW.out.lt
  refine (HC.out _ HX.out).mono ?_
  rintro e w3 ⟨x, y, rfl, ho, hb⟩
  have HO := Lib.hid ho
  have HBs := Lib.hid HB.out.size
  replace HW := Lib.hid (HW.out.keep hb)
  have HB3 := bel_tr HB hb
  obtain ⟨⟨u0, r0⟩, r1⟩ := HW.out 0 (by omega)
  obtain ⟨⟨u1, r2⟩, r3⟩ := HW.out 1 (by omega)
  obtain ⟨a6, n6, b6, m6, rfl, rfl⟩ := HO.out.shape
  have HP := Lib.hid (F.put_two (x := .slice a6 R.1.1.length n6) (y := .slice b6 R.1.2.length m6) HW.out)
  have HO2 := Lib.hid ((HO.out.put (g := w.heap.size) (u := .slice a6 R.1.1.length n6) (v := .slice b6 R.1.2.length m6) hl).mono HBs.out)
  have HB4 := Lib.hid (F.below_put (g := w.heap.size) (x := .slice a6 R.1.1.length n6) (y := .slice b6 R.1.2.length m6) HB3.out (Nat.le_refl _))
  clear ho hb HC hl HO
  go_wp2_with fail
  generalize (w3.setCell ⟨w.heap.size, 0, none⟩ (.slice a6 R.1.1.length n6)).setCell ⟨w.heap.size, 1, none⟩ (.slice b6 R.1.2.length m6) = W at *
  have q0 := HP.out.1
  have q1 := HP.out.2
  (try simp only [Exit.inBlock, Exit.then])
  refine bodyPost_ret (v := .tuple #[F.cv (.slice a6 R.1.1.length n6) (.slice b6 R.1.2.length m6), .int .i64 R.2]) (by rw [results_cell_tmp (fn := Tryz.f58) (p := 2) (u := 3) (ty := 51) rfl]; go_simp) rfl ?_
  exact ⟨_, _, rfl, HO2.out, HB4.out⟩
set_option maxRecDepth 100000 in
set_option maxHeartbeats 4000000 in
theorem dead_prog (l : List Nt) (a : Option Addr) (c : Nat) (w : World) (hx : RowN w a l) (hlx : l.length ≤ 300000) :
    Calls Tryz.prog 38 #[.slice a l.length c] w fun e w' => ∃ x y, e = .returned (.tuple #[F.cv x y, .int .i64 (ctxP l (chs true)).2]) ∧ F.Ov w' w.heap.size x y (ctxP l (chs true)).1 ∧ Below w.heap.size w w' := by
  have HC := Lib.hid (fun w h => ctx_of l (chs true) 51 a c w enters_dead (ask_dead w l) h hlx)
  have HW := Lib.hid (F.wc_new w)
  have HB := Lib.hid (bel_box w (F.cbox (.slice none 0 0) (.slice none 0 0)))
  have HX := Lib.hid (hx.keep HB.out)
  clear hx hlx
  generalize ctxP l (chs true) = R at *
  go_enter Tryz.func38, Tryz.ntmps38
  go_wp2_with fail
  generalize w.alloc (F.cbox (.slice none 0 0) (.slice none 0 0)) = w1 at *
  have hl := HW.out.lt
  refine (HC.out _ HX.out).mono ?_
  rintro e w3 ⟨x, y, rfl, ho, hb⟩
  have HO := Lib.hid ho
  have HBs := Lib.hid HB.out.size
  replace HW := Lib.hid (HW.out.keep hb)
  have HB3 := bel_tr HB hb
  obtain ⟨⟨u0, r0⟩, r1⟩ := HW.out 0 (by omega)
  obtain ⟨⟨u1, r2⟩, r3⟩ := HW.out 1 (by omega)
  obtain ⟨a6, n6, b6, m6, rfl, rfl⟩ := HO.out.shape
  have HP := Lib.hid (F.put_two (x := .slice a6 R.1.1.length n6) (y := .slice b6 R.1.2.length m6) HW.out)
  have HO2 := Lib.hid ((HO.out.put (g := w.heap.size) (u := .slice a6 R.1.1.length n6) (v := .slice b6 R.1.2.length m6) hl).mono HBs.out)
  have HB4 := Lib.hid (F.below_put (g := w.heap.size) (x := .slice a6 R.1.1.length n6) (y := .slice b6 R.1.2.length m6) HB3.out (Nat.le_refl _))
  clear ho hb HC hl HO
  go_wp2_with fail
  generalize (w3.setCell ⟨w.heap.size, 0, none⟩ (.slice a6 R.1.1.length n6)).setCell ⟨w.heap.size, 1, none⟩ (.slice b6 R.1.2.length m6) = W at *
  have q0 := HP.out.1
  have q1 := HP.out.2
  (try simp only [Exit.inBlock, Exit.then])
  refine bodyPost_ret (v := .tuple #[F.cv (.slice a6 R.1.1.length n6) (.slice b6 R.1.2.length m6), .int .i64 R.2]) (by rw [results_cell_tmp (fn := Tryz.f38) (p := 2) (u := 3) (ty := 51) rfl]; go_simp) rfl ?_
  exact ⟨_, _, rfl, HO2.out, HB4.out⟩
def timeP (l : List Nt) : Int × Int := if validS l = true then (timeS l, 0) else (0, 2)
set_option maxRecDepth 100000 in
set_option maxHeartbeats 4000000 in
theorem time_prog (l : List Nt) (a : Option Addr) (c : Nat) (w : World) (hx : RowN w a l) (hlx : l.length ≤ 300000) :
    Calls Tryz.prog 60 #[.slice a l.length c] w fun e w' => e = .returned (.tuple #[.int .i64 (timeP l).1, .int .i64 (timeP l).2]) ∧ Below w.heap.size w w' := by
  have HE : Hid ((validS l = true → timeP l = (timeS l, 0)) ∧ (validS l = false → timeP l = (0, 2))) := ⟨fun h => if_pos h, fun h => if_neg (by rw [h]; simp)⟩
  have HV := Lib.hid (fun w h => validS_any l a c w h (by omega))
  have HX := Lib.hid hx
  have hli : (l.length : Int) ≤ 300000 := by omega
  clear hx hlx
  generalize timeP l = R at *
  generalize validS l = va at *
  go_enter Tryz.func60, Tryz.ntmps60
  go_wp2_with fail
  refine (HV.out _ HX.out).mono ?_
  rintro e w2 ⟨rfl, hb⟩
  have HB := Lib.hid hb
  clear hb HV
  rcases va with _ | _
  · have HE2 := Lib.hid (HE.out.2 (by first | trivial | rfl))
    go_wp2_with fail
    go_ret2
    rw [HE2.out]
    exact ⟨rfl, HB.out⟩
  · have HE2 := Lib.hid (HE.out.1 (by first | trivial | rfl))
    go_wp2_with fail
    go_loopw [4, 6, 12] (fun m _ i wr => ∃ k : Nat, k ≤ l.length ∧ i = .int .i64 (k : Int) ∧ (∃ t : Int, m = .int .i64 t ∧ Hid (t = timeS (l.take k))) ∧ Hid (Below w.heap.size w wr)) (fun _ _ i _ => l.length - (intOf i).toNat)
    case atStart => exact ⟨0, Nat.zero_le _, rfl, ⟨0, rfl, rfl⟩, HB⟩
    case round =>
      obtain ⟨k, hk, rfl, ⟨t, rfl, HT⟩, hh⟩ := hrel
      by_cases hlt : k < l.length
      · have hi0 : (k : Int) < (l.length : Int) := by omega
        obtain ⟨b1, o1, rfl, hna⟩ := na_of (HX.out.keep hh.out) k hlt
        have HSt : Hid (timeS (l.take (k + 1)) = if timeS (l.take k) < l[k].2.2.1 then l[k].2.2.1 else timeS (l.take k)) := by
          show _ = _
          unfold timeS
          rw [foldl_take _ _ _ _ hlt]
        obtain ⟨q, hq⟩ : ∃ q, q = l[k] := ⟨_, rfl⟩
        rw [← hq] at hna HSt
        clear hq
        rw [← HT.out] at HSt
        have HB1 := bel_tr hh (bel_box wr (.cells (nc q) 35))
        obtain ⟨n0, n1, n2, n3, n4, n5⟩ := hna
        obtain ⟨⟨q1, q2⟩, ⟨q3, q4⟩, q5, q6⟩ := q
        simp only at HSt
        go_wp2_with fail
        have HB2 := HB1
        clear HB1 n0 n1 n2 n3 n4 n5
        go_roundw
        case rel => exact ⟨k + 1, by omega, by go_num, ⟨max t q5, rfl, by show _ = _; rw [HSt.out]; split <;> omega⟩, HB2⟩
        case measure => simp [intOf]; omega
      · obtain rfl : k = l.length := by omega
        have hend : ¬ (l.length : Int) < (l.length : Int) := by omega
        rw [List.take_length] at HT
        go_wp2_with fail
        go_ret2
        rw [HE2.out, ← HT.out]
        exact ⟨rfl, hh.out⟩
end Go.Proofs.YtfpfihmihlmobaaGreat.Qs
end
