/-
  Kill of the program.
-/
import Derived.Test.YteojbekkbgcmnabQPlc
import Derived.Test.YteojbekkbgcmnabQOwn
import Derived.Test.YteojbekkbgcmnabMEOf
namespace Go.Proofs.Yteojbekkbgcmnab.Qs
set_option linter.unusedVariables false
open Go.RowKit V Go.Sort D Nd

theorem enters_noDot : ∀ args w, (callFunc 52 args).run Try.prog w = .ok (.enter 52 args) w := enters_of Try.func52 (by kernel_rfl) rfl
set_option maxRecDepth 100000 in
theorem noDot_any (d : Dt) (w : World) : Calls Try.prog 52 #[dv d] w fun e w' => e = .returned (.bool (!validR d)) ∧ Below w.heap.size w w' := by
  have HV := Lib.hid (fun w => D.valid_any d w)
  generalize validR d = R at *
  obtain ⟨d1, d2⟩ := d
  go_enter Try.func52, Try.ntmps52
  go_wp2_with fail
  refine (HV.out _).mono ?_
  rintro e w2 ⟨rfl, hl⟩
  have HB := bel_tr (Lib.hid (bel_box w _)) hl
  clear hl HV
  go_wp2_with fail
  go_ret
  exact ⟨rfl, HB.out⟩
theorem ask_noDot (w : World) (l : List Dt) : F.Ask w 52 #[] l (fun d => !validR d) := fun W _ d _ => noDot_any d W

def killP (l : List Nt) (dots : List Dt) : List Nt × Int := if (validS l && dots.all validR) = true then killS l dots else ([], 2)
theorem killAt_congr {n : Nt} {a b : List Dt} (h : n.1 ∈ b ↔ n.1 ∈ a) : killAt a n = killAt b n := by
  unfold killAt
  by_cases hm : n.1 ∈ a
  · rw [if_pos hm, if_pos (h.2 hm)]
  · rw [if_neg hm, if_neg (fun k => hm (h.1 k))]
theorem kill_step {l : List Nt} {dots : List Dt} {k i : Nat} (hl : DN l) (hk : k < dots.length) (hi : i < l.length) (e : l[i].1 = dots[k]) {q : Nt} (hq : q = (l.map (killAt (dots.take k)))[i]'(by simpa using hi)) :
    (l.map (killAt (dots.take k))).set i (killN q) = l.map (killAt (dots.take (k + 1))) := by
  subst hq
  have et : dots.take (k + 1) = dots.take k ++ [dots[k]] := by rw [List.take_add_one, List.getElem?_eq_getElem hk]; rfl
  apply List.ext_getElem (by simp)
  intro j h1 h2
  have hj : j < l.length := by simpa using h2
  rw [List.getElem_set]
  by_cases hij : i = j
  · subst hij
    rw [if_pos rfl, List.getElem_map, List.getElem_map]
    have hm : l[i].1 ∈ dots.take (k + 1) := by rw [e, et]; exact List.mem_append_right _ (by simp)
    unfold killAt
    rw [if_pos hm]
    split <;> rfl
  · rw [if_neg hij]
    simp only [List.getElem_map]
    have hne : l[j].1 ≠ dots[k] := fun h => hij (dn_at hl hi hj (e.trans h.symm))
    have hm : l[j].1 ∈ dots.take (k + 1) ↔ l[j].1 ∈ dots.take k := by
      rw [et, List.mem_append, List.mem_singleton]
      exact ⟨fun h => h.resolve_right hne, .inl⟩
    exact killAt_congr hm

set_option maxRecDepth 100000 in
set_option maxHeartbeats 4000000 in
theorem kill_prog (l : List Nt) (dots : List Dt) (a b : Option Addr) (c n : Nat) (w : World) (hf : ∀ x ∈ l, fitN x) (hd : ∀ x ∈ dots, fitD x) (hx : RowN w a l) (hy : RowD w b dots) (hna : a = none → c = 0) (hlx : l.length ≤ 1000000) (hly : dots.length ≤ 1000000) :
    Calls Try.prog 27 #[.slice a l.length c, .slice b dots.length n] w fun e w' => ∃ v, e = .returned (.tuple #[v, .int .i64 (killP l dots).2]) ∧ ON w' w.heap.size E v (killP l dots).1 ∧ Below w.heap.size w w' := by
  have HE : Hid (killP l dots = if (validS l && dots.all validR) = true then killS l dots else ([], 2)) := rfl
  have HV := Lib.hid (fun w h => validS_any l a c w h hlx)
  have HD := Lib.hid (fun w h => F.containsF dots b n 52 #[] (fun d => !validR d) w enters_noDot (ask_noDot w dots) h hly)
  rw [F.any_valid] at HD
  have HS : Hid (validS l = true → DN l) := fun h => dn_srt (validS_iff.1 h).2
  have HP := Lib.hid (fun w hs h => places_any l a c w hs hf h hlx)
  have HC := Lib.hid (fun w h => cloneN l a c w h hna hlx)
  have HX := Lib.hid hx
  have HY := Lib.hid hy
  have HF := Lib.hid hd
  have hli : (l.length : Int) ≤ 1000000 := by omega
  have hld : (dots.length : Int) ≤ 1000000 := by omega
  clear hf hd hx hy hna hlx hly
  generalize killP l dots = R at *
  generalize validS l = va at *
  generalize dots.all validR = vd at *
  go_enter Try.func27, Try.ntmps27
  go_wp2_with fail
  refine (HV.out _ HX.out).mono ?_
  rintro e w2 ⟨rfl, hb⟩
  have HB := Lib.hid hb
  clear hb
  rcases va with _ | _
  · go_wp2_with fail
    go_ret2
    rw [HE.out]
    exact ⟨_, rfl, ON.nil _ _ _, HB.out⟩
  · go_wp2_with fail
    refine (HD.out _ (HY.out.keep HB.out)).mono ?_
    rintro e w3 ⟨rfl, hb⟩
    replace HB := bel_tr HB hb
    clear hb
    rcases vd with _ | _
    · go_wp2_with fail
      go_ret2
      rw [HE.out]
      exact ⟨_, rfl, ON.nil _ _ _, HB.out⟩
    · have HN := Lib.hid (HS.out (by first | trivial | rfl))
      have HE2 : Hid (R = killS l dots) := by show _ = _; rw [HE.out]; rfl
      go_wp2_with fail
      refine (HP.out _ HN.out (HX.out.keep HB.out)).mono ?_
      rintro e w4 ⟨p, rfl, -, hm, hb⟩
      have HM := Lib.hid hm
      have hpl := hm.lt
      replace HB := bel_tr HB hb
      clear hb hm
      go_wp2_with fail
      refine (HC.out _ (HX.out.keep HB.out)).mono ?_
      rintro e w5 ⟨v, rfl, ho, hb⟩
      replace HM := Lib.hid (HM.out.keep hb)
      replace HO := Lib.hid (ho.mono (base' := w4.heap.size) fun k hk => (ho.lt k hk).1)
      have HB4 := Lib.hid HB.out.size
      have HPl := Lib.hid hpl
      have HB5 := Lib.hid hb.size
      replace HB := bel_tr HB hb
      clear hb ho
      obtain ⟨A, cv, rfl, -, -, -, hA⟩ := HO.out.row
      have HA : Hid (∀ x, A = some x → x = ⟨x.block, 0, none⟩) := fun x hx => (hA x hx).1
      have HO2 : Hid (ON w5 w4.heap.size E (.slice A l.length cv) (l.map (killAt (dots.take 0)))) := by
        have e : l.map (killAt (dots.take 0)) = l := by
          have : killAt (dots.take 0) = id := by funext x; unfold killAt; simp
          rw [this, List.map_id]
        rw [e]; exact HO.out
      clear hA HO
      go_wp2_with fail
      go_loopw [9, 10, 11, 25] (fun _ _ _ i wr => ∃ k : Nat, k ≤ dots.length ∧ i = .int .i64 (k : Int) ∧ Hid (Below w.heap.size w wr) ∧ Hid (w4.heap.size ≤ wr.heap.size) ∧ Hid (Dm elInt wr p 1000000 (idxG l)) ∧ Hid (p < w4.heap.size) ∧ Hid (ON wr w4.heap.size E (.slice A l.length cv) (l.map (killAt (dots.take k)))) ∧ Hid (∀ j (hj : j < dots.length), j < k → atS l dots[j] ≠ none)) (fun _ _ _ i _ => dots.length - (intOf i).toNat)
      case atStart => exact ⟨0, Nat.zero_le _, rfl, HB, HB5, HM, HPl, HO2, fun j _ h => by omega⟩
      case round =>
        obtain ⟨k, hk, rfl, hh, HB5, HM, HPl, HO, HV⟩ := hrel
        by_cases hlt : k < dots.length
        · have hi0 : (k : Int) < (dots.length : Int) := by omega
          obtain ⟨b1, o1, rfl, p0, p1⟩ := (HY.out.keep hh.out).get (Below.refl _ _) k hlt
          have HFq := Lib.hid (HF.out dots[k] (List.getElem_mem hlt))
          have HKs := Lib.hid (fun i hi e q hq => kill_step (k := k) (i := i) (q := q) HN.out hlt hi e hq)
          have HMe := Lib.hid (List.getElem_mem hlt)
          have HVk : Hid (atS l dots[k] ≠ none → ∀ j (hj : j < dots.length), j < k + 1 → atS l dots[j] ≠ none) := fun h j hj hjk => by
            by_cases e : j = k
            · subst e; exact h
            · exact HV.out j hj (by omega)
          obtain ⟨q, hq⟩ : ∃ q, q = dots[k] := ⟨_, rfl⟩
          rw [← hq] at p0 p1 HFq HKs HMe HVk
          clear hq
          have hb0 := bel_box wr (.cells #[.int .i64 q.1, .int .i64 q.2] 34)
          have HB1 := bel_tr hh hb0
          have HM1 := Lib.hid (HM.out.keep hb0)
          have HO1 := Lib.hid (HO.out.below hb0)
          have HS1 : Hid (w4.heap.size ≤ (wr.alloc (.cells #[.int .i64 q.1, .int .i64 q.2] 34)).heap.size) := Nat.le_trans HB5.out hb0.size
          clear hb0
          have hlk := HM1.out.look_ok uInt (zInt _) HFq.out
          have HI : Hid (∀ z, z = idxG l q → (z = none ∧ atS l q = none) ∨ ∃ i, ∃ hi : i < l.length, z = some (i : Int) ∧ l[i].1 = q) := fun z hz => by
            rcases h0 : idxG l q with _ | i
            · exact .inl ⟨hz.trans h0, idxG_none.1 h0⟩
            · obtain ⟨i, hi, e, h1, -⟩ := idxG_some h0
              exact .inr ⟨i, hi, by rw [hz, h0, e], h1⟩
          obtain ⟨z, hz⟩ : ∃ z, z = idxG l q := ⟨_, rfl⟩
          rw [← hz] at hlk
          obtain ⟨q1, q2⟩ := q
          obtain ⟨rfl, ha⟩ | ⟨i, hi, rfl, ha⟩ := HI.out z hz
          · have hlk2 : (Instr.lookup 79 (.map (some p)) (dv (q1, q2)) true).run Try.prog (wr.alloc (.cells #[.int .i64 q1, .int .i64 q2] 34)) = .ok (.tuple #[.int .i64 0, .bool false]) (wr.alloc (.cells #[.int .i64 q1, .int .i64 q2] 34)) := hlk
            have HCo := Lib.hid (kill_code (l := l) (q1, q2) HMe.out ha)
            clear hlk hz HI ha
            go_wp2_with fail
            go_ret2
            rw [HE2.out, HCo.out]
            exact ⟨_, rfl, ON.nil _ _ _, HB1.out⟩
          · have hlk2 : (Instr.lookup 79 (.map (some p)) (dv (q1, q2)) true).run Try.prog (wr.alloc (.cells #[.int .i64 q1, .int .i64 q2] 34)) = .ok (.tuple #[.int .i64 (i : Int), .bool true]) (wr.alloc (.cells #[.int .i64 q1, .int .i64 q2] 34)) := hlk
            have HVn := Lib.hid (HVk.out (by
              intro h
              exact at_none.1 h l[i] (List.getElem_mem hi) ha))
            have hi2 : (i : Int) < (l.length : Int) := by omega
            have HLi : Hid (i < (l.map (killAt (dots.take k))).length) := by show _ < _; simpa using hi
            have HKt := Lib.hid (fun q hq => HKs.out i hi ha q hq)
            clear hlk hz HI ha
            obtain ⟨g, rfl⟩ : ∃ g, A = some ⟨g, 0, none⟩ := by
              rcases A with _ | x
              · have := HO1.out.r
                have h0 := this.2.1
                simp at h0
                have h3 := HO1.out.row
                obtain ⟨a', c', e, hr, hn, -⟩ := h3
                simp only [Value.slice.injEq] at e
                have := (hn e.1.symm).2
                have : l = [] := by simpa using this
                subst this
                simp at hi
              · exact ⟨x.block, by rw [HA.out x rfl]⟩
            obtain ⟨n0, n1, n2, n3, n4, n5⟩ := HO1.out.na i HLi.out
            obtain ⟨t, ht⟩ : ∃ t, t = (l.map (killAt (dots.take k)))[i]'HLi.out := ⟨_, rfl⟩
            rw [← ht] at n0 n1 n2 n3 n4 n5
            have HKq := Lib.hid (HKt.out t ht)
            clear ht
            have HKi := Lib.hid (fun w => Nd.kill_any t w)
            obtain ⟨⟨t1, t2⟩, ⟨t3, t4⟩, t5, t6⟩ := t
            go_wp2_with fail
            refine (HKi.out _).mono ?_
            rintro e w7 ⟨rfl, hl⟩
            have hb := hl.bel
            clear hl n0 n1 n2 n3 n4 n5 hlk2 p0 p1
            replace HB1 := bel_tr HB1 hb
            replace HM1 := Lib.hid (HM1.out.keep hb)
            replace HO1 := Lib.hid (HO1.out.below hb)
            replace HS1 := Lib.hid (Nat.le_trans HS1.out hb.size)
            clear hb
            obtain ⟨n0, n1, n2, n3, n4, n5⟩ := HO1.out.na i HLi.out
            obtain ⟨s, hs⟩ : ∃ s, s = (l.map (killAt (dots.take k)))[i]'HLi.out := ⟨_, rfl⟩
            rw [← hs] at n0 n1 n2 n3 n4 n5
            clear hs
            have f0 := HO1.out.free (i * 6)
            have f1 := HO1.out.free (i * 6 + 1)
            have f2 := HO1.out.free (i * 6 + 2)
            have f3 := HO1.out.free (i * 6 + 3)
            have f4 := HO1.out.free (i * 6 + 4)
            have f5 := HO1.out.free (i * 6 + 5)
            have HO3 := Lib.hid (HO1.out.put HLi.out (killN ((t1, t2), (t3, t4), t5, t6)))
            rw [HKq.out] at HO3
            have HGl := Lib.hid (HO1.out.lt g rfl).1
            have HB3 := Lib.hid (putAt_below HB1.out (Nat.le_trans HB4.out HGl.out) (i * 6) (killN ((t1, t2), (t3, t4), t5, t6)))
            have HM3 := Lib.hid (HM1.out.kept (putAt_gb w7 g (i * 6) (killN ((t1, t2), (t3, t4), t5, t6))) (by have := HPl.out; have := HGl.out; simp; omega))
            have HS3 := Lib.hid (Nat.le_trans HS1.out (putAt_gb w7 g (i * 6) (killN ((t1, t2), (t3, t4), t5, t6))).size)
            clear HKt HKq HKi HVk HKs
            go_wp2_with fail
            go_roundw
            case rel => exact ⟨k + 1, by omega, by go_num, HB3, HS3, HM3, HPl, HO3, HVn⟩
            case measure => simp [intOf]; omega
        · obtain rfl : k = dots.length := by omega
          have hend : ¬ (dots.length : Int) < (dots.length : Int) := by omega
          have HKa : Hid (killS l dots = (l.map (killAt dots), 0)) := kill_all (fun d hd => by
            obtain ⟨j, hj, rfl⟩ := List.mem_iff_getElem.1 hd
            exact HV.out j hj hj)
          rw [List.take_length] at HO
          go_wp2_with fail
          go_ret2
          rw [HE2.out, HKa.out]
          exact ⟨_, rfl, HO.out.mono (fun k hk => Nat.le_trans HB4.out (HO.out.lt k hk).1), hh.out⟩
end Go.Proofs.Yteojbekkbgcmnab.Qs
