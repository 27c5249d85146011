/-
  The law JoinHolds.
-/
import Derived.Test.YtmdebedkljpagaaJnLA
namespace Go.Proofs.Ytmdebedkljpagaa.Jn
set_option linter.unusedVariables false
open Go.RowKit V Go.Sort D Nd Qs
attribute [local irreducible] Sch.heldN Sch.stepV Sch.stepE

/-- What the law says, plainly, of states that agree. -/
structure Ag2 (l m : List Nt) : Prop where
  j : joinP l m = (joinL l m, 0)
  jb : joinP m l = (joinL l m, 0)
  v : validS (joinL l m) = true
  i1 : inP l (joinL l m) = (true, 0)
  i2 : inP m (joinL l m) = (true, 0)
  jt : joinP (joinL l m) l = (joinL l m, 0)
  e1 : (inP l m).2 = 0
  e2 : (inP m l).2 = 0
  s : (inP l m).1 = true → (inP m l).1 = true → l = m
  d : ∀ x, x ∈ l ∨ x ∈ m → ∃ y, atS (joinL l m) x.1 = some y ∧ (x.2.2.2 = 0 → y.2.2.2 = 0)
theorem ag2_of {l m : List Nt} (hl : validS l = true) (hm : validS m = true) (h : agS l m = true) : Ag2 l m := by
  have hj := join_valid hl hm h
  have h2 : agS m l = true := by rw [ag_comm hm hl]; exact h
  have hp := join_part2 hl hm h
  have e1 := (joinP_yes hl hm h).2.2
  have e2 := (joinP_yes hm hl h2).2.2
  refine ⟨(joinP_yes hl hm h).1, ?_, hj, ?_, ?_, ?_, by rw [e1], by rw [e2], fun k1 k2 => ?_, fun x hx => join_dead hl hm h hx⟩
  · rw [(joinP_yes hm hl h2).1, join_comm hl hm h]
  · rw [(joinP_yes hl hj (ag_part hl hm h)).2.2, join_part hl hm h, decide_eq_true rfl]
  · rw [(joinP_yes hm hj hp.1).2.2, hp.2.1, decide_eq_true rfl]
  · rw [(joinP_yes hj hl hp.2.2.2).1, hp.2.2.1]
  · rw [e1] at k1
    rw [e2] at k2
    exact within_both hl hm h (of_decide_eq_true k1) (of_decide_eq_true k2)
structure Ag3 (T l m n : List Nt) : Prop where
  j1 : joinP m n = (joinL m n, 0)
  j2 : joinP l (joinL m n) = (joinL T n, 0)
  j3 : joinP T n = (joinL T n, 0)
  a1 : allS [l, m, n] = (joinL T n, 0)
  a2 : allS [n, m, m, l, n] = (joinL T n, 0)
theorem ag3_of {l m n : List Nt} (hl : validS l = true) (hm : validS m = true) (hn : validS n = true) (h1 : agS l m = true) (h2 : agS l n = true) (h3 : agS m n = true) : Ag3 (joinL l m) l m n := by
  have ha := join_assoc hl hm hn h1 h2 h3
  have hv : [l, m, n].all validS = true := by simp [hl, hm, hn]
  have hv2 : [n, m, m, l, n].all validS = true := by simp [hl, hm, hn]
  have hg : agsS [l, m, n] = true := by simp [agsS, h1, h2, h3]
  have e := (alls_yes hv hg).1
  have ej : joinsL [l, m, n] = joinL (joinL l m) n := by
    show joinL (joinL (joinL [] l) m) n = _
    rw [nil_join hl]
  rw [ej] at e
  refine ⟨(joinP_yes hm hn h3).1, ?_, (joinP_yes (join_valid hl hm h1) hn (ag_join hl hm hn h1 h2 h3)).1, e, ?_⟩
  · rw [(joinP_yes hl (join_valid hm hn h3) ha.2).1, ha.1]
  · rw [← e]
    refine alls_same hv2 hv fun a => ?_
    simp only [List.mem_cons, List.not_mem_nil, or_false]
    constructor <;> intro h <;> rcases h with h | h | h | h | h <;> simp_all
theorem ag3_no {l m n : List Nt} (hl : validS l = true) (hm : validS m = true) (hn : validS n = true) (h : (agS l n && agS m n) = false) : allS [l, m, n] = ([], 15) := by
  have hv : [l, m, n].all validS = true := by simp [hl, hm, hn]
  refine alls_no hv ?_
  simp only [agsS, List.all_cons, List.all_nil, Bool.and_true]
  cases h1 : agS l n
  · simp
  · rw [h1, Bool.true_and] at h
    rw [h]; simp
theorem mem5 {l m n : List Nt} {a b c : Option Addr} {ca cb cc : Nat} {x : Nt} (hx : x ∈ catS [(n, c, cc), (m, b, cb), (m, b, cb), (l, a, ca), (n, c, cc)]) : x ∈ l ∨ x ∈ m ∨ x ∈ n := by
  have hx2 : x ∈ n ∨ x ∈ m ∨ x ∈ m ∨ x ∈ l ∨ x ∈ n := by
    unfold catS at hx
    rw [List.mem_flatten] at hx
    obtain ⟨t, ht, hxt⟩ := hx
    simp only [List.map_cons, List.map_nil, List.mem_cons, List.not_mem_nil, or_false] at ht
    rcases ht with rfl | rfl | rfl | rfl | rfl <;> simp [hxt]
  rcases hx2 with h9 | h9 | h9 | h9 | h9 <;> simp [h9]
theorem self_p {l : List Nt} (hl : validS l = true) : joinP l l = (l, 0) ∧ inP l l = (true, 0) := by
  have h := joinP_yes hl hl (self_agS hl)
  rw [join_self hl, decide_eq_true rfl] at h
  exact ⟨h.1, h.2.2⟩
theorem find_at {T : List Nt} {d : Dt} {y : Nt} (h : atS T d = some y) : ∃ k, ∃ hk : k < T.length, idxS T d = (k : Int) ∧ T[k] = y := by
  rcases idx_eq (l := T) (d := d) with ⟨-, e⟩ | ⟨k, hk, e1, e2⟩
  · rw [h] at e; cases e
  · exact ⟨k, hk, e1, (Option.some.inj (h.symm.trans e2)).symm⟩
set_option maxRecDepth 100000 in
set_option maxHeartbeats 8000000 in
theorem holds_law (l m n : List Nt) (a b c : Option Addr) (ca cb cc : Nat) (w : World) (hX : Sl w a l.length ca l) (hY : Sl w b m.length cb m) (hC : Sl w c n.length cc n) (hf : ∀ x, x ∈ l ∨ x ∈ m ∨ x ∈ n → fitN x) :
    Calls Try.prog 7 #[.slice a l.length ca, .slice b m.length cb, .slice c n.length cc] w fun e w' => e = .returned (.bool true) ∧ Below w.heap.size w w' := by
  have HB := Lib.hid (Below.refl w.heap.size w)
  by_cases hbig : 40 < l.length
  · have hg : (40 : Int) < (l.length : Int) := by omega
    clear hX hY hC hbig hf
    go_enter Try.func7, Try.ntmps7
    go_wp2_with fail
    refine (known_any _).mono ?_
    rintro e w99 ⟨rfl, hb⟩
    replace HB := bel_tr HB hb
    clear hb
    go_wp2_with fail
    go_ret
    exact ⟨rfl, HB.out⟩
  by_cases hbig2 : 40 < m.length
  · have hg : ¬ (40 : Int) < (l.length : Int) := by omega
    have hg2 : (40 : Int) < (m.length : Int) := by omega
    clear hX hY hC hbig hbig2 hf
    go_enter Try.func7, Try.ntmps7
    go_wp2_with fail
    refine (known_any _).mono ?_
    rintro e w99 ⟨rfl, hb⟩
    replace HB := bel_tr HB hb
    clear hb
    go_wp2_with fail
    go_ret
    exact ⟨rfl, HB.out⟩
  by_cases hbig3 : 40 < n.length
  · have hg : ¬ (40 : Int) < (l.length : Int) := by omega
    have hg2 : ¬ (40 : Int) < (m.length : Int) := by omega
    have hg3 : (40 : Int) < (n.length : Int) := by omega
    clear hX hY hC hbig hbig2 hbig3 hf
    go_enter Try.func7, Try.ntmps7
    go_wp2_with fail
    refine (known_any _).mono ?_
    rintro e w99 ⟨rfl, hb⟩
    replace HB := bel_tr HB hb
    clear hb
    go_wp2_with fail
    go_ret
    exact ⟨rfl, HB.out⟩
  have hl1 : l.length ≤ 40 := by omega
  have hl2 : m.length ≤ 40 := by omega
  have hl3 : n.length ≤ 40 := by omega
  have hg : ¬ (40 : Int) < (l.length : Int) := by omega
  have hg2 : ¬ (40 : Int) < (m.length : Int) := by omega
  have hg3 : ¬ (40 : Int) < (n.length : Int) := by omega
  have HX := Lib.hid hX
  have HY := Lib.hid hY
  have HC := Lib.hid hC
  have HLx := Lib.hid hl1
  have HLy := Lib.hid hl2
  have HLn := Lib.hid hl3
  clear hX hY hC hbig hbig2 hbig3
  have HVl := Lib.hid (fun w h => jvalid_any l a ca w h (by omega))
  have HVm := Lib.hid (fun w h => jvalid_any m b cb w h (by omega))
  have HVn := Lib.hid (fun w h => jvalid_any n c cc w h (by omega))
  rcases hv1 : validS l with _ | _
  · rw [hv1] at HVl
    clear hl1 hl2 hl3 hv1 HVm HVn hf
    go_enter Try.func7, Try.ntmps7
    go_wp2_with fail
    refine (HVl.out _ HX.out.r).mono ?_
    rintro e w1 ⟨rfl, hb⟩
    replace HB := bel_tr HB hb
    replace HX := Lib.hid (HX.out.keep hb)
    replace HY := Lib.hid (HY.out.keep hb)
    replace HC := Lib.hid (HC.out.keep hb)
    clear hb
    go_wp2_with fail
    refine (known_any _).mono ?_
    rintro e w99 ⟨rfl, hb⟩
    replace HB := bel_tr HB hb
    clear hb
    go_wp2_with fail
    go_ret
    exact ⟨rfl, HB.out⟩
  rcases hv2 : validS m with _ | _
  · rw [hv1] at HVl
    rw [hv2] at HVm
    clear hl1 hl2 hl3 hv1 hv2 HVn hf
    go_enter Try.func7, Try.ntmps7
    go_wp2_with fail
    refine (HVl.out _ HX.out.r).mono ?_
    rintro e w1 ⟨rfl, hb⟩
    replace HB := bel_tr HB hb
    replace HX := Lib.hid (HX.out.keep hb)
    replace HY := Lib.hid (HY.out.keep hb)
    replace HC := Lib.hid (HC.out.keep hb)
    clear hb
    go_wp2_with fail
    refine (HVm.out _ HY.out.r).mono ?_
    rintro e w2 ⟨rfl, hb⟩
    replace HB := bel_tr HB hb
    replace HX := Lib.hid (HX.out.keep hb)
    replace HY := Lib.hid (HY.out.keep hb)
    replace HC := Lib.hid (HC.out.keep hb)
    clear hb
    go_wp2_with fail
    refine (known_any _).mono ?_
    rintro e w99 ⟨rfl, hb⟩
    replace HB := bel_tr HB hb
    clear hb
    go_wp2_with fail
    go_ret
    exact ⟨rfl, HB.out⟩
  rcases hv3 : validS n with _ | _
  · rw [hv1] at HVl
    rw [hv2] at HVm
    rw [hv3] at HVn
    clear hl1 hl2 hl3 hv1 hv2 hv3 hf
    go_enter Try.func7, Try.ntmps7
    go_wp2_with fail
    refine (HVl.out _ HX.out.r).mono ?_
    rintro e w1 ⟨rfl, hb⟩
    replace HB := bel_tr HB hb
    replace HX := Lib.hid (HX.out.keep hb)
    replace HY := Lib.hid (HY.out.keep hb)
    replace HC := Lib.hid (HC.out.keep hb)
    clear hb
    go_wp2_with fail
    refine (HVm.out _ HY.out.r).mono ?_
    rintro e w2 ⟨rfl, hb⟩
    replace HB := bel_tr HB hb
    replace HX := Lib.hid (HX.out.keep hb)
    replace HY := Lib.hid (HY.out.keep hb)
    replace HC := Lib.hid (HC.out.keep hb)
    clear hb
    go_wp2_with fail
    refine (HVn.out _ HC.out.r).mono ?_
    rintro e w3 ⟨rfl, hb⟩
    replace HB := bel_tr HB hb
    replace HX := Lib.hid (HX.out.keep hb)
    replace HY := Lib.hid (HY.out.keep hb)
    replace HC := Lib.hid (HC.out.keep hb)
    clear hb
    go_wp2_with fail
    refine (known_any _).mono ?_
    rintro e w99 ⟨rfl, hb⟩
    replace HB := bel_tr HB hb
    clear hb
    go_wp2_with fail
    go_ret
    exact ⟨rfl, HB.out⟩
  have HJ1 := Lib.hid (fun w (h : Sl w a l.length ca l) => joins_true l l l 0 (self_p hv1).1 a a ca ca w a ca h h (by omega) (by omega) h.r)
  have HW1 := Lib.hid (fun w h => within_true l l true 0 (self_p hv1).2 a a ca ca w h h (by omega) (by omega))
  have HJab := Lib.hid (fun w (h1 : Sl w a l.length ca l) (h2 : Sl w b m.length cb m) => join_any l m a b ca cb w h1.r h1.z h1.c h2.r h2.z h2.c (by omega) (by omega))
  rcases hag : agS l m with _ | _
  · have hp := joinP_clash hv1 hv2 hag
    rw [hp.1] at HJab
    have HJba := Lib.hid (fun w z cz h1 h2 h3 => joins_true m l [] 15 (joinP_clash hv2 hv1 (by rw [ag_comm hv2 hv1]; exact hag)).1 b a cb ca w z cz h1 h2 (by omega) (by omega) h3)
    rw [hv1] at HVl
    rw [hv2] at HVm
    rw [hv3] at HVn
    clear hl1 hl2 hl3 hv1 hv2 hv3 hag hp hf
    go_enter Try.func7, Try.ntmps7
    go_wp2_with fail
    refine (HVl.out _ HX.out.r).mono ?_
    rintro e w1 ⟨rfl, hb⟩
    replace HB := bel_tr HB hb
    replace HX := Lib.hid (HX.out.keep hb)
    replace HY := Lib.hid (HY.out.keep hb)
    replace HC := Lib.hid (HC.out.keep hb)
    clear hb
    go_wp2_with fail
    refine (HVm.out _ HY.out.r).mono ?_
    rintro e w2 ⟨rfl, hb⟩
    replace HB := bel_tr HB hb
    replace HX := Lib.hid (HX.out.keep hb)
    replace HY := Lib.hid (HY.out.keep hb)
    replace HC := Lib.hid (HC.out.keep hb)
    clear hb
    go_wp2_with fail
    refine (HVn.out _ HC.out.r).mono ?_
    rintro e w3 ⟨rfl, hb⟩
    replace HB := bel_tr HB hb
    replace HX := Lib.hid (HX.out.keep hb)
    replace HY := Lib.hid (HY.out.keep hb)
    replace HC := Lib.hid (HC.out.keep hb)
    clear hb
    go_wp2_with fail
    refine (HJ1.out _ HX.out).mono ?_
    rintro e w4 ⟨rfl, hb⟩
    replace HB := bel_tr HB hb
    replace HX := Lib.hid (HX.out.keep hb)
    replace HY := Lib.hid (HY.out.keep hb)
    replace HC := Lib.hid (HC.out.keep hb)
    clear hb
    go_wp2_with fail
    refine (HW1.out _ HX.out).mono ?_
    rintro e w5 ⟨rfl, hb⟩
    replace HB := bel_tr HB hb
    replace HX := Lib.hid (HX.out.keep hb)
    replace HY := Lib.hid (HY.out.keep hb)
    replace HC := Lib.hid (HC.out.keep hb)
    clear hb
    go_wp2_with fail
    refine (HJab.out _ HX.out HY.out).mono ?_
    rintro e w6 ⟨v1, rfl, ho, hb⟩
    replace HB := bel_tr HB hb
    replace HX := Lib.hid (HX.out.keep hb)
    replace HY := Lib.hid (HY.out.keep hb)
    replace HC := Lib.hid (HC.out.keep hb)
    obtain ⟨a1, c1, rfl, hsl⟩ := on_sl ho
    have HT := Lib.hid hsl
    clear hsl ho hb
    go_wp2_with fail
    refine (HJba.out _ _ _ HY.out HX.out HT.out.r).mono ?_
    rintro e w7 ⟨rfl, hb⟩
    replace HB := bel_tr HB hb
    replace HX := Lib.hid (HX.out.keep hb)
    replace HY := Lib.hid (HY.out.keep hb)
    replace HC := Lib.hid (HC.out.keep hb)
    replace HT := Lib.hid (HT.out.keep hb)
    clear hb
    go_wp2_with fail
    refine (known_any _).mono ?_
    rintro e w99 ⟨rfl, hb⟩
    replace HB := bel_tr HB hb
    clear hb
    go_wp2_with fail
    go_ret
    exact ⟨rfl, HB.out⟩
  have HP := Lib.hid (ag2_of hv1 hv2 hag)
  have HLt : Hid ((joinL l m).length ≤ 80) := by have := joinL_len l m; show _ ≤ _; omega
  rw [HP.out.j] at HJab
  have HJba := Lib.hid (fun w z cz h1 h2 h3 => joins_true m l (joinL l m) 0 HP.out.jb b a cb ca w z cz h1 h2 (by omega) (by omega) h3)
  have HVt := Lib.hid (fun a2 c2 w h => jvalid_any (joinL l m) a2 c2 w h (by have := HLt.out; omega))
  rw [HP.out.v] at HVt
  have HW2 := Lib.hid (fun a2 c2 w h1 h2 => within_true l (joinL l m) true 0 HP.out.i1 a a2 ca c2 w h1 h2 (by omega) (by have := HLt.out; omega))
  have HW3 := Lib.hid (fun a2 c2 w h1 h2 => within_true m (joinL l m) true 0 HP.out.i2 b a2 cb c2 w h1 h2 (by omega) (by have := HLt.out; omega))
  have HJ2 := Lib.hid (fun a2 c2 w (h1 : Sl w a2 (joinL l m).length c2 (joinL l m)) h2 => joins_true (joinL l m) l (joinL l m) 0 HP.out.jt a2 a c2 ca w a2 c2 h1 h2 (by have := HLt.out; omega) (by omega) h1.r)
  have HI1 := Lib.hid (fun w (h1 : Sl w a l.length ca l) (h2 : Sl w b m.length cb m) => within_any l m a b ca cb w h1.r h1.z h1.c h2.r h2.z h2.c (by omega) (by omega))
  have HI2 := Lib.hid (fun w (h2 : Sl w b m.length cb m) (h1 : Sl w a l.length ca l) => within_any m l b a cb ca w h2.r h2.z h2.c h1.r h1.z h1.c (by omega) (by omega))
  rw [HP.out.e1] at HI1
  rw [HP.out.e2] at HI2
  have HSm := Lib.hid (fun w (h1 : Sl w a l.length ca l) (h2 : Sl w b m.length cb m) => same_ref l m a b ca cb w h1.r h2.r (by omega) (by omega))
  have HSq := Lib.hid HP.out.s
  have HFd := Lib.hid (fun d a2 c2 w h => find_ref (joinL l m) d a2 c2 w h (by have := HLt.out; omega))
  have HDd := Lib.hid HP.out.d
  have HG1 := Lib.hid (fun w (h1 : Sl w a l.length ca l) (h2 : Sl w c n.length cc n) => agree_any l n a c ca cc w h1.r h1.z h1.c h2.r h2.z h2.c (by omega) (by omega))
  have HG2 := Lib.hid (fun w (h1 : Sl w b m.length cb m) (h2 : Sl w c n.length cc n) => agree_any m n b c cb cc w h1.r h1.z h1.c h2.r h2.z h2.c (by omega) (by omega))
  rw [show agP l n = (agS l n, 0) by unfold agP; rw [hv1, hv3]; rfl] at HG1
  rw [show agP m n = (agS m n, 0) by unfold agP; rw [hv2, hv3]; rfl] at HG2
  have HA0 : Hid ((agS l n && agS m n) = false → ∀ a2 c2 w, RowL w a2 [(l, a, ca), (m, b, cb), (n, c, cc)] → AllL w [(l, a, ca), (m, b, cb), (n, c, cc)] → Calls Try.prog 21 #[.slice a2 3 c2, .slice none 0 0, .int .i64 15] w fun e w' => e = .returned (.bool true) ∧ Below w.heap.size w w') :=
    fun h a2 c2 w h1 h2 => alls_true [(l, a, ca), (m, b, cb), (n, c, cc)] [] 15 (ag3_no hv1 hv2 hv3 h) a2 c2 w none 0 h1 h2 (by simp) (by simp [catS]; omega) (fun x hx => hf x (by simpa [catS] using hx)) (RowN.nil _ _) (by simp)
  have HU : Hid (agS l n = true → agS m n = true → Ag3 (joinL l m) l m n) := fun h1 h2 => ag3_of hv1 hv2 hv3 hag h1 h2
  have HLu : Hid ((joinL m n).length ≤ 80) := by have := joinL_len m n; show _ ≤ _; omega
  have HLg : Hid ((joinL (joinL l m) n).length ≤ 120) := by have := joinL_len (joinL l m) n; have := HLt.out; show _ ≤ _; omega
  have HF := Lib.hid hf
  rw [hv1] at HVl
  rw [hv2] at HVm
  rw [hv3] at HVn
  clear hl1 hl2 hl3 hv1 hv2 hv3 hag hf HP
  generalize inP l m = I1 at *
  generalize inP m l = I2 at *
  obtain ⟨q1, e1⟩ := I1
  obtain ⟨q2, e2⟩ := I2
  generalize joinL l m = T at *
  generalize hgx : agS l n = gx at *
  generalize hgy : agS m n = gy at *
  clear hgx hgy
  simp only at HI1 HI2 HSq
  go_enter Try.func7, Try.ntmps7
  go_wp2_with fail
  refine (HVl.out _ HX.out.r).mono ?_
  rintro e w1 ⟨rfl, hb⟩
  replace HB := bel_tr HB hb
  replace HX := Lib.hid (HX.out.keep hb)
  replace HY := Lib.hid (HY.out.keep hb)
  replace HC := Lib.hid (HC.out.keep hb)
  clear hb
  go_wp2_with fail
  refine (HVm.out _ HY.out.r).mono ?_
  rintro e w2 ⟨rfl, hb⟩
  replace HB := bel_tr HB hb
  replace HX := Lib.hid (HX.out.keep hb)
  replace HY := Lib.hid (HY.out.keep hb)
  replace HC := Lib.hid (HC.out.keep hb)
  clear hb
  go_wp2_with fail
  refine (HVn.out _ HC.out.r).mono ?_
  rintro e w3 ⟨rfl, hb⟩
  replace HB := bel_tr HB hb
  replace HX := Lib.hid (HX.out.keep hb)
  replace HY := Lib.hid (HY.out.keep hb)
  replace HC := Lib.hid (HC.out.keep hb)
  clear hb
  go_wp2_with fail
  refine (HJ1.out _ HX.out).mono ?_
  rintro e w4 ⟨rfl, hb⟩
  replace HB := bel_tr HB hb
  replace HX := Lib.hid (HX.out.keep hb)
  replace HY := Lib.hid (HY.out.keep hb)
  replace HC := Lib.hid (HC.out.keep hb)
  clear hb
  go_wp2_with fail
  refine (HW1.out _ HX.out).mono ?_
  rintro e w5 ⟨rfl, hb⟩
  replace HB := bel_tr HB hb
  replace HX := Lib.hid (HX.out.keep hb)
  replace HY := Lib.hid (HY.out.keep hb)
  replace HC := Lib.hid (HC.out.keep hb)
  clear hb
  go_wp2_with fail
  refine (HJab.out _ HX.out HY.out).mono ?_
  rintro e w6 ⟨v1, rfl, ho, hb⟩
  replace HB := bel_tr HB hb
  replace HX := Lib.hid (HX.out.keep hb)
  replace HY := Lib.hid (HY.out.keep hb)
  replace HC := Lib.hid (HC.out.keep hb)
  obtain ⟨a1, c1, rfl, hsl⟩ := on_sl ho
  have HT := Lib.hid hsl
  clear hsl ho hb
  go_wp2_with fail
  refine (HJba.out _ _ _ HY.out HX.out HT.out.r).mono ?_
  rintro e w7 ⟨rfl, hb⟩
  replace HB := bel_tr HB hb
  replace HX := Lib.hid (HX.out.keep hb)
  replace HY := Lib.hid (HY.out.keep hb)
  replace HC := Lib.hid (HC.out.keep hb)
  replace HT := Lib.hid (HT.out.keep hb)
  clear hb
  go_wp2_with fail
  refine (HVt.out _ _ _ HT.out.r).mono ?_
  rintro e w8 ⟨rfl, hb⟩
  replace HB := bel_tr HB hb
  replace HX := Lib.hid (HX.out.keep hb)
  replace HY := Lib.hid (HY.out.keep hb)
  replace HC := Lib.hid (HC.out.keep hb)
  replace HT := Lib.hid (HT.out.keep hb)
  clear hb
  go_wp2_with fail
  refine (HW2.out _ _ _ HX.out HT.out).mono ?_
  rintro e w9 ⟨rfl, hb⟩
  replace HB := bel_tr HB hb
  replace HX := Lib.hid (HX.out.keep hb)
  replace HY := Lib.hid (HY.out.keep hb)
  replace HC := Lib.hid (HC.out.keep hb)
  replace HT := Lib.hid (HT.out.keep hb)
  clear hb
  go_wp2_with fail
  refine (HW3.out _ _ _ HY.out HT.out).mono ?_
  rintro e w10 ⟨rfl, hb⟩
  replace HB := bel_tr HB hb
  replace HX := Lib.hid (HX.out.keep hb)
  replace HY := Lib.hid (HY.out.keep hb)
  replace HC := Lib.hid (HC.out.keep hb)
  replace HT := Lib.hid (HT.out.keep hb)
  clear hb
  go_wp2_with fail
  refine (HJ2.out _ _ _ HT.out HX.out).mono ?_
  rintro e w11 ⟨rfl, hb⟩
  replace HB := bel_tr HB hb
  replace HX := Lib.hid (HX.out.keep hb)
  replace HY := Lib.hid (HY.out.keep hb)
  replace HC := Lib.hid (HC.out.keep hb)
  replace HT := Lib.hid (HT.out.keep hb)
  clear hb
  go_wp2_with fail
  refine (HI1.out _ HX.out HY.out).mono ?_
  rintro e w12 ⟨rfl, hb⟩
  replace HB := bel_tr HB hb
  replace HX := Lib.hid (HX.out.keep hb)
  replace HY := Lib.hid (HY.out.keep hb)
  replace HC := Lib.hid (HC.out.keep hb)
  replace HT := Lib.hid (HT.out.keep hb)
  clear hb
  go_wp2_with fail
  refine (HI2.out _ HY.out HX.out).mono ?_
  rintro e w13 ⟨rfl, hb⟩
  replace HB := bel_tr HB hb
  replace HX := Lib.hid (HX.out.keep hb)
  replace HY := Lib.hid (HY.out.keep hb)
  replace HC := Lib.hid (HC.out.keep hb)
  replace HT := Lib.hid (HT.out.keep hb)
  clear hb
  go_upto_region 14 with fail
  go_cut [135] from 118 to 135 (fun s wx => s = .bool false ∧ Hid (Below w.heap.size w wx) ∧ Hid (Sl wx a l.length ca l) ∧ Hid (Sl wx b m.length cb m) ∧ Hid (Sl wx c n.length cc n) ∧ Hid (Sl wx a1 T.length c1 T))
  case first =>
    rcases q1 with _ | _
    · skip
      go_wp2_with fail
      go_meet
      case rel => exact ⟨rfl, HB, HX, HY, HC, HT⟩
    · rcases q2 with _ | _
      · skip
        go_wp2_with fail
        go_meet
        case rel => exact ⟨rfl, HB, HX, HY, HC, HT⟩
      · have hlm : l = m := HSq.out (by first | exact rfl | trivial) (by first | exact rfl | trivial)
        rw [decide_eq_true hlm] at HSm
        clear hlm
        go_wp2_with fail
        refine (HSm.out _ HX.out HY.out).mono ?_
        rintro e w30 ⟨rfl, hb⟩
        replace HB := bel_tr HB hb
        replace HX := Lib.hid (HX.out.keep hb)
        replace HY := Lib.hid (HY.out.keep hb)
        replace HC := Lib.hid (HC.out.keep hb)
        replace HT := Lib.hid (HT.out.keep hb)
        clear hb
        go_wp2_with fail
        go_meet
        case rel => exact ⟨rfl, HB, HX, HY, HC, HT⟩
  case rest =>
    obtain ⟨rfl, HB, HX, HY, HC, HT⟩ := hcut
    clear HSm HSq HI1 HI2 HJab HJba HVt HW1 HW2 HW3 HJ1 HJ2 HVl HVm HVn
    have hb := bel_box wc (.cells #[.slice a l.length ca, .slice b m.length cb] 23)
    have HQ : Hid (RowL (wc.alloc (.cells #[.slice a l.length ca, .slice b m.length cb] 23)) (some ⟨wc.heap.size, 0, none⟩) [(l, a, ca), (m, b, cb)]) := RowL.lit wc [(l, a, ca), (m, b, cb)] _ _ _ rfl
    have HQa : Hid (AllL (wc.alloc (.cells #[.slice a l.length ca, .slice b m.length cb] 23)) [(l, a, ca), (m, b, cb)]) := by
      intro x hx
      simp only [List.mem_cons, List.not_mem_nil, or_false] at hx
      rcases hx with rfl | rfl
      · exact HX.out.keep hb
      · exact HY.out.keep hb
    replace HB := bel_tr HB hb
    replace HX := Lib.hid (HX.out.keep hb)
    replace HY := Lib.hid (HY.out.keep hb)
    replace HC := Lib.hid (HC.out.keep hb)
    replace HT := Lib.hid (HT.out.keep hb)
    clear hb
    have HDp : Hid (∀ p ∈ ([(l, a, ca), (m, b, cb)] : List S3), ∀ x ∈ p.1, ∃ y, atS T x.1 = some y ∧ (x.2.2.2 = 0 → y.2.2.2 = 0)) := by
      intro p hp x hx
      simp only [List.mem_cons, List.not_mem_nil, or_false] at hp
      rcases hp with rfl | rfl
      · exact HDd.out x (.inl hx)
      · exact HDd.out x (.inr hx)
    have HPl : Hid (∀ p ∈ ([(l, a, ca), (m, b, cb)] : List S3), p.1.length ≤ 40) := by
      intro p hp
      simp only [List.mem_cons, List.not_mem_nil, or_false] at hp
      rcases hp with rfl | rfl
      · exact HLx.out
      · exact HLy.out
    have HS2 : Hid (([(l, a, ca), (m, b, cb)] : List S3).length = 2) := rfl
    go_wp2_with fail
    generalize wc.alloc (.cells #[.slice a l.length ca, .slice b m.length cb] 23) = w40 at *
    generalize wc.heap.size = r at *
    generalize ([(l, a, ca), (m, b, cb)] : List S3) = S2 at *
    go_loopw [13, 14, 15, 140] (fun _ _ _ idx wr => ∃ j : Nat, j ≤ 2 ∧ idx = .int .i64 (j : Int) ∧ Hid (Below w40.heap.size w40 wr)) (fun _ _ _ idx _ => 2 - (intOf idx).toNat)
    case atStart => exact ⟨0, by omega, rfl, Below.refl _ _⟩
    case round =>
      obtain ⟨j, hj, rfl, hh⟩ := hrel
      by_cases hlt : j < 2
      · have hi0 : (j : Int) < 2 := by omega
        have hj2 : j < S2.length := by have := HS2.out; omega
        obtain ⟨b9, o9, e9, hc9⟩ := (HQ.out.keep hh.out).get j hj2
        cases e9
        have hix := ixL r 0 2 2 j (j : Int) rfl hlt
        simp only [Nat.zero_add] at hix hc9
        have HPs := Lib.hid (HQa.out S2[j] (List.getElem_mem hj2))
        have HPd := Lib.hid (HDp.out S2[j] (List.getElem_mem hj2))
        have HPn := Lib.hid (HPl.out S2[j] (List.getElem_mem hj2))
        obtain ⟨p, hp⟩ : ∃ p, p = S2[j] := ⟨_, rfl⟩
        rw [← hp] at hc9 HPs HPd HPn
        clear hp hj2
        obtain ⟨pl, pa, pc⟩ := p
        simp only at hc9 HPs HPd HPn
        have hpl : (pl.length : Int) ≤ 40 := by have := HPn.out; omega
        go_wp2_with fail
        clear hc9 hix
        go_loopw [14, 15] (fun i _ wr2 => ∃ k : Nat, k ≤ pl.length ∧ i = .int .i64 (k : Int) ∧ Hid (Below w40.heap.size w40 wr2)) (fun i _ _ => pl.length - (intOf i).toNat)
        case atStart => exact ⟨0, Nat.zero_le _, rfl, hh⟩
        case round =>
          clear hh
          obtain ⟨k, hk, rfl, hh⟩ := hrel
          by_cases hkt : k < pl.length
          · have hk0 : (k : Int) < (pl.length : Int) := by omega
            obtain ⟨bx, ox, rfl, hnx⟩ := na_of (HPs.out.keep hh.out).r k hkt
            have hixp := ixS bx ox pl.length pc k (k : Int) rfl hkt
            have HTr := Lib.hid (HT.out.keep hh.out)
            obtain ⟨y, hy, hyd⟩ := HPd.out pl[k] (List.getElem_mem hkt)
            obtain ⟨x, hx⟩ : ∃ x, x = pl[k] := ⟨_, rfl⟩
            rw [← hx] at hnx hy hyd
            clear hx
            have HN := Lib.hid hnx
            have HYd := Lib.hid hyd
            obtain ⟨k2, hk2, hi2, hty⟩ := find_at hy
            have HFx := Lib.hid (HFd.out x.1 a1 c1)
            rw [hi2] at HFx
            have HTy := Lib.hid hty
            obtain ⟨x0, x1, -⟩ := hnx
            clear hy hyd hi2 hty
            have hk2n : ¬ (k2 : Int) < 0 := by omega
            go_wp2_with fail
            refine (HFx.out _ HTr.out.r).mono ?_
            rintro e w41 ⟨rfl, hb⟩
            have hh2 := bel_tr hh hb
            have HN2 := Lib.hid (HN.out.keep hb)
            obtain ⟨bt, ot, hat, hnt⟩ := na_of (HTr.out.keep hb).r k2 hk2
            subst hat
            rw [HTy.out] at hnt
            have hixt := ixS bt ot T.length c1 k2 (k2 : Int) rfl hk2
            obtain ⟨-, -, -, -, -, x5⟩ := HN2.out
            obtain ⟨-, -, -, -, -, y5⟩ := hnt
            clear hb HFx x0 x1 HN HTr
            obtain ⟨xr, hxr⟩ : ∃ xr, xr = x.2.2.2 := ⟨_, rfl⟩
            obtain ⟨yr, hyr⟩ : ∃ yr, yr = y.2.2.2 := ⟨_, rfl⟩
            rw [← hxr] at x5 HYd
            rw [← hyr] at y5 HYd
            clear hxr hyr
            by_cases hx0 : xr = 0
            · have hy0 : yr = 0 := HYd.out hx0
              subst hx0
              subst hy0
              go_wp2_with fail
              go_roundw
              case rel => exact ⟨k + 1, by omega, by go_num, hh2⟩
              case measure => simp [intOf]; omega
            · have hq : (xr == 0) = false := by simpa using hx0
              clear hx0 HYd
              go_wp2_with fail
              go_roundw
              case rel => exact ⟨k + 1, by omega, by go_num, hh2⟩
              case measure => simp [intOf]; omega
          · have hkend : ¬ (k : Int) < (pl.length : Int) := by omega
            go_wp2_with fail
            go_roundw
            case rel => exact ⟨j + 1, by omega, by go_num, hh⟩
            case measure => simp [intOf]; omega
      · have hjend : ¬ (j : Int) < 2 := by omega
        replace HB := bel_tr HB hh.out
        replace HX := Lib.hid (HX.out.keep hh.out)
        replace HY := Lib.hid (HY.out.keep hh.out)
        replace HC := Lib.hid (HC.out.keep hh.out)
        replace HT := Lib.hid (HT.out.keep hh.out)
        clear HQ HQa HDp HPl HS2 hh
        go_wp2_with fail
        rcases gx with _ | _
        · have h0 : (false && gy) = false := rfl
          clear HU
          refine (HG1.out _ HX.out HC.out).mono ?_
          rintro e w51 ⟨rfl, hb⟩
          replace HB := bel_tr HB hb
          replace HX := Lib.hid (HX.out.keep hb)
          replace HY := Lib.hid (HY.out.keep hb)
          replace HC := Lib.hid (HC.out.keep hb)
          replace HT := Lib.hid (HT.out.keep hb)
          clear hb
          go_wp2_with fail
          refine (HG2.out _ HY.out HC.out).mono ?_
          rintro e w52 ⟨rfl, hb⟩
          replace HB := bel_tr HB hb
          replace HX := Lib.hid (HX.out.keep hb)
          replace HY := Lib.hid (HY.out.keep hb)
          replace HC := Lib.hid (HC.out.keep hb)
          replace HT := Lib.hid (HT.out.keep hb)
          clear hb
          go_wp2_with fail
          have hb := bel_box w52 (.cells #[.slice a l.length ca, .slice b m.length cb, .slice c n.length cc] 23)
          have HQ : Hid (RowL (w52.alloc (.cells #[.slice a l.length ca, .slice b m.length cb, .slice c n.length cc] 23)) (some ⟨w52.heap.size, 0, none⟩) [(l, a, ca), (m, b, cb), (n, c, cc)]) := RowL.lit w52 [(l, a, ca), (m, b, cb), (n, c, cc)] _ _ _ rfl
          have HQa : Hid (AllL (w52.alloc (.cells #[.slice a l.length ca, .slice b m.length cb, .slice c n.length cc] 23)) [(l, a, ca), (m, b, cb), (n, c, cc)]) := by
            intro x hx
            simp only [List.mem_cons, List.not_mem_nil, or_false] at hx
            rcases hx with rfl | rfl | rfl
            · exact HX.out.keep hb
            · exact HY.out.keep hb
            · exact HC.out.keep hb
          replace HB := bel_tr HB hb
          replace HX := Lib.hid (HX.out.keep hb)
          replace HY := Lib.hid (HY.out.keep hb)
          replace HC := Lib.hid (HC.out.keep hb)
          replace HT := Lib.hid (HT.out.keep hb)
          clear hb
          go_wp2_with fail
          generalize w52.alloc (.cells #[.slice a l.length ca, .slice b m.length cb, .slice c n.length cc] 23) = w60 at *
          generalize w52.heap.size = rw60 at *
          refine (HA0.out h0 _ _ _ HQ.out HQa.out).mono ?_
          rintro e w53 ⟨rfl, hb⟩
          replace HB := bel_tr HB hb
          replace HX := Lib.hid (HX.out.keep hb)
          replace HY := Lib.hid (HY.out.keep hb)
          replace HC := Lib.hid (HC.out.keep hb)
          replace HT := Lib.hid (HT.out.keep hb)
          clear hb HQ HQa
          go_wp2_with fail
          refine (known_any _).mono ?_
          rintro e w99 ⟨rfl, hb⟩
          replace HB := bel_tr HB hb
          clear hb
          go_wp2_with fail
          go_ret
          exact ⟨rfl, HB.out⟩
        rcases gy with _ | _
        · have h0 : (true && false) = false := rfl
          clear HU
          refine (HG1.out _ HX.out HC.out).mono ?_
          rintro e w51 ⟨rfl, hb⟩
          replace HB := bel_tr HB hb
          replace HX := Lib.hid (HX.out.keep hb)
          replace HY := Lib.hid (HY.out.keep hb)
          replace HC := Lib.hid (HC.out.keep hb)
          replace HT := Lib.hid (HT.out.keep hb)
          clear hb
          go_wp2_with fail
          refine (HG2.out _ HY.out HC.out).mono ?_
          rintro e w52 ⟨rfl, hb⟩
          replace HB := bel_tr HB hb
          replace HX := Lib.hid (HX.out.keep hb)
          replace HY := Lib.hid (HY.out.keep hb)
          replace HC := Lib.hid (HC.out.keep hb)
          replace HT := Lib.hid (HT.out.keep hb)
          clear hb
          go_wp2_with fail
          have hb := bel_box w52 (.cells #[.slice a l.length ca, .slice b m.length cb, .slice c n.length cc] 23)
          have HQ : Hid (RowL (w52.alloc (.cells #[.slice a l.length ca, .slice b m.length cb, .slice c n.length cc] 23)) (some ⟨w52.heap.size, 0, none⟩) [(l, a, ca), (m, b, cb), (n, c, cc)]) := RowL.lit w52 [(l, a, ca), (m, b, cb), (n, c, cc)] _ _ _ rfl
          have HQa : Hid (AllL (w52.alloc (.cells #[.slice a l.length ca, .slice b m.length cb, .slice c n.length cc] 23)) [(l, a, ca), (m, b, cb), (n, c, cc)]) := by
            intro x hx
            simp only [List.mem_cons, List.not_mem_nil, or_false] at hx
            rcases hx with rfl | rfl | rfl
            · exact HX.out.keep hb
            · exact HY.out.keep hb
            · exact HC.out.keep hb
          replace HB := bel_tr HB hb
          replace HX := Lib.hid (HX.out.keep hb)
          replace HY := Lib.hid (HY.out.keep hb)
          replace HC := Lib.hid (HC.out.keep hb)
          replace HT := Lib.hid (HT.out.keep hb)
          clear hb
          go_wp2_with fail
          generalize w52.alloc (.cells #[.slice a l.length ca, .slice b m.length cb, .slice c n.length cc] 23) = w60 at *
          generalize w52.heap.size = rw60 at *
          refine (HA0.out h0 _ _ _ HQ.out HQa.out).mono ?_
          rintro e w53 ⟨rfl, hb⟩
          replace HB := bel_tr HB hb
          replace HX := Lib.hid (HX.out.keep hb)
          replace HY := Lib.hid (HY.out.keep hb)
          replace HC := Lib.hid (HC.out.keep hb)
          replace HT := Lib.hid (HT.out.keep hb)
          clear hb HQ HQa
          go_wp2_with fail
          refine (known_any _).mono ?_
          rintro e w99 ⟨rfl, hb⟩
          replace HB := bel_tr HB hb
          clear hb
          go_wp2_with fail
          go_ret
          exact ⟨rfl, HB.out⟩
        have HU3 := Lib.hid (HU.out (by first | exact rfl | trivial) (by first | exact rfl | trivial))
        have HJbc := Lib.hid (fun w (h1 : Sl w b m.length cb m) (h2 : Sl w c n.length cc n) => join_any m n b c cb cc w h1.r h1.z h1.c h2.r h2.z h2.c (by have := HLy.out; omega) (by have := HLn.out; omega))
        rw [HU3.out.j1] at HJbc
        have HJau := Lib.hid (fun a2 c2 w (h1 : Sl w a l.length ca l) (h2 : Sl w a2 (joinL m n).length c2 (joinL m n)) => join_any l (joinL m n) a a2 ca c2 w h1.r h1.z h1.c h2.r h2.z h2.c (by have := HLx.out; omega) (by have := HLu.out; omega))
        rw [HU3.out.j2] at HJau
        have HJ3 := Lib.hid (fun a2 c2 w z cz h1 h2 h3 => joins_true T n (joinL T n) 0 HU3.out.j3 a2 c c2 cc w z cz h1 h2 (by have := HLt.out; omega) (by have := HLn.out; omega) h3)
        have HA1 := Lib.hid (fun a2 c2 w z cz h1 h2 h3 => alls_true [(l, a, ca), (m, b, cb), (n, c, cc)] (joinL T n) 0 HU3.out.a1 a2 c2 w z cz h1 h2 (by simp) (by have := HLx.out; have := HLy.out; have := HLn.out; simp [catS]; omega) (fun x hx => HF.out x (by simpa [catS] using hx)) h3 (by have := HLg.out; omega))
        have HA2 := Lib.hid (fun a2 c2 w z cz h1 h2 h3 => alls_true [(n, c, cc), (m, b, cb), (m, b, cb), (l, a, ca), (n, c, cc)] (joinL T n) 0 HU3.out.a2 a2 c2 w z cz h1 h2 (by simp) (by have := HLx.out; have := HLy.out; have := HLn.out; simp [catS]; omega) (fun x hx => HF.out x (mem5 hx)) h3 (by have := HLg.out; omega))
        clear HU HU3 HA0
        generalize joinL m n = U at *
        generalize joinL T n = G at *
        refine (HG1.out _ HX.out HC.out).mono ?_
        rintro e w51 ⟨rfl, hb⟩
        replace HB := bel_tr HB hb
        replace HX := Lib.hid (HX.out.keep hb)
        replace HY := Lib.hid (HY.out.keep hb)
        replace HC := Lib.hid (HC.out.keep hb)
        replace HT := Lib.hid (HT.out.keep hb)
        clear hb
        go_wp2_with fail
        refine (HG2.out _ HY.out HC.out).mono ?_
        rintro e w52 ⟨rfl, hb⟩
        replace HB := bel_tr HB hb
        replace HX := Lib.hid (HX.out.keep hb)
        replace HY := Lib.hid (HY.out.keep hb)
        replace HC := Lib.hid (HC.out.keep hb)
        replace HT := Lib.hid (HT.out.keep hb)
        clear hb
        go_wp2_with fail
        refine (HJbc.out _ HY.out HC.out).mono ?_
        rintro e w53 ⟨v2, rfl, ho, hb⟩
        replace HB := bel_tr HB hb
        replace HX := Lib.hid (HX.out.keep hb)
        replace HY := Lib.hid (HY.out.keep hb)
        replace HC := Lib.hid (HC.out.keep hb)
        replace HT := Lib.hid (HT.out.keep hb)
        obtain ⟨a2, c2, rfl, hsl⟩ := on_sl ho
        have HUr := Lib.hid hsl
        clear hsl ho hb
        go_wp2_with fail
        refine (HJau.out _ _ _ HX.out HUr.out).mono ?_
        rintro e w54 ⟨v3, rfl, ho, hb⟩
        replace HB := bel_tr HB hb
        replace HX := Lib.hid (HX.out.keep hb)
        replace HY := Lib.hid (HY.out.keep hb)
        replace HC := Lib.hid (HC.out.keep hb)
        replace HT := Lib.hid (HT.out.keep hb)
        replace HUr := Lib.hid (HUr.out.keep hb)
        obtain ⟨a3, c3, rfl, hsl⟩ := on_sl ho
        have HGr := Lib.hid hsl
        clear hsl ho hb
        go_wp2_with fail
        refine (HJ3.out _ _ _ _ _ HT.out HC.out HGr.out.r).mono ?_
        rintro e w55 ⟨rfl, hb⟩
        replace HB := bel_tr HB hb
        replace HX := Lib.hid (HX.out.keep hb)
        replace HY := Lib.hid (HY.out.keep hb)
        replace HC := Lib.hid (HC.out.keep hb)
        replace HT := Lib.hid (HT.out.keep hb)
        replace HUr := Lib.hid (HUr.out.keep hb)
        replace HGr := Lib.hid (HGr.out.keep hb)
        clear hb
        go_wp2_with fail
        have hb := bel_box w55 (.cells #[.slice a l.length ca, .slice b m.length cb, .slice c n.length cc] 23)
        have HQ : Hid (RowL (w55.alloc (.cells #[.slice a l.length ca, .slice b m.length cb, .slice c n.length cc] 23)) (some ⟨w55.heap.size, 0, none⟩) [(l, a, ca), (m, b, cb), (n, c, cc)]) := RowL.lit w55 [(l, a, ca), (m, b, cb), (n, c, cc)] _ _ _ rfl
        have HQa : Hid (AllL (w55.alloc (.cells #[.slice a l.length ca, .slice b m.length cb, .slice c n.length cc] 23)) [(l, a, ca), (m, b, cb), (n, c, cc)]) := by
          intro x hx
          simp only [List.mem_cons, List.not_mem_nil, or_false] at hx
          rcases hx with rfl | rfl | rfl
          · exact HX.out.keep hb
          · exact HY.out.keep hb
          · exact HC.out.keep hb
        replace HB := bel_tr HB hb
        replace HX := Lib.hid (HX.out.keep hb)
        replace HY := Lib.hid (HY.out.keep hb)
        replace HC := Lib.hid (HC.out.keep hb)
        replace HT := Lib.hid (HT.out.keep hb)
        replace HUr := Lib.hid (HUr.out.keep hb)
        replace HGr := Lib.hid (HGr.out.keep hb)
        clear hb
        go_wp2_with fail
        generalize w55.alloc (.cells #[.slice a l.length ca, .slice b m.length cb, .slice c n.length cc] 23) = w70 at *
        generalize w55.heap.size = rw70 at *
        refine (HA1.out _ _ _ _ _ HQ.out HQa.out HGr.out.r).mono ?_
        rintro e w56 ⟨rfl, hb⟩
        replace HB := bel_tr HB hb
        replace HX := Lib.hid (HX.out.keep hb)
        replace HY := Lib.hid (HY.out.keep hb)
        replace HC := Lib.hid (HC.out.keep hb)
        replace HT := Lib.hid (HT.out.keep hb)
        replace HUr := Lib.hid (HUr.out.keep hb)
        replace HGr := Lib.hid (HGr.out.keep hb)
        clear hb HQ HQa
        go_wp2_with fail
        have hb := bel_box w56 (.cells #[.slice c n.length cc, .slice b m.length cb, .slice b m.length cb, .slice a l.length ca, .slice c n.length cc] 23)
        have HQ : Hid (RowL (w56.alloc (.cells #[.slice c n.length cc, .slice b m.length cb, .slice b m.length cb, .slice a l.length ca, .slice c n.length cc] 23)) (some ⟨w56.heap.size, 0, none⟩) [(n, c, cc), (m, b, cb), (m, b, cb), (l, a, ca), (n, c, cc)]) := RowL.lit w56 [(n, c, cc), (m, b, cb), (m, b, cb), (l, a, ca), (n, c, cc)] _ _ _ rfl
        have HQa : Hid (AllL (w56.alloc (.cells #[.slice c n.length cc, .slice b m.length cb, .slice b m.length cb, .slice a l.length ca, .slice c n.length cc] 23)) [(n, c, cc), (m, b, cb), (m, b, cb), (l, a, ca), (n, c, cc)]) := by
          intro x hx
          simp only [List.mem_cons, List.not_mem_nil, or_false] at hx
          rcases hx with rfl | rfl | rfl | rfl | rfl
          · exact HC.out.keep hb
          · exact HY.out.keep hb
          · exact HY.out.keep hb
          · exact HX.out.keep hb
          · exact HC.out.keep hb
        replace HB := bel_tr HB hb
        replace HX := Lib.hid (HX.out.keep hb)
        replace HY := Lib.hid (HY.out.keep hb)
        replace HC := Lib.hid (HC.out.keep hb)
        replace HT := Lib.hid (HT.out.keep hb)
        replace HUr := Lib.hid (HUr.out.keep hb)
        replace HGr := Lib.hid (HGr.out.keep hb)
        clear hb
        go_wp2_with fail
        generalize w56.alloc (.cells #[.slice c n.length cc, .slice b m.length cb, .slice b m.length cb, .slice a l.length ca, .slice c n.length cc] 23) = w80 at *
        generalize w56.heap.size = rw80 at *
        refine (HA2.out _ _ _ _ _ HQ.out HQa.out HGr.out.r).mono ?_
        rintro e w57 ⟨rfl, hb⟩
        replace HB := bel_tr HB hb
        replace HX := Lib.hid (HX.out.keep hb)
        replace HY := Lib.hid (HY.out.keep hb)
        replace HC := Lib.hid (HC.out.keep hb)
        replace HT := Lib.hid (HT.out.keep hb)
        replace HUr := Lib.hid (HUr.out.keep hb)
        replace HGr := Lib.hid (HGr.out.keep hb)
        clear hb HQ HQa
        go_wp2_with fail
        refine (known_any _).mono ?_
        rintro e w99 ⟨rfl, hb⟩
        replace HB := bel_tr HB hb
        clear hb
        go_wp2_with fail
        go_ret
        exact ⟨rfl, HB.out⟩
end Go.Proofs.Ytmdebedkljpagaa.Jn
