/-
  The law IndexParts.
-/
import Derived.Test.YteojbekkbgcmnabIxKn
import Derived.Test.YteojbekkbgcmnabIxQ
import Derived.Test.YteojbekkbgcmnabMQAsk
import Derived.Test.YteojbekkbgcmnabMDRefB
namespace Go.Proofs.Yteojbekkbgcmnab.Un
set_option linter.unusedVariables false
open Go.RowKit V Go.Shelf Go.Sort D Nd Qs Wk Ix
attribute [local irreducible] Sch.heldN Sch.stepV Sch.stepE

theorem cut_midD (a : Option Addr) (len cap m n : Nat) (hmn : m ≤ n) (hn : n ≤ len) (hlc : len ≤ cap) : ∀ wx : World,
    (Instr.slice 45 (.slice a len cap) (some (.int .i64 (m : Int))) (some (.int .i64 (n : Int))) none).run Try.prog wx = .ok (.slice (off a cap m) (n - m) (cap - m)) wx := by
  obtain ⟨i, hi, hz0, hz1, hz2⟩ := G.info_of infoD
  intro wx
  have h1 : (Instr.sliceBound (.int .i64 (n : Int)) cap .sliceAcap).run Try.prog wx = .ok n wx := by
    rw [run_sliceBound _ _ _ _ _ (by omega) (by omega)]; rfl
  have h2 : (Instr.sliceBound (.int .i64 (m : Int)) n .sliceB).run Try.prog wx = .ok m wx := by
    rw [run_sliceBound _ _ _ _ _ (by omega) (by omega)]; rfl
  simp [Instr.slice, run_underlying Try.underlying45, Instr.sliceBounds, h1, h2, Result.andThen, sizeOf, typeInfo, hi, hz1, off]
set_option maxRecDepth 100000 in
set_option maxHeartbeats 16000000 in
theorem parts_law (l : List Nt) (i f t : Int) (a : Option Addr) (c : Nat) (w : World) (hi : ∀ x ∈ l, i32 x.2.2.2) (hx : RowN w a l) :
    Calls Try.prog 5 #[.slice a l.length c, .int .i64 i, .int .i64 f, .int .i64 t] w fun e w' => e = .returned (.bool true) ∧ Below w.heap.size w w' := by
  by_cases hbig : 40 < l.length
  · have HB := Lib.hid (Below.refl w.heap.size w)
    have hg : (40 : Int) < (l.length : Int) := by omega
    go_enter Try.func5, Try.ntmps5
    go_wp2_with fail
    refine (knownI_any _).mono ?_
    rintro e w99 ⟨rfl, hb⟩
    replace HB := Lib.hid (bel_tr HB.out hb)
    clear hb
    go_wp2_with fail
    go_ret
    exact ⟨rfl, HB.out⟩
  have HB := Lib.hid (bel_box w (.cells #[.int .i64 0, .int .i64 0] 34))
  have hle : l.length ≤ 40 := by omega
  have hng : ¬ (40 : Int) < (l.length : Int) := by omega
  have HD : Hid (Bd (w.alloc (.cells #[.int .i64 0, .int .i64 0] 34)) w.heap.size (0, 0)) := bd_new w (0, 0)
  have HX := Lib.hid (hx.keep HB.out)
  have HLe := Lib.hid hle
  have HVl := Lib.hid (fun w h => validS_ref l a c w hi h (by omega))
  rcases hv : validS l with _ | _
  · rw [hv] at HVl
    have HS := Lib.hid (fun w h => left_true l i (0, 0) 2 a c w h (by omega) (left_no hv i))
    have HF := Lib.hid (fun w h => dotsI_true l f t [] 2 a none c 0 w h (by omega) (idots_no hv f t) (.inl rfl) (by decide))
    clear hv hbig hi hx hle
    go_enter Try.func5, Try.ntmps5
    go_wp2_with fail
    generalize w.alloc (.cells #[.int .i64 0, .int .i64 0] 34) = w1 at *
    refine (HVl.out _ HX.out).mono ?_
    rintro e w11 ⟨rfl, hb⟩
    replace HB := Lib.hid (bel_tr HB.out hb)
    replace HX := Lib.hid (HX.out.keep hb)
    replace HD := Lib.hid (HD.out.keep hb)
    clear hb
    have c0 := HD.out.c0
    have c1 := HD.out.c1
    go_wp2_with fail
    refine (HS.out _ HX.out).mono ?_
    rintro e w12 ⟨rfl, hb⟩
    replace HB := Lib.hid (bel_tr HB.out hb)
    replace HX := Lib.hid (HX.out.keep hb)
    clear hb
    clear c0 c1
    go_wp2_with fail
    refine (HF.out _ HX.out).mono ?_
    rintro e w13 ⟨rfl, hb⟩
    replace HB := Lib.hid (bel_tr HB.out hb)
    clear hb
    go_wp2_with fail
    refine (knownI_any _).mono ?_
    rintro e w99 ⟨rfl, hb⟩
    replace HB := Lib.hid (bel_tr HB.out hb)
    clear hb
    go_wp2_with fail
    go_ret
    exact ⟨rfl, HB.out⟩
  rw [hv] at HVl
  have HAr := Lib.hid (fun w h => dotsR_ref l hv (by omega) a c w h)
  have HAn : Hid ((idotsS l).length ≤ 40) := by have := vis_len hv; rw [← idots_len l] at this; show _ ≤ _; omega
  have HSo := Lib.hid (fun h w hh => left_true l i (0, 0) 3 a c w hh (by omega) (left_out hv (i := i) h))
  have HS0 := Lib.hid (fun w hh => left_true l 0 (0, 0) 0 a c w hh (by omega) (left_in0 hv))
  have HSi := Lib.hid (fun (k : Nat) (h : k < (idotsS l).length) w hh => left_true l ((k : Int) + 1) (idotsS l)[k] 0 a c w hh (by omega) (left_in hv (k := k) h))
  have HFo := Lib.hid (fun h w hh => dotsI_true l f t [] 3 a none c 0 w hh (by omega) (idots_out hv (i := f) (j := t) h) (.inl rfl) (by decide))
  have HFi := Lib.hid (fun (m n : Nat) (h : m ≤ n) (h2 : n ≤ (idotsS l).length) b d w hh hr => dotsI_true l (m : Int) (n : Int) (((idotsS l).drop m).take (n - m)) 0 a b c d w hh (by omega) (idots_in hv h h2) hr (by have := HAn.out; rw [List.length_take, List.length_drop]; omega))
  have HLt : Hid (∀ m n : Nat, n ≤ (idotsS l).length → (((idotsS l).drop m).take (n - m)).length = n - m) := fun m n h => by rw [List.length_take, List.length_drop]; omega
  clear hv hbig hi hx hle
  generalize idotsS l = V at *
  go_enter Try.func5, Try.ntmps5
  go_wp2_with fail
  generalize hw1 : w.alloc (.cells #[.int .i64 0, .int .i64 0] 34) = w1 at *
  clear hw1
  refine (HVl.out _ HX.out).mono ?_
  rintro e w14 ⟨rfl, hb⟩
  replace HB := Lib.hid (bel_tr HB.out hb)
  replace HX := Lib.hid (HX.out.keep hb)
  replace HD := Lib.hid (HD.out.keep hb)
  clear hb
  go_wp2_with fail
  refine (HAr.out _ HX.out).mono ?_
  rintro e w6 ⟨v6, rfl, ho, hb⟩
  obtain ⟨a6, c6, rfl, hr6, -, hlc, -⟩ := OD.row ho
  have HW := Lib.hid hr6
  have HLc := Lib.hid hlc
  replace HB := Lib.hid (bel_tr HB.out hb)
  replace HX := Lib.hid (HX.out.keep hb)
  replace HD := Lib.hid (HD.out.keep hb)
  clear ho hb hr6 hlc HAr HVl
  have hvn : (V.length : Int) ≤ 40 := by have := HAn.out; omega
  have c0 := HD.out.c0
  have c1 := HD.out.c1
  have hb := bel_box w6 (.cells #[.int .i64 0, .int .i64 0] 34)
  have HZ : Hid (Bd (w6.alloc (.cells #[.int .i64 0, .int .i64 0] 34)) w6.heap.size (0, 0)) := bd_new w6 (0, 0)
  have HB0 := HB
  have HX6 := HX
  have HW6 := HW
  replace HB := Lib.hid (bel_tr HB.out hb)
  replace HX := Lib.hid (HX.out.keep hb)
  replace HW := Lib.hid (HW.out.keep hb)
  have HGe : Hid (w.heap.size ≤ w6.heap.size) := by have h1 := HB.out.size; have h2 := hb.size; have h3 := HB0.out.size; show _ ≤ _; exact h3
  clear hb HD
  by_cases hi0 : i < 0
  · have hd0 : decide (i < 0) = true := decide_eq_true hi0
    have HS := Lib.hid (HSo.out (by omega))
    clear HSo HS0 HSi
    go_wp2_with fail
    refine (HS.out _ HX.out).mono ?_
    rintro e w15 ⟨rfl, hb⟩
    replace HB := Lib.hid (bel_tr HB.out hb)
    replace HX := Lib.hid (HX.out.keep hb)
    replace HW := Lib.hid (HW.out.keep hb)
    clear hb
    clear HS
    by_cases hf0 : f < 0
    · have he0 : decide (f < 0) = true := decide_eq_true hf0
      have HF := Lib.hid (HFo.out (by omega))
      clear HFo HFi
      go_wp2_with fail
      refine (HF.out _ HX.out).mono ?_
      rintro e w16 ⟨rfl, hb⟩
      replace HB := Lib.hid (bel_tr HB.out hb)
      clear hb
      go_wp2_with fail
      refine (knownI_any _).mono ?_
      rintro e w99 ⟨rfl, hb⟩
      replace HB := Lib.hid (bel_tr HB.out hb)
      clear hb
      go_wp2_with fail
      go_ret
      exact ⟨rfl, HB.out⟩
    have he0 : decide (f < 0) = false := decide_eq_false hf0
    by_cases hf1 : t < f
    · have he1 : decide (t < f) = true := decide_eq_true hf1
      have HF := Lib.hid (HFo.out (by omega))
      clear HFo HFi
      go_wp2_with fail
      refine (HF.out _ HX.out).mono ?_
      rintro e w17 ⟨rfl, hb⟩
      replace HB := Lib.hid (bel_tr HB.out hb)
      clear hb
      go_wp2_with fail
      refine (knownI_any _).mono ?_
      rintro e w99 ⟨rfl, hb⟩
      replace HB := Lib.hid (bel_tr HB.out hb)
      clear hb
      go_wp2_with fail
      go_ret
      exact ⟨rfl, HB.out⟩
    have he1 : decide (t < f) = false := decide_eq_false hf1
    by_cases hf2 : (V.length : Int) < t
    · have he2 : decide ((V.length : Int) < t) = true := decide_eq_true hf2
      have HF := Lib.hid (HFo.out (by omega))
      clear HFo HFi
      go_wp2_with fail
      refine (HF.out _ HX.out).mono ?_
      rintro e w18 ⟨rfl, hb⟩
      replace HB := Lib.hid (bel_tr HB.out hb)
      clear hb
      go_wp2_with fail
      refine (knownI_any _).mono ?_
      rintro e w99 ⟨rfl, hb⟩
      replace HB := Lib.hid (bel_tr HB.out hb)
      clear hb
      go_wp2_with fail
      go_ret
      exact ⟨rfl, HB.out⟩
    have he2 : decide ((V.length : Int) < t) = false := decide_eq_false hf2
    obtain ⟨m, rfl⟩ : ∃ m : Nat, f = (m : Int) := ⟨f.toNat, by omega⟩
    obtain ⟨n, rfl⟩ : ∃ n : Nat, t = (n : Int) := ⟨t.toNat, by omega⟩
    have hmn : m ≤ n := by omega
    have hnv : n ≤ V.length := by omega
    have hcut := cut_midD a6 V.length c6 m n hmn hnv HLc.out
    have HRr := Lib.hid ((off_row HW.out c6 m HLc.out (by omega)).take (n - m))
    have HF := Lib.hid (HFi.out m n hmn hnv (off a6 c6 m) (c6 - m) _ HX.out HRr.out)
    rw [HLt.out m n hnv] at HF
    clear HFo HFi HRr HLt
    go_wp2_with fail
    refine (HF.out).mono ?_
    rintro e w19 ⟨rfl, hb⟩
    replace HB := Lib.hid (bel_tr HB.out hb)
    clear hb
    go_wp2_with fail
    refine (knownI_any _).mono ?_
    rintro e w99 ⟨rfl, hb⟩
    replace HB := Lib.hid (bel_tr HB.out hb)
    clear hb
    go_wp2_with fail
    go_ret
    exact ⟨rfl, HB.out⟩
  have hd0 : decide (i < 0) = false := decide_eq_false hi0
  by_cases hi1 : (V.length : Int) < i
  · have hd1 : decide ((V.length : Int) < i) = true := decide_eq_true hi1
    have HS := Lib.hid (HSo.out (by omega))
    clear HSo HS0 HSi
    go_wp2_with fail
    refine (HS.out _ HX.out).mono ?_
    rintro e w20 ⟨rfl, hb⟩
    replace HB := Lib.hid (bel_tr HB.out hb)
    replace HX := Lib.hid (HX.out.keep hb)
    replace HW := Lib.hid (HW.out.keep hb)
    clear hb
    clear HS
    by_cases hf0 : f < 0
    · have he0 : decide (f < 0) = true := decide_eq_true hf0
      have HF := Lib.hid (HFo.out (by omega))
      clear HFo HFi
      go_wp2_with fail
      refine (HF.out _ HX.out).mono ?_
      rintro e w21 ⟨rfl, hb⟩
      replace HB := Lib.hid (bel_tr HB.out hb)
      clear hb
      go_wp2_with fail
      refine (knownI_any _).mono ?_
      rintro e w99 ⟨rfl, hb⟩
      replace HB := Lib.hid (bel_tr HB.out hb)
      clear hb
      go_wp2_with fail
      go_ret
      exact ⟨rfl, HB.out⟩
    have he0 : decide (f < 0) = false := decide_eq_false hf0
    by_cases hf1 : t < f
    · have he1 : decide (t < f) = true := decide_eq_true hf1
      have HF := Lib.hid (HFo.out (by omega))
      clear HFo HFi
      go_wp2_with fail
      refine (HF.out _ HX.out).mono ?_
      rintro e w22 ⟨rfl, hb⟩
      replace HB := Lib.hid (bel_tr HB.out hb)
      clear hb
      go_wp2_with fail
      refine (knownI_any _).mono ?_
      rintro e w99 ⟨rfl, hb⟩
      replace HB := Lib.hid (bel_tr HB.out hb)
      clear hb
      go_wp2_with fail
      go_ret
      exact ⟨rfl, HB.out⟩
    have he1 : decide (t < f) = false := decide_eq_false hf1
    by_cases hf2 : (V.length : Int) < t
    · have he2 : decide ((V.length : Int) < t) = true := decide_eq_true hf2
      have HF := Lib.hid (HFo.out (by omega))
      clear HFo HFi
      go_wp2_with fail
      refine (HF.out _ HX.out).mono ?_
      rintro e w23 ⟨rfl, hb⟩
      replace HB := Lib.hid (bel_tr HB.out hb)
      clear hb
      go_wp2_with fail
      refine (knownI_any _).mono ?_
      rintro e w99 ⟨rfl, hb⟩
      replace HB := Lib.hid (bel_tr HB.out hb)
      clear hb
      go_wp2_with fail
      go_ret
      exact ⟨rfl, HB.out⟩
    have he2 : decide ((V.length : Int) < t) = false := decide_eq_false hf2
    obtain ⟨m, rfl⟩ : ∃ m : Nat, f = (m : Int) := ⟨f.toNat, by omega⟩
    obtain ⟨n, rfl⟩ : ∃ n : Nat, t = (n : Int) := ⟨t.toNat, by omega⟩
    have hmn : m ≤ n := by omega
    have hnv : n ≤ V.length := by omega
    have hcut := cut_midD a6 V.length c6 m n hmn hnv HLc.out
    have HRr := Lib.hid ((off_row HW.out c6 m HLc.out (by omega)).take (n - m))
    have HF := Lib.hid (HFi.out m n hmn hnv (off a6 c6 m) (c6 - m) _ HX.out HRr.out)
    rw [HLt.out m n hnv] at HF
    clear HFo HFi HRr HLt
    go_wp2_with fail
    refine (HF.out).mono ?_
    rintro e w24 ⟨rfl, hb⟩
    replace HB := Lib.hid (bel_tr HB.out hb)
    clear hb
    go_wp2_with fail
    refine (knownI_any _).mono ?_
    rintro e w99 ⟨rfl, hb⟩
    replace HB := Lib.hid (bel_tr HB.out hb)
    clear hb
    go_wp2_with fail
    go_ret
    exact ⟨rfl, HB.out⟩
  have hd1 : decide ((V.length : Int) < i) = false := decide_eq_false hi1
  by_cases hi2 : i = 0
  · subst hi2
    have HS := HS0
    clear HSo HS0 HSi
    go_wp2_with fail
    refine (HS.out _ HX.out).mono ?_
    rintro e w25 ⟨rfl, hb⟩
    replace HB := Lib.hid (bel_tr HB.out hb)
    replace HX := Lib.hid (HX.out.keep hb)
    replace HW := Lib.hid (HW.out.keep hb)
    clear hb
    clear HS
    by_cases hf0 : f < 0
    · have he0 : decide (f < 0) = true := decide_eq_true hf0
      have HF := Lib.hid (HFo.out (by omega))
      clear HFo HFi
      go_wp2_with fail
      refine (HF.out _ HX.out).mono ?_
      rintro e w26 ⟨rfl, hb⟩
      replace HB := Lib.hid (bel_tr HB.out hb)
      clear hb
      go_wp2_with fail
      refine (knownI_any _).mono ?_
      rintro e w99 ⟨rfl, hb⟩
      replace HB := Lib.hid (bel_tr HB.out hb)
      clear hb
      go_wp2_with fail
      go_ret
      exact ⟨rfl, HB.out⟩
    have he0 : decide (f < 0) = false := decide_eq_false hf0
    by_cases hf1 : t < f
    · have he1 : decide (t < f) = true := decide_eq_true hf1
      have HF := Lib.hid (HFo.out (by omega))
      clear HFo HFi
      go_wp2_with fail
      refine (HF.out _ HX.out).mono ?_
      rintro e w27 ⟨rfl, hb⟩
      replace HB := Lib.hid (bel_tr HB.out hb)
      clear hb
      go_wp2_with fail
      refine (knownI_any _).mono ?_
      rintro e w99 ⟨rfl, hb⟩
      replace HB := Lib.hid (bel_tr HB.out hb)
      clear hb
      go_wp2_with fail
      go_ret
      exact ⟨rfl, HB.out⟩
    have he1 : decide (t < f) = false := decide_eq_false hf1
    by_cases hf2 : (V.length : Int) < t
    · have he2 : decide ((V.length : Int) < t) = true := decide_eq_true hf2
      have HF := Lib.hid (HFo.out (by omega))
      clear HFo HFi
      go_wp2_with fail
      refine (HF.out _ HX.out).mono ?_
      rintro e w28 ⟨rfl, hb⟩
      replace HB := Lib.hid (bel_tr HB.out hb)
      clear hb
      go_wp2_with fail
      refine (knownI_any _).mono ?_
      rintro e w99 ⟨rfl, hb⟩
      replace HB := Lib.hid (bel_tr HB.out hb)
      clear hb
      go_wp2_with fail
      go_ret
      exact ⟨rfl, HB.out⟩
    have he2 : decide ((V.length : Int) < t) = false := decide_eq_false hf2
    obtain ⟨m, rfl⟩ : ∃ m : Nat, f = (m : Int) := ⟨f.toNat, by omega⟩
    obtain ⟨n, rfl⟩ : ∃ n : Nat, t = (n : Int) := ⟨t.toNat, by omega⟩
    have hmn : m ≤ n := by omega
    have hnv : n ≤ V.length := by omega
    have hcut := cut_midD a6 V.length c6 m n hmn hnv HLc.out
    have HRr := Lib.hid ((off_row HW.out c6 m HLc.out (by omega)).take (n - m))
    have HF := Lib.hid (HFi.out m n hmn hnv (off a6 c6 m) (c6 - m) _ HX.out HRr.out)
    rw [HLt.out m n hnv] at HF
    clear HFo HFi HRr HLt
    go_wp2_with fail
    refine (HF.out).mono ?_
    rintro e w29 ⟨rfl, hb⟩
    replace HB := Lib.hid (bel_tr HB.out hb)
    clear hb
    go_wp2_with fail
    refine (knownI_any _).mono ?_
    rintro e w99 ⟨rfl, hb⟩
    replace HB := Lib.hid (bel_tr HB.out hb)
    clear hb
    go_wp2_with fail
    go_ret
    exact ⟨rfl, HB.out⟩
  · have hi3 : (0 : Int) < i := by omega
    have hd3 : decide ((0 : Int) < i) = true := decide_eq_true hi3
    obtain ⟨k, rfl⟩ : ∃ k : Nat, i = (k : Int) + 1 := ⟨(i - 1).toNat, by omega⟩
    have hk : k < V.length := by omega
    have HS := Lib.hid (HSi.out k hk)
    obtain ⟨b6, o6, e6, p0, p1⟩ := HW.out.get (Below.refl _ _) k hk
    subst e6
    have hix := ix_dot b6 o6 V.length c6 k (k : Int) rfl hk
    obtain ⟨q, hq⟩ : ∃ q, q = V[k] := ⟨_, rfl⟩
    rw [← hq] at p0 p1 HS
    clear hq HSo HS0 HSi
    have hkb : (k : Int) ≤ 40 := by omega
    have hbs : Below w6.heap.size w6 (w6.alloc (.cells #[.int .i64 q.1, .int .i64 q.2] 34)) := bel_box w6 _
    replace HX := Lib.hid (HX6.out.keep hbs)
    replace HW := Lib.hid (HW6.out.keep hbs)
    replace HB := Lib.hid (bel_tr HB0.out hbs)
    have z0 := HZ.out.c0
    have z1 := HZ.out.c1
    have f0 := bd_free HZ.out 0
    have f1 := bd_free HZ.out 1
    have HSc := Lib.hid (HS.out _ HX.out)
    clear hbs HS
    obtain ⟨q1, q2⟩ := q
    go_wp2_with fail
    refine (HSc.out).mono ?_
    rintro e w30 ⟨rfl, hb⟩
    replace HB := Lib.hid (bel_tr HB.out hb)
    replace HX := Lib.hid (HX.out.keep hb)
    replace HW := Lib.hid (HW.out.keep hb)
    clear hb
    clear HSc hix p0 p1 z0 z1 f0 f1 hk HX6 HW6 HZ HB0 hi0 hi1 hi2 hi3 hd0 hd1 hd3 hkb
    by_cases hf0 : f < 0
    · have he0 : decide (f < 0) = true := decide_eq_true hf0
      have HF := Lib.hid (HFo.out (by omega))
      clear HFo HFi
      go_wp2_with fail
      refine (HF.out _ HX.out).mono ?_
      rintro e w31 ⟨rfl, hb⟩
      replace HB := Lib.hid (bel_tr HB.out hb)
      clear hb
      go_wp2_with fail
      refine (knownI_any _).mono ?_
      rintro e w99 ⟨rfl, hb⟩
      replace HB := Lib.hid (bel_tr HB.out hb)
      clear hb
      go_wp2_with fail
      go_ret
      exact ⟨rfl, HB.out⟩
    have he0 : decide (f < 0) = false := decide_eq_false hf0
    by_cases hf1 : t < f
    · have he1 : decide (t < f) = true := decide_eq_true hf1
      have HF := Lib.hid (HFo.out (by omega))
      clear HFo HFi
      go_wp2_with fail
      refine (HF.out _ HX.out).mono ?_
      rintro e w32 ⟨rfl, hb⟩
      replace HB := Lib.hid (bel_tr HB.out hb)
      clear hb
      go_wp2_with fail
      refine (knownI_any _).mono ?_
      rintro e w99 ⟨rfl, hb⟩
      replace HB := Lib.hid (bel_tr HB.out hb)
      clear hb
      go_wp2_with fail
      go_ret
      exact ⟨rfl, HB.out⟩
    have he1 : decide (t < f) = false := decide_eq_false hf1
    by_cases hf2 : (V.length : Int) < t
    · have he2 : decide ((V.length : Int) < t) = true := decide_eq_true hf2
      have HF := Lib.hid (HFo.out (by omega))
      clear HFo HFi
      go_wp2_with fail
      refine (HF.out _ HX.out).mono ?_
      rintro e w33 ⟨rfl, hb⟩
      replace HB := Lib.hid (bel_tr HB.out hb)
      clear hb
      go_wp2_with fail
      refine (knownI_any _).mono ?_
      rintro e w99 ⟨rfl, hb⟩
      replace HB := Lib.hid (bel_tr HB.out hb)
      clear hb
      go_wp2_with fail
      go_ret
      exact ⟨rfl, HB.out⟩
    have he2 : decide ((V.length : Int) < t) = false := decide_eq_false hf2
    obtain ⟨m, rfl⟩ : ∃ m : Nat, f = (m : Int) := ⟨f.toNat, by omega⟩
    obtain ⟨n, rfl⟩ : ∃ n : Nat, t = (n : Int) := ⟨t.toNat, by omega⟩
    have hmn : m ≤ n := by omega
    have hnv : n ≤ V.length := by omega
    have hcut := cut_midD (some (⟨b6, o6, none⟩ : Addr)) V.length c6 m n hmn hnv HLc.out
    have HRr := Lib.hid ((off_row HW.out c6 m HLc.out (by omega)).take (n - m))
    have HF := Lib.hid (HFi.out m n hmn hnv (off (some (⟨b6, o6, none⟩ : Addr)) c6 m) (c6 - m) _ HX.out HRr.out)
    rw [HLt.out m n hnv] at HF
    clear HFo HFi HRr HLt
    go_wp2_with fail
    refine (HF.out).mono ?_
    rintro e w34 ⟨rfl, hb⟩
    replace HB := Lib.hid (bel_tr HB.out hb)
    clear hb
    go_wp2_with fail
    refine (knownI_any _).mono ?_
    rintro e w99 ⟨rfl, hb⟩
    replace HB := Lib.hid (bel_tr HB.out hb)
    clear hb
    go_wp2_with fail
    go_ret
    exact ⟨rfl, HB.out⟩
end Go.Proofs.Yteojbekkbgcmnab.Un
