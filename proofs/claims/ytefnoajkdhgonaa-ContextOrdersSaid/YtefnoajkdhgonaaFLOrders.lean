/-
  The fifth law: the order in which dots are added does not matter.
-/
import Derived.Test.YtefnoajkdhgonaaFKnown
namespace Go.Proofs.Ytefnoajkdhgonaa.F
set_option linter.unusedVariables false
open Go.RowKit V Go.Sort D
open E (SV SV.nil SV.keep SV.of_od)

def rot (l : List Dt) (t k : Nat) : List Dt := (List.range k).map fun i => l.getD ((i + t) % l.length) (0, 0)
theorem rot_succ (l : List Dt) (t k : Nat) : rot l t (k + 1) = rot l t k ++ [l.getD ((k + t) % l.length) (0, 0)] := by
  unfold rot
  rw [List.range_succ, List.map_append]
  rfl
theorem getD_mem {l : List Dt} {i : Nat} (h : i < l.length) : l.getD i (0, 0) ∈ l := by
  rw [List.getD_eq_getElem?_getD, List.getElem?_eq_getElem h]
  exact List.getElem_mem h
theorem rot_sub {l : List Dt} {t k : Nat} (h : 0 < l.length) : ∀ x ∈ rot l t k, x ∈ l := by
  intro x hx
  obtain ⟨i, -, rfl⟩ := List.mem_map.1 hx
  exact getD_mem (Nat.mod_lt _ h)
theorem rot_all {l : List Dt} {t : Nat} (h : 0 < l.length) (x : Dt) : x ∈ rot l t l.length ↔ x ∈ l := by
  refine ⟨rot_sub h x, fun hx => ?_⟩
  obtain ⟨j, hj, rfl⟩ := List.mem_iff_getElem.1 hx
  have hs := Nat.mod_lt t h
  have ht := Nat.div_add_mod t l.length
  have key : ∃ i, i < l.length ∧ (i + t) % l.length = j := by
    by_cases hc : t % l.length ≤ j
    · refine ⟨j - t % l.length, by omega, ?_⟩
      rw [show j - t % l.length + t = j + l.length * (t / l.length) by omega, Nat.add_mul_mod_self_left, Nat.mod_eq_of_lt hj]
    · refine ⟨j + l.length - t % l.length, by omega, ?_⟩
      rw [show j + l.length - t % l.length + t = (j + l.length * (t / l.length)) + l.length by omega, Nat.add_mod_right, Nat.add_mul_mod_self_left, Nat.mod_eq_of_lt hj]
  obtain ⟨i, hi, he⟩ := key
  refine List.mem_map.2 ⟨i, List.mem_range.2 hi, ?_⟩
  rw [he, List.getD_eq_getElem?_getD, List.getElem?_eq_getElem hj]
  rfl
theorem addC_ext {c : Ct} {l m : List Dt} (h : ∀ x, x ∈ l ↔ x ∈ m) : addC c l = addC c m := by
  have e : unionR c.2 l = unionR c.2 m := union_eq (srt_union _ _) fun x => by rw [mem_union, h x]
  unfold addC
  rw [e]
theorem addC_nil {c : Ct} (hc : Vc c) : addC c [] = compC c := by
  unfold addC
  rw [← union_eq (a := c.2) (b := []) hc.2.1 fun x => by simp]
def ck (c : Ct) (l : List Dt) (t k : Nat) : Ct := if k = 0 then c else addC c (rot l t k)
theorem ck_succ {c : Ct} {l : List Dt} {t k : Nat} (hc : Vc c) (hl : ∀ x ∈ l, validR x = true) (hk : k < l.length) : addC (ck c l t k) [l.getD ((k + t) % l.length) (0, 0)] = ck c l t (k + 1) := by
  have h0 : 0 < l.length := by omega
  unfold ck
  rw [if_neg (Nat.succ_ne_zero k), rot_succ]
  by_cases h : k = 0
  · subst h
    rw [if_pos rfl]
    rfl
  · rw [if_neg h]
    exact add_add hc (fun x hx => hl x (rot_sub h0 x hx)) (fun x hx => by rw [List.mem_singleton.1 hx]; exact hl _ (getD_mem (Nat.mod_lt _ h0))) fun x => List.mem_append
theorem ck_end {c : Ct} {l : List Dt} {t : Nat} (h : 0 < l.length) : ck c l t l.length = addC c l := by
  unfold ck
  rw [if_neg (by omega)]
  exact addC_ext (rot_all h)
theorem ck_vc {c : Ct} {l : List Dt} {t k : Nat} (hc : Vc c) (hl : ∀ x ∈ l, validR x = true) (hk : k ≤ l.length) : Vc (ck c l t k) := by
  unfold ck
  split
  · exact hc
  · exact add_vc hc fun x hx => hl x (rot_sub (by omega) x hx)
theorem ck_len {c : Ct} {l : List Dt} {t k : Nat} (hc : Vc c) (hl : ∀ x ∈ l, validR x = true) (hk : k ≤ l.length) : (ck c l t k).1.length ≤ 64 ∧ (ck c l t k).2.length ≤ c.2.length + k := by
  unfold ck
  split
  · exact ⟨E.vd_len hc.1, by omega⟩
  · have h := add_len (c := c) (l := rot l t k) hc fun x hx => hl x (rot_sub (by omega) x hx)
    have h2 : (rot l t k).length = k := by unfold rot; simp
    rw [h2] at h
    exact h
theorem miss_none {c : Ct} {l : List Dt} (hc : Vc c) (hl : ∀ x ∈ l, validR x = true) : missR (addC c l) l = [] := by
  rw [List.eq_nil_iff_forall_not_mem]
  intro x hx
  obtain ⟨h1, h2⟩ := mem_miss.1 hx
  rw [(add_has hc hl x).2 (.inr h1)] at h2
  cases h2
theorem cut_mid (a : Option Addr) (len cap m k : Nat) (z y : Int) (hz : z = (m : Int)) (hy : y = ((m + k : Nat) : Int)) (hk : m + k ≤ cap) : ∀ wx : World,
    (Instr.slice 22 (.slice a len cap) (some (.int .i64 z)) (some (.int .i64 y)) none).run Try.prog wx = .ok (.slice (off a cap m) k (cap - m)) wx := by
  obtain ⟨i, hi, hz0, hz1, hz2⟩ := G.info_of infoD
  intro wx
  have h1 : (Instr.sliceBound (.int .i64 y) cap .sliceAcap).run Try.prog wx = .ok (m + k) wx := by
    subst hy
    rw [run_sliceBound _ _ _ _ _ (by omega) (by omega)]; rfl
  have h2 : (Instr.sliceBound (.int .i64 z) (m + k) .sliceB).run Try.prog wx = .ok m wx := by
    subst hz
    rw [run_sliceBound _ _ _ _ _ (by omega) (by omega)]; rfl
  have e : m + k - m = k := by omega
  simp [Instr.slice, run_underlying Try.underlying22, Instr.sliceBounds, h1, h2, Result.andThen, sizeOf, typeInfo, hi, hz1, e, off]
theorem cut_row {w : World} {a : Option Addr} {l : List Dt} (h : RowD w a l) (cap m : Nat) (hlc : l.length ≤ cap) (hm : m < l.length) : RowD w (off a cap m) [l.getD m (0, 0)] := by
  have h1 := (off_row h cap m hlc (by omega)).take 1
  rw [List.drop_eq_getElem_cons hm] at h1
  rw [List.getD_eq_getElem?_getD, List.getElem?_eq_getElem hm]
  exact h1
/-- A block with a context, known whole. -/
def Rv (w : World) (g : Nat) (x y : Value) : Prop := Bc w g x y ∧ Rc w g
theorem Rv.keep {w w' : World} {g : Nat} {x y : Value} (h : Rv w g x y) (hb : Below w.heap.size w w') : Rv w' g x y := ⟨h.1.keep hb, h.2.keep hb⟩
theorem rv_new (w : World) (a b : Option Addr) (n c m d : Nat) : Rv (w.alloc (cbox (.slice a n c) (.slice b m d))) w.heap.size (.slice a n c) (.slice b m d) := ⟨two_new w _ _, rc_new w a b n c m d⟩
theorem Rv.put {w : World} {g : Nat} {x y : Value} (h : Rv w g x y) (a b : Option Addr) (n c m d : Nat) : Rv ((w.setCell ⟨g, 0, none⟩ (.slice a n c)).setCell ⟨g, 1, none⟩ (.slice b m d)) g (.slice a n c) (.slice b m d) := by
  refine ⟨put_two h.2.wc, ?_⟩
  have hl := h.2.lt
  obtain ⟨a1, n1, c1, b1, m1, d1, e⟩ := h.2
  refine ⟨a, n, c, b, m, d, ?_⟩
  have e2 := (Array.getElem?_eq_some_iff.1 e).2
  simp [World.setCell, hl, Array.getElem_modify, e2]
theorem Bc.put2 {w : World} {g h : Nat} {x y u v : Value} (k : Bc w g x y) (hne : g ≠ h) : Bc ((w.setCell ⟨h, 0, none⟩ u).setCell ⟨h, 1, none⟩ v) g x y := Bc.set (Bc.set k hne) hne

set_option maxRecDepth 100000 in
set_option maxHeartbeats 8000000 in
theorem orders_law (xs ys l : List Dt) (a b p : Option Addr) (n m j : Nat) (tn : Nat) (w : World) (htn : tn ≤ 255) (hx : RowD w a xs) (hy : RowD w b ys) (hl : RowD w p l) (hna : a = none → n = 0) (hnb : b = none → m = 0) (hla : xs.length ≤ n) (hlb : ys.length ≤ m) (hlp : l.length ≤ j) (hll : l.length ≤ 9223372036854775807) :
    Calls Try.prog 7 #[cv (.slice a xs.length n) (.slice b ys.length m), .slice p l.length j, .int .u8 (tn : Int)] w fun e w' => e = .returned (.bool true) ∧ Below w.heap.size w w' := by
  have HKn := Lib.hid (fun w => known_any w)
  have HK := Lib.hid (show Sb w.heap.size (.slice a xs.length n) (.slice b ys.length m) _ from two_new w (.slice a xs.length n) (.slice b ys.length m))
  have HB := Lib.hid (bel_box w (cbox (.slice a xs.length n) (.slice b ys.length m)))
  have HX := Lib.hid (hx.keep HB.out)
  have HY := Lib.hid (hy.keep HB.out)
  have HL := Lib.hid (hl.keep HB.out)
  have HX0 := Lib.hid hx
  have HY0 := Lib.hid hy
  have HL0 := Lib.hid hl
  have HN1 := Lib.hid hna
  have HN2 := Lib.hid hnb
  have HA1 := Lib.hid hla
  have HA2 := Lib.hid hlb
  have HLp := Lib.hid hlp
  have HTn := Lib.hid htn
  have HLi := Lib.hid (fun w => light_any xs ys a b n m w)
  clear hx hy hl hna hnb hla hlb hlp htn
  have k0 := HK.out.1
  have k1 := HK.out.2
  by_cases h1 : xs.length ≤ 40 ∧ ys.length ≤ 40
  · rw [show decide (xs.length ≤ 40 ∧ ys.length ≤ 40) = true by simpa using h1] at HLi
    by_cases h2 : 40 < l.length
    · have hg : (40 : Int) < (l.length : Int) := by omega
      clear h1 h2 hll
      go_enter Try.func7, Try.ntmps7
      go_wp2_with fail
      generalize w.alloc (cbox (.slice a xs.length n) (.slice b ys.length m)) = w1 at *
      refine (HLi.out _).mono ?_
      rintro e w2 ⟨rfl, hb⟩
      replace HX := Lib.hid (HX.out.keep hb)
      replace HY := Lib.hid (HY.out.keep hb)
      replace HL := Lib.hid (HL.out.keep hb)
      replace HK := Lib.hid (HK.out.keep hb)
      replace HB := bel_tr HB hb
      clear hb
      clear k0 k1
      have k0 := HK.out.1
      have k1 := HK.out.2
      go_wp2_with fail
      refine (HKn.out _).mono ?_
      rintro e w3 ⟨rfl, hb⟩
      replace HX := Lib.hid (HX.out.keep hb)
      replace HY := Lib.hid (HY.out.keep hb)
      replace HL := Lib.hid (HL.out.keep hb)
      replace HK := Lib.hid (HK.out.keep hb)
      replace HB := bel_tr HB hb
      clear hb
      go_wp2_with fail
      go_ret
      exact ⟨rfl, HB.out⟩
    · have hg : ¬ (40 : Int) < (l.length : Int) := by omega
      have HV := Lib.hid (fun w h1 h2 => valid_ref xs ys a b n m w h1 h2 (by omega) (by omega))
      have HD := Lib.hid (fun w hx => dots_ref l p j w hx (by omega))
      rcases hv : validC (xs, ys) with _ | _
      · rw [hv] at HV
        clear hv h1 h2 hll
        go_enter Try.func7, Try.ntmps7
        go_wp2_with fail
        generalize w.alloc (cbox (.slice a xs.length n) (.slice b ys.length m)) = w1 at *
        refine (HLi.out _).mono ?_
        rintro e w2 ⟨rfl, hb⟩
        replace HX := Lib.hid (HX.out.keep hb)
        replace HY := Lib.hid (HY.out.keep hb)
        replace HL := Lib.hid (HL.out.keep hb)
        replace HK := Lib.hid (HK.out.keep hb)
        replace HB := bel_tr HB hb
        clear hb
        clear k0 k1
        have k0 := HK.out.1
        have k1 := HK.out.2
        go_wp2_with fail
        refine (HV.out _ HX.out HY.out).mono ?_
        rintro e w3 ⟨rfl, hb⟩
        replace HX := Lib.hid (HX.out.keep hb)
        replace HY := Lib.hid (HY.out.keep hb)
        replace HL := Lib.hid (HL.out.keep hb)
        replace HK := Lib.hid (HK.out.keep hb)
        replace HB := bel_tr HB hb
        clear hb
        clear k0 k1
        have k0 := HK.out.1
        have k1 := HK.out.2
        go_wp2_with fail
        refine (HKn.out _).mono ?_
        rintro e w4 ⟨rfl, hb⟩
        replace HX := Lib.hid (HX.out.keep hb)
        replace HY := Lib.hid (HY.out.keep hb)
        replace HL := Lib.hid (HL.out.keep hb)
        replace HK := Lib.hid (HK.out.keep hb)
        replace HB := bel_tr HB hb
        clear hb
        go_wp2_with fail
        go_ret
        exact ⟨rfl, HB.out⟩
      · rw [hv] at HV
        rcases hd : l.all validR with _ | _
        · rw [hd] at HD
          clear hv hd h1 h2 hll
          go_enter Try.func7, Try.ntmps7
          go_wp2_with fail
          generalize w.alloc (cbox (.slice a xs.length n) (.slice b ys.length m)) = w1 at *
          refine (HLi.out _).mono ?_
          rintro e w2 ⟨rfl, hb⟩
          replace HX := Lib.hid (HX.out.keep hb)
          replace HY := Lib.hid (HY.out.keep hb)
          replace HL := Lib.hid (HL.out.keep hb)
          replace HK := Lib.hid (HK.out.keep hb)
          replace HB := bel_tr HB hb
          clear hb
          clear k0 k1
          have k0 := HK.out.1
          have k1 := HK.out.2
          go_wp2_with fail
          refine (HV.out _ HX.out HY.out).mono ?_
          rintro e w3 ⟨rfl, hb⟩
          replace HX := Lib.hid (HX.out.keep hb)
          replace HY := Lib.hid (HY.out.keep hb)
          replace HL := Lib.hid (HL.out.keep hb)
          replace HK := Lib.hid (HK.out.keep hb)
          replace HB := bel_tr HB hb
          clear hb
          clear k0 k1
          have k0 := HK.out.1
          have k1 := HK.out.2
          go_wp2_with fail
          refine (HD.out _ HL.out).mono ?_
          rintro e w4 ⟨rfl, hb⟩
          replace HX := Lib.hid (HX.out.keep hb)
          replace HY := Lib.hid (HY.out.keep hb)
          replace HL := Lib.hid (HL.out.keep hb)
          replace HK := Lib.hid (HK.out.keep hb)
          replace HB := bel_tr HB hb
          clear hb
          clear k0 k1
          have k0 := HK.out.1
          have k1 := HK.out.2
          go_wp2_with fail
          refine (HKn.out _).mono ?_
          rintro e w5 ⟨rfl, hb⟩
          replace HX := Lib.hid (HX.out.keep hb)
          replace HY := Lib.hid (HY.out.keep hb)
          replace HL := Lib.hid (HL.out.keep hb)
          replace HK := Lib.hid (HK.out.keep hb)
          replace HB := bel_tr HB hb
          clear hb
          go_wp2_with fail
          go_ret
          exact ⟨rfl, HB.out⟩
        · rw [hd] at HD
          have hdv : ∀ x ∈ l, validR x = true := List.all_eq_true.1 hd
          have hvv := (valid_vc _).1 hv
          have hul := add_len hvv hdv
          simp only at hul
          have HCk : Hid (ck (xs, ys) l tn 0 = (xs, ys)) := rfl
          have HCe : Hid (0 < l.length → ck (xs, ys) l tn l.length = addC (xs, ys) l) := fun h => ck_end h
          have HCl : Hid (∀ k, k ≤ l.length → (ck (xs, ys) l tn k).1.length ≤ 64 ∧ (ck (xs, ys) l tn k).2.length ≤ 80) := fun k hk => by
            have h := ck_len (t := tn) hvv hdv hk
            simp only at h
            omega
          have HA0 : Hid (∀ w, RowD w a xs → RowD w b ys → RowD w p l → Calls Try.prog 37 #[cv (.slice a xs.length n) (.slice b ys.length m), .slice p l.length j] w fun e w' => ∃ x y, e = .returned (.tuple #[cv x y, .int .i64 0]) ∧ Ov w' w.heap.size x y (addC (xs, ys) l) ∧ Below w.heap.size w w') := fun w h1 h2 h3 => by
            have h := add_any6 xs ys l a b p n m j w h1 h2 h3 HN1.out HN2.out (by omega) (by omega) (by omega)
            rw [add_eq hvv hdv] at h
            exact h
          have HAk : Hid (∀ k (hk : k < l.length) a b n m q j w, RowD w a (ck (xs, ys) l tn k).1 → RowD w b (ck (xs, ys) l tn k).2 → RowD w q [l.getD ((k + tn) % l.length) (0, 0)] → (a = none → n = 0) → (b = none → m = 0) →
              Calls Try.prog 37 #[cv (.slice a (ck (xs, ys) l tn k).1.length n) (.slice b (ck (xs, ys) l tn k).2.length m), .slice q 1 j] w fun e w' => ∃ x y, e = .returned (.tuple #[cv x y, .int .i64 0]) ∧ Ov w' w.heap.size x y (ck (xs, ys) l tn (k + 1)) ∧ Below w.heap.size w w') := fun k hk a b n m q j w h1 h2 h3 h4 h5 => by
            have hb := HCl.out k (by omega)
            have h := add_any6 (ck (xs, ys) l tn k).1 (ck (xs, ys) l tn k).2 [l.getD ((k + tn) % l.length) (0, 0)] a b q n m j w h1 h2 h3 h4 h5 (by omega) (by omega) (by simp)
            rw [add_eq (c := ck (xs, ys) l tn k) (ck_vc hvv hdv (by omega)) (fun x hx => by rw [List.mem_singleton.1 hx]; exact hdv _ (getD_mem (Nat.mod_lt _ (by omega)))), ck_succ hvv hdv hk] at h
            exact h
          have HCp : Hid (l.length = 0 → ∀ w, RowD w a xs → RowD w b ys → Calls Try.prog 20 #[cv (.slice a xs.length n) (.slice b ys.length m)] w fun e w' => ∃ x y, e = .returned (.tuple #[cv x y, .int .i64 0]) ∧ Ov w' w.heap.size x y (addC (xs, ys) l) ∧ Below w.heap.size w w') := fun h0 w h1 h2 => by
            have h := compact_any xs ys a b n m w h1 h2 HN1.out (by omega) (by omega)
            rw [show compB (xs, ys) = (compC (xs, ys), 0) by unfold compB; rw [if_pos hv]] at h
            rw [List.length_eq_zero_iff.1 h0, addC_nil hvv]
            exact h
          have hmn := miss_none hvv hdv
          have hok := add_comp hvv hdv
          have HLl : Hid (l.length ≤ 40) := by show _ ≤ _; omega
          generalize addC (xs, ys) l = U at *
          obtain ⟨u1, u2⟩ := U
          simp only at hul
          have HE := Lib.hid (fun a b p q n m j k w h1 h2 h3 h4 => equal_ref u1 u2 u1 u2 a b p q n m j k w h1 h2 h3 h4 (by omega) (by omega) (by omega) (by omega))
          rw [show decide ((u1, u2) = (u1, u2)) = true by simp] at HE
          have HI := Lib.hid (fun a b n m w h1 h2 => isCompact_any u1 u2 a b n m w h1 h2 (by omega) (by omega))
          rw [hok] at HI
          have HM := Lib.hid (fun a b n m w h1 h2 h3 => missing_any u1 u2 l a b p n m j w h1 h2 h3 (by omega) (by omega) (by omega))
          rw [hmn] at HM
          clear hv hd hdv hvv hul hmn hok h1 h2 hll
          go_enter Try.func7, Try.ntmps7
          go_wp2_with fail
          generalize w.alloc (cbox (.slice a xs.length n) (.slice b ys.length m)) = w1 at *
          refine (HLi.out _).mono ?_
          rintro e w2 ⟨rfl, hb⟩
          replace HX := Lib.hid (HX.out.keep hb)
          replace HY := Lib.hid (HY.out.keep hb)
          replace HL := Lib.hid (HL.out.keep hb)
          replace HK := Lib.hid (HK.out.keep hb)
          replace HB := bel_tr HB hb
          clear hb
          clear k0 k1
          have k0 := HK.out.1
          have k1 := HK.out.2
          go_wp2_with fail
          refine (HV.out _ HX.out HY.out).mono ?_
          rintro e w3 ⟨rfl, hb⟩
          replace HX := Lib.hid (HX.out.keep hb)
          replace HY := Lib.hid (HY.out.keep hb)
          replace HL := Lib.hid (HL.out.keep hb)
          replace HK := Lib.hid (HK.out.keep hb)
          replace HB := bel_tr HB hb
          clear hb
          clear k0 k1
          have k0 := HK.out.1
          have k1 := HK.out.2
          go_wp2_with fail
          refine (HD.out _ HL.out).mono ?_
          rintro e w4 ⟨rfl, hb⟩
          replace HX := Lib.hid (HX.out.keep hb)
          replace HY := Lib.hid (HY.out.keep hb)
          replace HL := Lib.hid (HL.out.keep hb)
          replace HK := Lib.hid (HK.out.keep hb)
          replace HB := bel_tr HB hb
          clear hb
          clear k0 k1
          have k0 := HK.out.1
          have k1 := HK.out.2
          go_wp2_with fail
          refine (HA0.out _ HX.out HY.out HL.out).mono ?_
          rintro e w5 ⟨x7, y7, rfl, ho, hb⟩
          obtain ⟨a7, n7, b7, m7, rfl, rfl⟩ := ho.shape
          have HU1 := Lib.hid (SV.of_od ho.1)
          have HU2 := Lib.hid (SV.of_od ho.2)
          clear ho
          simp only at HU1 HU2
          replace HX := Lib.hid (HX.out.keep hb)
          replace HY := Lib.hid (HY.out.keep hb)
          replace HL := Lib.hid (HL.out.keep hb)
          replace HK := Lib.hid (HK.out.keep hb)
          replace HB := bel_tr HB hb
          clear hb
          have hge7 := lt_of_cell HK.out.1
          have HO7 := Lib.hid (two_new w5 (.slice a7 u1.length n7) (.slice b7 u2.length m7))
          have hb := bel_box w5 (cbox (.slice a7 u1.length n7) (.slice b7 u2.length m7))
          replace HX := Lib.hid (HX.out.keep hb)
          replace HY := Lib.hid (HY.out.keep hb)
          replace HL := Lib.hid (HL.out.keep hb)
          replace HK := Lib.hid (HK.out.keep hb)
          replace HU1 := Lib.hid (HU1.out.keep hb)
          replace HU2 := Lib.hid (HU2.out.keep hb)
          replace HB := bel_tr HB hb
          clear hb
          have hlt7 : w5.heap.size < (w5.alloc (cbox (.slice a7 u1.length n7) (.slice b7 u2.length m7))).heap.size := by simp
          clear k0 k1
          have k0 := HK.out.1
          have k1 := HK.out.2
          have HO9 := Lib.hid (rv_new (w5.alloc (cbox (.slice a7 u1.length n7) (.slice b7 u2.length m7))) a b xs.length n ys.length m)
          have hb := bel_box (w5.alloc (cbox (.slice a7 u1.length n7) (.slice b7 u2.length m7))) (cbox (.slice a xs.length n) (.slice b ys.length m))
          have hsz : (w5.alloc (cbox (.slice a7 u1.length n7) (.slice b7 u2.length m7))).heap.size = w5.heap.size + 1 := by simp
          rw [hsz] at HO9
          replace HX := Lib.hid (HX.out.keep hb)
          replace HY := Lib.hid (HY.out.keep hb)
          replace HL := Lib.hid (HL.out.keep hb)
          replace HK := Lib.hid (HK.out.keep hb)
          replace HU1 := Lib.hid (HU1.out.keep hb)
          replace HU2 := Lib.hid (HU2.out.keep hb)
          replace HO7 := Lib.hid (HO7.out.keep hb)
          replace HB := bel_tr HB hb
          clear hb
          go_wp2_with fail
          generalize (w5.alloc (cbox (.slice a7 u1.length n7) (.slice b7 u2.length m7))).alloc (cbox (.slice a xs.length n) (.slice b ys.length m)) = w7 at *
          generalize w5.heap.size = g7 at *
          clear k0 k1 hsz hlt7
          go_loopw [8, 10, 41] (fun e _ i wr => ∃ k : Nat, k ≤ l.length ∧ i = .int .i64 (k : Int) ∧ e = .int .i64 0 ∧ ∃ X Y, Hid (Rv wr (g7 + 1) X Y) ∧ Hid (SV wr X (ck (xs, ys) l tn k).1) ∧ Hid (SV wr Y (ck (xs, ys) l tn k).2) ∧ Hid (Below w.heap.size w wr) ∧ Hid (Bc wr w.heap.size (.slice a xs.length n) (.slice b ys.length m)) ∧ Hid (Bc wr g7 (.slice a7 u1.length n7) (.slice b7 u2.length m7)) ∧ Hid (SV wr (.slice a7 u1.length n7) u1) ∧ Hid (SV wr (.slice b7 u2.length m7) u2)) (fun _ _ i _ => l.length - (intOf i).toNat)
          case atStart => exact ⟨0, Nat.zero_le _, rfl, rfl, _, _, HO9, ⟨a, n, rfl, HX.out, HN1.out, HA1.out⟩, ⟨b, m, rfl, HY.out, HN2.out, HA2.out⟩, HB, HK, HO7, HU1, HU2⟩
          case round =>
            clear HB HK HO7 HU1 HU2 HO9 HX HY HL
            obtain ⟨k, hk, rfl, rfl, X, Y, HO9, HS1, HS2, HB, HK, HO7, HU1, HU2⟩ := hrel
            by_cases hlt : k < l.length
            · have hi1 : (k : Int) < (l.length : Int) := by omega
              obtain ⟨ax, nx, rfl, -⟩ := SV.sh HS1.out
              obtain ⟨ay, ny, rfl, -⟩ := SV.sh HS2.out
              obtain ⟨r, hr⟩ : ∃ r, r = (k + tn) % l.length := ⟨_, rfl⟩
              have hrl : r < l.length := by rw [hr]; exact Nat.mod_lt _ (by omega)
              have htm : ((k : Int) + (tn : Int)).tmod (l.length : Int) = (r : Int) := by rw [hr]; rfl
              have hmd : ((k : Int) + (tn : Int)) % (l.length : Int) = (r : Int) := by rw [hr]; rfl
              have HRw := Lib.hid (cut_row (HL0.out.keep HB.out) j r HLp.out hrl)
              rw [hr] at HRw
              rw [← hr] at HRw
              have HAc := Lib.hid (fun q w => HAk.out k hlt ax ay nx ny q (j - r) w)
              rw [← hr] at HAc
              have hq1 := HTn.out
              have hq2 := HLl.out
              have hcv : IntKind.i64.wrap (tn : Int) = tn := by simp [IntKind.wrap, IntKind.bits, IntKind.signed]; omega
              have hcv2 : (tn : Int) % 256 = tn := by omega
              have had : IntKind.i64.wrap ((k : Int) + (tn : Int)) = (k : Int) + tn := by simp [IntKind.wrap, IntKind.bits, IntKind.signed]; omega
              have hr0 : IntKind.i64.wrap (r : Int) = r := by simp [IntKind.wrap, IntKind.bits, IntKind.signed]; omega
              have hr1 : IntKind.i64.wrap ((r : Int) + 1) = (r : Int) + 1 := by simp [IntKind.wrap, IntKind.bits, IntKind.signed]; omega
              have hne : ¬ (l.length : Int) = 0 := by omega
              have hcut := cut_mid p l.length j r 1 (r : Int) ((r : Int) + 1) rfl (by omega) (by have := HLp.out; omega)
              have HGe := Lib.hid hge7
              generalize l.getD r (0, 0) = dr at *
              generalize off p j r = ao at *
              generalize j - r = jo at *
              clear hr hq1 hq2
              have k0 := HO9.out.1.1
              have k1 := HO9.out.1.2
              go_wp2_with fail
              generalize wr = w200 at *
              refine Sch.wp_region_tree Tt (.take 1 (.take 2 (.take 3 (.take 6 (.take 7 (.take 9 (.take 10 (.take 13 (.take 14 (.three 0 (.two 4 (.take 5 (.take 8 (.one 11 (.take 12 (.take 15 (.take 16 (.take 17 (.one 18 (.take 19 (.take 20 (.take 21 (.one 22 (.take 23 .done))))))))))))) 11 (.take 12 (.take 15 (.take 16 (.one 4 (.take 5 (.take 8 (.take 17 (.one 18 (.take 19 (.take 20 (.take 21 (.one 22 (.take 23 .done)))))))))))))) 4 (.take 5 (.take 8 (.two 0 (.one 11 (.take 12 (.take 15 (.take 16 (.take 17 (.one 18 (.take 19 (.take 20 (.take 21 (.one 22 (.take 23 .done))))))))))) 11 (.take 12 (.take 15 (.take 16 (.take 17 (.one 0 (.one 18 (.take 19 (.take 20 (.take 21 (.one 22 (.take 23 .done)))))))))))))) 11 (.take 12 (.take 15 (.take 16 (.two 0 (.one 4 (.take 5 (.take 8 (.take 17 (.one 18 (.take 19 (.take 20 (.take 21 (.one 22 (.take 23 .done)))))))))) 4 (.take 5 (.take 8 (.take 17 (.one 0 (.one 18 (.take 19 (.take 20 (.take 21 (.one 22 (.take 23 .done)))))))))))))))))))))))) (by kernel_rfl) (by kernel_rfl) trivial ?_
              have hb : Below w200.heap.size w200 w200.drew := (Below.refl _ _).drew
              replace HO9 := Lib.hid (HO9.out.keep hb)
              replace HS1 := Lib.hid (HS1.out.keep hb)
              replace HS2 := Lib.hid (HS2.out.keep hb)
              replace HK := Lib.hid (HK.out.keep hb)
              replace HO7 := Lib.hid (HO7.out.keep hb)
              replace HU1 := Lib.hid (HU1.out.keep hb)
              replace HU2 := Lib.hid (HU2.out.keep hb)
              replace HRw := Lib.hid (HRw.out.keep hb)
              replace HB := bel_tr HB hb
              clear hb
              generalize w200.drew = w201 at *
              clear k0 k1
              have k0 := HO9.out.1.1
              have k1 := HO9.out.1.2
              refine Sch.tree_q rfl rfl (fun K hK => ?_)
              go_big_quiet_op
              first | refine hK _ ?_ | refine ⟨_, fun _ _ => rfl, hK _ ?_⟩
              clear hK K
              refine Sch.tree_q rfl rfl (fun K hK => ?_)
              go_big_quiet_op
              first | refine hK _ ?_ | refine ⟨_, fun _ _ => rfl, hK _ ?_⟩
              clear hK K
              refine Sch.tree_q rfl rfl (fun K hK => ?_)
              go_big_quiet_op
              first | refine hK _ ?_ | refine ⟨_, fun _ _ => rfl, hK _ ?_⟩
              clear hK K
              refine Sch.tree_q rfl rfl (fun K hK => ?_)
              go_big_quiet_op
              first | refine hK _ ?_ | refine ⟨_, fun _ _ => rfl, hK _ ?_⟩
              clear hK K
              refine Sch.tree_q rfl rfl (fun K hK => ?_)
              go_big_quiet_op
              first | refine hK _ ?_ | refine ⟨_, fun _ _ => rfl, hK _ ?_⟩
              clear hK K
              refine Sch.tree_q rfl rfl (fun K hK => ?_)
              go_big_quiet_op
              first | refine hK _ ?_ | refine ⟨_, fun _ _ => rfl, hK _ ?_⟩
              clear hK K
              refine Sch.tree_q rfl rfl (fun K hK => ?_)
              go_big_quiet_op
              first | refine hK _ ?_ | refine ⟨_, fun _ _ => rfl, hK _ ?_⟩
              clear hK K
              refine Sch.tree_q rfl rfl (fun K hK => ?_)
              go_big_quiet_op
              first | refine hK _ ?_ | refine ⟨_, fun _ _ => rfl, hK _ ?_⟩
              clear hK K
              refine Sch.tree_q rfl rfl (fun K hK => ?_)
              go_big_quiet_op
              first | refine hK _ ?_ | refine ⟨_, fun _ _ => rfl, hK _ ?_⟩
              clear hK K
              refine Sch.tree_three ?_ ?_ ?_
              · refine Sch.tree_e rfl rfl (fun K hK => ?_)
                go_wp2_with fail
                refine hK _ _ trivial ?_
                clear hK K
                refine Sch.tree_two ?_ ?_
                · refine Sch.tree_e rfl rfl (fun K hK => ?_)
                  go_wp2_with fail
                  refine hK _ _ trivial ?_
                  clear hK K
                  refine Sch.tree_q rfl rfl (fun K hK => ?_)
                  go_big_quiet_op
                  first | refine hK _ ?_ | refine ⟨_, fun _ _ => rfl, hK _ ?_⟩
                  clear hK K
                  refine Sch.tree_q rfl rfl (fun K hK => ?_)
                  go_big_quiet_op
                  first | refine hK _ ?_ | refine ⟨_, fun _ _ => rfl, hK _ ?_⟩
                  clear hK K
                  refine Sch.tree_e rfl rfl (fun K hK => ?_)
                  go_wp2_with fail
                  refine hK _ _ trivial ?_
                  clear hK K
                  refine Sch.tree_q rfl rfl (fun K hK => ?_)
                  go_big_quiet_op
                  first | refine hK _ ?_ | refine ⟨_, fun _ _ => rfl, hK _ ?_⟩
                  clear hK K
                  refine Sch.tree_q rfl rfl (fun K hK => ?_)
                  go_big_quiet_op
                  first | refine hK _ ?_ | refine ⟨_, fun _ _ => rfl, hK _ ?_⟩
                  clear hK K
                  refine Sch.tree_q rfl rfl (fun K hK => ?_)
                  go_big_quiet_op
                  first | refine hK _ ?_ | refine ⟨_, fun _ _ => rfl, hK _ ?_⟩
                  clear hK K
                  refine Sch.tree_q rfl rfl (fun K hK => ?_)
                  go_big_quiet_op
                  first | refine hK _ ?_ | refine ⟨_, fun _ _ => rfl, hK _ ?_⟩
                  clear hK K
                  refine Sch.tree_e rfl rfl (fun K hK => ?_)
                  go_wp2_with fail
                  refine (HAc.out ao _ (SV.r HS1.out).1 (SV.r HS2.out).1 HRw.out (SV.r HS1.out).2.1 (SV.r HS2.out).2.1).mono ?_
                  rintro e w202 ⟨x9, y9, rfl, ho, hb⟩
                  obtain ⟨a9, n9, b9, m9, rfl, rfl⟩ := ho.shape
                  have HS3 := Lib.hid (SV.of_od ho.1)
                  have HS4 := Lib.hid (SV.of_od ho.2)
                  clear ho k0 k1
                  replace HO9 := Lib.hid (HO9.out.keep hb)
                  replace HS1 := Lib.hid (HS1.out.keep hb)
                  replace HS2 := Lib.hid (HS2.out.keep hb)
                  replace HK := Lib.hid (HK.out.keep hb)
                  replace HO7 := Lib.hid (HO7.out.keep hb)
                  replace HU1 := Lib.hid (HU1.out.keep hb)
                  replace HU2 := Lib.hid (HU2.out.keep hb)
                  replace HRw := Lib.hid (HRw.out.keep hb)
                  replace HB := bel_tr HB hb
                  clear hb
                  refine hK _ _ trivial ?_
                  clear hK K
                  refine Sch.tree_q rfl rfl (fun K hK => ?_)
                  go_big_quiet_op
                  first | refine hK _ ?_ | refine ⟨_, fun _ _ => rfl, hK _ ?_⟩
                  clear hK K
                  refine Sch.tree_q rfl rfl (fun K hK => ?_)
                  go_big_quiet_op
                  first | refine hK _ ?_ | refine ⟨_, fun _ _ => rfl, hK _ ?_⟩
                  clear hK K
                  refine Sch.tree_q rfl rfl (fun K hK => ?_)
                  go_big_quiet_op
                  first | refine hK _ ?_ | refine ⟨_, fun _ _ => rfl, hK _ ?_⟩
                  clear hK K
                  obtain ⟨⟨p0, r0⟩, r1⟩ := HO9.out.2.wc 0 (by omega)
                  obtain ⟨⟨p1, r2⟩, r3⟩ := HO9.out.2.wc 1 (by omega)
                  have HO := Lib.hid (HO9.out.put a9 b9 (ck (xs, ys) l tn (k + 1)).1.length n9 (ck (xs, ys) l tn (k + 1)).2.length m9)
                  have HX3 := Lib.hid (SV.put2 (y := (.slice a9 (ck (xs, ys) l tn (k + 1)).1.length n9)) (z := (.slice b9 (ck (xs, ys) l tn (k + 1)).2.length m9)) HS3.out HO9.out.2)
                  have HX4 := Lib.hid (SV.put2 (y := (.slice a9 (ck (xs, ys) l tn (k + 1)).1.length n9)) (z := (.slice b9 (ck (xs, ys) l tn (k + 1)).2.length m9)) HS4.out HO9.out.2)
                  have HX1 := Lib.hid (SV.put2 (y := (.slice a9 (ck (xs, ys) l tn (k + 1)).1.length n9)) (z := (.slice b9 (ck (xs, ys) l tn (k + 1)).2.length m9)) HU1.out HO9.out.2)
                  have HX2 := Lib.hid (SV.put2 (y := (.slice a9 (ck (xs, ys) l tn (k + 1)).1.length n9)) (z := (.slice b9 (ck (xs, ys) l tn (k + 1)).2.length m9)) HU2.out HO9.out.2)
                  have HKn2 : Hid (Bc ((w202.setCell ⟨g7 + 1, 0, none⟩ (.slice a9 (ck (xs, ys) l tn (k + 1)).1.length n9)).setCell ⟨g7 + 1, 1, none⟩ (.slice b9 (ck (xs, ys) l tn (k + 1)).2.length m9)) w.heap.size (.slice a xs.length n) (.slice b ys.length m)) := Lib.hid (Bc.put2 HK.out (by have := HGe.out; omega))
                  have HOn : Hid (Bc ((w202.setCell ⟨g7 + 1, 0, none⟩ (.slice a9 (ck (xs, ys) l tn (k + 1)).1.length n9)).setCell ⟨g7 + 1, 1, none⟩ (.slice b9 (ck (xs, ys) l tn (k + 1)).2.length m9)) g7 (.slice a7 u1.length n7) (.slice b7 u2.length m7)) := Lib.hid (Bc.put2 HO7.out (by omega))
                  have HB4 := Lib.hid (below_put2 (g := g7 + 1) (y := (.slice a9 (ck (xs, ys) l tn (k + 1)).1.length n9)) (z := (.slice b9 (ck (xs, ys) l tn (k + 1)).2.length m9)) HB (by have := HGe.out; omega))
                  refine Sch.tree_e rfl rfl (fun K hK => ?_)
                  go_wp2_with fail
                  refine hK _ _ trivial ?_
                  clear hK K r0 r1 r2 r3
                  refine Sch.tree_q rfl rfl (fun K hK => ?_)
                  go_big_quiet_op
                  first | refine hK _ ?_ | refine ⟨_, fun _ _ => rfl, hK _ ?_⟩
                  clear hK K
                  refine Sch.tree_n ?_
                  go_wp2_with fail
                  go_roundw
                  case rel => exact ⟨k + 1, by omega, by go_num, rfl, _, _, HO, HX3, HX4, HB4, HKn2, HOn, HX1, HX2⟩
                  case measure => simp [intOf]; omega
                · refine Sch.tree_e rfl rfl (fun K hK => ?_)
                  go_wp2_with fail
                  refine hK _ _ trivial ?_
                  clear hK K
                  refine Sch.tree_q rfl rfl (fun K hK => ?_)
                  go_big_quiet_op
                  first | refine hK _ ?_ | refine ⟨_, fun _ _ => rfl, hK _ ?_⟩
                  clear hK K
                  refine Sch.tree_q rfl rfl (fun K hK => ?_)
                  go_big_quiet_op
                  first | refine hK _ ?_ | refine ⟨_, fun _ _ => rfl, hK _ ?_⟩
                  clear hK K
                  refine Sch.tree_q rfl rfl (fun K hK => ?_)
                  go_big_quiet_op
                  first | refine hK _ ?_ | refine ⟨_, fun _ _ => rfl, hK _ ?_⟩
                  clear hK K
                  refine Sch.tree_e rfl rfl (fun K hK => ?_)
                  go_wp2_with fail
                  refine hK _ _ trivial ?_
                  clear hK K
                  refine Sch.tree_q rfl rfl (fun K hK => ?_)
                  go_big_quiet_op
                  first | refine hK _ ?_ | refine ⟨_, fun _ _ => rfl, hK _ ?_⟩
                  clear hK K
                  refine Sch.tree_q rfl rfl (fun K hK => ?_)
                  go_big_quiet_op
                  first | refine hK _ ?_ | refine ⟨_, fun _ _ => rfl, hK _ ?_⟩
                  clear hK K
                  refine Sch.tree_q rfl rfl (fun K hK => ?_)
                  go_big_quiet_op
                  first | refine hK _ ?_ | refine ⟨_, fun _ _ => rfl, hK _ ?_⟩
                  clear hK K
                  refine Sch.tree_e rfl rfl (fun K hK => ?_)
                  go_wp2_with fail
                  refine (HAc.out ao _ (SV.r HS1.out).1 (SV.r HS2.out).1 HRw.out (SV.r HS1.out).2.1 (SV.r HS2.out).2.1).mono ?_
                  rintro e w202 ⟨x9, y9, rfl, ho, hb⟩
                  obtain ⟨a9, n9, b9, m9, rfl, rfl⟩ := ho.shape
                  have HS3 := Lib.hid (SV.of_od ho.1)
                  have HS4 := Lib.hid (SV.of_od ho.2)
                  clear ho k0 k1
                  replace HO9 := Lib.hid (HO9.out.keep hb)
                  replace HS1 := Lib.hid (HS1.out.keep hb)
                  replace HS2 := Lib.hid (HS2.out.keep hb)
                  replace HK := Lib.hid (HK.out.keep hb)
                  replace HO7 := Lib.hid (HO7.out.keep hb)
                  replace HU1 := Lib.hid (HU1.out.keep hb)
                  replace HU2 := Lib.hid (HU2.out.keep hb)
                  replace HRw := Lib.hid (HRw.out.keep hb)
                  replace HB := bel_tr HB hb
                  clear hb
                  refine hK _ _ trivial ?_
                  clear hK K
                  refine Sch.tree_q rfl rfl (fun K hK => ?_)
                  go_big_quiet_op
                  first | refine hK _ ?_ | refine ⟨_, fun _ _ => rfl, hK _ ?_⟩
                  clear hK K
                  refine Sch.tree_q rfl rfl (fun K hK => ?_)
                  go_big_quiet_op
                  first | refine hK _ ?_ | refine ⟨_, fun _ _ => rfl, hK _ ?_⟩
                  clear hK K
                  refine Sch.tree_q rfl rfl (fun K hK => ?_)
                  go_big_quiet_op
                  first | refine hK _ ?_ | refine ⟨_, fun _ _ => rfl, hK _ ?_⟩
                  clear hK K
                  obtain ⟨⟨p0, r0⟩, r1⟩ := HO9.out.2.wc 0 (by omega)
                  obtain ⟨⟨p1, r2⟩, r3⟩ := HO9.out.2.wc 1 (by omega)
                  have HO := Lib.hid (HO9.out.put a9 b9 (ck (xs, ys) l tn (k + 1)).1.length n9 (ck (xs, ys) l tn (k + 1)).2.length m9)
                  have HX3 := Lib.hid (SV.put2 (y := (.slice a9 (ck (xs, ys) l tn (k + 1)).1.length n9)) (z := (.slice b9 (ck (xs, ys) l tn (k + 1)).2.length m9)) HS3.out HO9.out.2)
                  have HX4 := Lib.hid (SV.put2 (y := (.slice a9 (ck (xs, ys) l tn (k + 1)).1.length n9)) (z := (.slice b9 (ck (xs, ys) l tn (k + 1)).2.length m9)) HS4.out HO9.out.2)
                  have HX1 := Lib.hid (SV.put2 (y := (.slice a9 (ck (xs, ys) l tn (k + 1)).1.length n9)) (z := (.slice b9 (ck (xs, ys) l tn (k + 1)).2.length m9)) HU1.out HO9.out.2)
                  have HX2 := Lib.hid (SV.put2 (y := (.slice a9 (ck (xs, ys) l tn (k + 1)).1.length n9)) (z := (.slice b9 (ck (xs, ys) l tn (k + 1)).2.length m9)) HU2.out HO9.out.2)
                  have HKn2 : Hid (Bc ((w202.setCell ⟨g7 + 1, 0, none⟩ (.slice a9 (ck (xs, ys) l tn (k + 1)).1.length n9)).setCell ⟨g7 + 1, 1, none⟩ (.slice b9 (ck (xs, ys) l tn (k + 1)).2.length m9)) w.heap.size (.slice a xs.length n) (.slice b ys.length m)) := Lib.hid (Bc.put2 HK.out (by have := HGe.out; omega))
                  have HOn : Hid (Bc ((w202.setCell ⟨g7 + 1, 0, none⟩ (.slice a9 (ck (xs, ys) l tn (k + 1)).1.length n9)).setCell ⟨g7 + 1, 1, none⟩ (.slice b9 (ck (xs, ys) l tn (k + 1)).2.length m9)) g7 (.slice a7 u1.length n7) (.slice b7 u2.length m7)) := Lib.hid (Bc.put2 HO7.out (by omega))
                  have HB4 := Lib.hid (below_put2 (g := g7 + 1) (y := (.slice a9 (ck (xs, ys) l tn (k + 1)).1.length n9)) (z := (.slice b9 (ck (xs, ys) l tn (k + 1)).2.length m9)) HB (by have := HGe.out; omega))
                  refine Sch.tree_e rfl rfl (fun K hK => ?_)
                  go_wp2_with fail
                  refine hK _ _ trivial ?_
                  clear hK K r0 r1 r2 r3
                  refine Sch.tree_q rfl rfl (fun K hK => ?_)
                  go_big_quiet_op
                  first | refine hK _ ?_ | refine ⟨_, fun _ _ => rfl, hK _ ?_⟩
                  clear hK K
                  refine Sch.tree_n ?_
                  go_wp2_with fail
                  go_roundw
                  case rel => exact ⟨k + 1, by omega, by go_num, rfl, _, _, HO, HX3, HX4, HB4, HKn2, HOn, HX1, HX2⟩
                  case measure => simp [intOf]; omega
              · refine Sch.tree_e rfl rfl (fun K hK => ?_)
                go_wp2_with fail
                refine hK _ _ trivial ?_
                clear hK K
                refine Sch.tree_q rfl rfl (fun K hK => ?_)
                go_big_quiet_op
                first | refine hK _ ?_ | refine ⟨_, fun _ _ => rfl, hK _ ?_⟩
                clear hK K
                refine Sch.tree_q rfl rfl (fun K hK => ?_)
                go_big_quiet_op
                first | refine hK _ ?_ | refine ⟨_, fun _ _ => rfl, hK _ ?_⟩
                clear hK K
                refine Sch.tree_two ?_ ?_
                · refine Sch.tree_e rfl rfl (fun K hK => ?_)
                  go_wp2_with fail
                  refine hK _ _ trivial ?_
                  clear hK K
                  refine Sch.tree_e rfl rfl (fun K hK => ?_)
                  go_wp2_with fail
                  refine hK _ _ trivial ?_
                  clear hK K
                  refine Sch.tree_q rfl rfl (fun K hK => ?_)
                  go_big_quiet_op
                  first | refine hK _ ?_ | refine ⟨_, fun _ _ => rfl, hK _ ?_⟩
                  clear hK K
                  refine Sch.tree_q rfl rfl (fun K hK => ?_)
                  go_big_quiet_op
                  first | refine hK _ ?_ | refine ⟨_, fun _ _ => rfl, hK _ ?_⟩
                  clear hK K
                  refine Sch.tree_q rfl rfl (fun K hK => ?_)
                  go_big_quiet_op
                  first | refine hK _ ?_ | refine ⟨_, fun _ _ => rfl, hK _ ?_⟩
                  clear hK K
                  refine Sch.tree_q rfl rfl (fun K hK => ?_)
                  go_big_quiet_op
                  first | refine hK _ ?_ | refine ⟨_, fun _ _ => rfl, hK _ ?_⟩
                  clear hK K
                  refine Sch.tree_e rfl rfl (fun K hK => ?_)
                  go_wp2_with fail
                  refine (HAc.out ao _ (SV.r HS1.out).1 (SV.r HS2.out).1 HRw.out (SV.r HS1.out).2.1 (SV.r HS2.out).2.1).mono ?_
                  rintro e w202 ⟨x9, y9, rfl, ho, hb⟩
                  obtain ⟨a9, n9, b9, m9, rfl, rfl⟩ := ho.shape
                  have HS3 := Lib.hid (SV.of_od ho.1)
                  have HS4 := Lib.hid (SV.of_od ho.2)
                  clear ho k0 k1
                  replace HO9 := Lib.hid (HO9.out.keep hb)
                  replace HS1 := Lib.hid (HS1.out.keep hb)
                  replace HS2 := Lib.hid (HS2.out.keep hb)
                  replace HK := Lib.hid (HK.out.keep hb)
                  replace HO7 := Lib.hid (HO7.out.keep hb)
                  replace HU1 := Lib.hid (HU1.out.keep hb)
                  replace HU2 := Lib.hid (HU2.out.keep hb)
                  replace HRw := Lib.hid (HRw.out.keep hb)
                  replace HB := bel_tr HB hb
                  clear hb
                  refine hK _ _ trivial ?_
                  clear hK K
                  refine Sch.tree_q rfl rfl (fun K hK => ?_)
                  go_big_quiet_op
                  first | refine hK _ ?_ | refine ⟨_, fun _ _ => rfl, hK _ ?_⟩
                  clear hK K
                  refine Sch.tree_q rfl rfl (fun K hK => ?_)
                  go_big_quiet_op
                  first | refine hK _ ?_ | refine ⟨_, fun _ _ => rfl, hK _ ?_⟩
                  clear hK K
                  refine Sch.tree_q rfl rfl (fun K hK => ?_)
                  go_big_quiet_op
                  first | refine hK _ ?_ | refine ⟨_, fun _ _ => rfl, hK _ ?_⟩
                  clear hK K
                  obtain ⟨⟨p0, r0⟩, r1⟩ := HO9.out.2.wc 0 (by omega)
                  obtain ⟨⟨p1, r2⟩, r3⟩ := HO9.out.2.wc 1 (by omega)
                  have HO := Lib.hid (HO9.out.put a9 b9 (ck (xs, ys) l tn (k + 1)).1.length n9 (ck (xs, ys) l tn (k + 1)).2.length m9)
                  have HX3 := Lib.hid (SV.put2 (y := (.slice a9 (ck (xs, ys) l tn (k + 1)).1.length n9)) (z := (.slice b9 (ck (xs, ys) l tn (k + 1)).2.length m9)) HS3.out HO9.out.2)
                  have HX4 := Lib.hid (SV.put2 (y := (.slice a9 (ck (xs, ys) l tn (k + 1)).1.length n9)) (z := (.slice b9 (ck (xs, ys) l tn (k + 1)).2.length m9)) HS4.out HO9.out.2)
                  have HX1 := Lib.hid (SV.put2 (y := (.slice a9 (ck (xs, ys) l tn (k + 1)).1.length n9)) (z := (.slice b9 (ck (xs, ys) l tn (k + 1)).2.length m9)) HU1.out HO9.out.2)
                  have HX2 := Lib.hid (SV.put2 (y := (.slice a9 (ck (xs, ys) l tn (k + 1)).1.length n9)) (z := (.slice b9 (ck (xs, ys) l tn (k + 1)).2.length m9)) HU2.out HO9.out.2)
                  have HKn2 : Hid (Bc ((w202.setCell ⟨g7 + 1, 0, none⟩ (.slice a9 (ck (xs, ys) l tn (k + 1)).1.length n9)).setCell ⟨g7 + 1, 1, none⟩ (.slice b9 (ck (xs, ys) l tn (k + 1)).2.length m9)) w.heap.size (.slice a xs.length n) (.slice b ys.length m)) := Lib.hid (Bc.put2 HK.out (by have := HGe.out; omega))
                  have HOn : Hid (Bc ((w202.setCell ⟨g7 + 1, 0, none⟩ (.slice a9 (ck (xs, ys) l tn (k + 1)).1.length n9)).setCell ⟨g7 + 1, 1, none⟩ (.slice b9 (ck (xs, ys) l tn (k + 1)).2.length m9)) g7 (.slice a7 u1.length n7) (.slice b7 u2.length m7)) := Lib.hid (Bc.put2 HO7.out (by omega))
                  have HB4 := Lib.hid (below_put2 (g := g7 + 1) (y := (.slice a9 (ck (xs, ys) l tn (k + 1)).1.length n9)) (z := (.slice b9 (ck (xs, ys) l tn (k + 1)).2.length m9)) HB (by have := HGe.out; omega))
                  refine Sch.tree_e rfl rfl (fun K hK => ?_)
                  go_wp2_with fail
                  refine hK _ _ trivial ?_
                  clear hK K r0 r1 r2 r3
                  refine Sch.tree_q rfl rfl (fun K hK => ?_)
                  go_big_quiet_op
                  first | refine hK _ ?_ | refine ⟨_, fun _ _ => rfl, hK _ ?_⟩
                  clear hK K
                  refine Sch.tree_n ?_
                  go_wp2_with fail
                  go_roundw
                  case rel => exact ⟨k + 1, by omega, by go_num, rfl, _, _, HO, HX3, HX4, HB4, HKn2, HOn, HX1, HX2⟩
                  case measure => simp [intOf]; omega
                · refine Sch.tree_e rfl rfl (fun K hK => ?_)
                  go_wp2_with fail
                  refine hK _ _ trivial ?_
                  clear hK K
                  refine Sch.tree_q rfl rfl (fun K hK => ?_)
                  go_big_quiet_op
                  first | refine hK _ ?_ | refine ⟨_, fun _ _ => rfl, hK _ ?_⟩
                  clear hK K
                  refine Sch.tree_q rfl rfl (fun K hK => ?_)
                  go_big_quiet_op
                  first | refine hK _ ?_ | refine ⟨_, fun _ _ => rfl, hK _ ?_⟩
                  clear hK K
                  refine Sch.tree_q rfl rfl (fun K hK => ?_)
                  go_big_quiet_op
                  first | refine hK _ ?_ | refine ⟨_, fun _ _ => rfl, hK _ ?_⟩
                  clear hK K
                  refine Sch.tree_q rfl rfl (fun K hK => ?_)
                  go_big_quiet_op
                  first | refine hK _ ?_ | refine ⟨_, fun _ _ => rfl, hK _ ?_⟩
                  clear hK K
                  refine Sch.tree_e rfl rfl (fun K hK => ?_)
                  go_wp2_with fail
                  refine hK _ _ trivial ?_
                  clear hK K
                  refine Sch.tree_e rfl rfl (fun K hK => ?_)
                  go_wp2_with fail
                  refine (HAc.out ao _ (SV.r HS1.out).1 (SV.r HS2.out).1 HRw.out (SV.r HS1.out).2.1 (SV.r HS2.out).2.1).mono ?_
                  rintro e w202 ⟨x9, y9, rfl, ho, hb⟩
                  obtain ⟨a9, n9, b9, m9, rfl, rfl⟩ := ho.shape
                  have HS3 := Lib.hid (SV.of_od ho.1)
                  have HS4 := Lib.hid (SV.of_od ho.2)
                  clear ho k0 k1
                  replace HO9 := Lib.hid (HO9.out.keep hb)
                  replace HS1 := Lib.hid (HS1.out.keep hb)
                  replace HS2 := Lib.hid (HS2.out.keep hb)
                  replace HK := Lib.hid (HK.out.keep hb)
                  replace HO7 := Lib.hid (HO7.out.keep hb)
                  replace HU1 := Lib.hid (HU1.out.keep hb)
                  replace HU2 := Lib.hid (HU2.out.keep hb)
                  replace HRw := Lib.hid (HRw.out.keep hb)
                  replace HB := bel_tr HB hb
                  clear hb
                  refine hK _ _ trivial ?_
                  clear hK K
                  refine Sch.tree_q rfl rfl (fun K hK => ?_)
                  go_big_quiet_op
                  first | refine hK _ ?_ | refine ⟨_, fun _ _ => rfl, hK _ ?_⟩
                  clear hK K
                  refine Sch.tree_q rfl rfl (fun K hK => ?_)
                  go_big_quiet_op
                  first | refine hK _ ?_ | refine ⟨_, fun _ _ => rfl, hK _ ?_⟩
                  clear hK K
                  refine Sch.tree_q rfl rfl (fun K hK => ?_)
                  go_big_quiet_op
                  first | refine hK _ ?_ | refine ⟨_, fun _ _ => rfl, hK _ ?_⟩
                  clear hK K
                  obtain ⟨⟨p0, r0⟩, r1⟩ := HO9.out.2.wc 0 (by omega)
                  obtain ⟨⟨p1, r2⟩, r3⟩ := HO9.out.2.wc 1 (by omega)
                  have HO := Lib.hid (HO9.out.put a9 b9 (ck (xs, ys) l tn (k + 1)).1.length n9 (ck (xs, ys) l tn (k + 1)).2.length m9)
                  have HX3 := Lib.hid (SV.put2 (y := (.slice a9 (ck (xs, ys) l tn (k + 1)).1.length n9)) (z := (.slice b9 (ck (xs, ys) l tn (k + 1)).2.length m9)) HS3.out HO9.out.2)
                  have HX4 := Lib.hid (SV.put2 (y := (.slice a9 (ck (xs, ys) l tn (k + 1)).1.length n9)) (z := (.slice b9 (ck (xs, ys) l tn (k + 1)).2.length m9)) HS4.out HO9.out.2)
                  have HX1 := Lib.hid (SV.put2 (y := (.slice a9 (ck (xs, ys) l tn (k + 1)).1.length n9)) (z := (.slice b9 (ck (xs, ys) l tn (k + 1)).2.length m9)) HU1.out HO9.out.2)
                  have HX2 := Lib.hid (SV.put2 (y := (.slice a9 (ck (xs, ys) l tn (k + 1)).1.length n9)) (z := (.slice b9 (ck (xs, ys) l tn (k + 1)).2.length m9)) HU2.out HO9.out.2)
                  have HKn2 : Hid (Bc ((w202.setCell ⟨g7 + 1, 0, none⟩ (.slice a9 (ck (xs, ys) l tn (k + 1)).1.length n9)).setCell ⟨g7 + 1, 1, none⟩ (.slice b9 (ck (xs, ys) l tn (k + 1)).2.length m9)) w.heap.size (.slice a xs.length n) (.slice b ys.length m)) := Lib.hid (Bc.put2 HK.out (by have := HGe.out; omega))
                  have HOn : Hid (Bc ((w202.setCell ⟨g7 + 1, 0, none⟩ (.slice a9 (ck (xs, ys) l tn (k + 1)).1.length n9)).setCell ⟨g7 + 1, 1, none⟩ (.slice b9 (ck (xs, ys) l tn (k + 1)).2.length m9)) g7 (.slice a7 u1.length n7) (.slice b7 u2.length m7)) := Lib.hid (Bc.put2 HO7.out (by omega))
                  have HB4 := Lib.hid (below_put2 (g := g7 + 1) (y := (.slice a9 (ck (xs, ys) l tn (k + 1)).1.length n9)) (z := (.slice b9 (ck (xs, ys) l tn (k + 1)).2.length m9)) HB (by have := HGe.out; omega))
                  refine Sch.tree_e rfl rfl (fun K hK => ?_)
                  go_wp2_with fail
                  refine hK _ _ trivial ?_
                  clear hK K r0 r1 r2 r3
                  refine Sch.tree_q rfl rfl (fun K hK => ?_)
                  go_big_quiet_op
                  first | refine hK _ ?_ | refine ⟨_, fun _ _ => rfl, hK _ ?_⟩
                  clear hK K
                  refine Sch.tree_n ?_
                  go_wp2_with fail
                  go_roundw
                  case rel => exact ⟨k + 1, by omega, by go_num, rfl, _, _, HO, HX3, HX4, HB4, HKn2, HOn, HX1, HX2⟩
                  case measure => simp [intOf]; omega
              · refine Sch.tree_e rfl rfl (fun K hK => ?_)
                go_wp2_with fail
                refine hK _ _ trivial ?_
                clear hK K
                refine Sch.tree_q rfl rfl (fun K hK => ?_)
                go_big_quiet_op
                first | refine hK _ ?_ | refine ⟨_, fun _ _ => rfl, hK _ ?_⟩
                clear hK K
                refine Sch.tree_q rfl rfl (fun K hK => ?_)
                go_big_quiet_op
                first | refine hK _ ?_ | refine ⟨_, fun _ _ => rfl, hK _ ?_⟩
                clear hK K
                refine Sch.tree_q rfl rfl (fun K hK => ?_)
                go_big_quiet_op
                first | refine hK _ ?_ | refine ⟨_, fun _ _ => rfl, hK _ ?_⟩
                clear hK K
                refine Sch.tree_two ?_ ?_
                · refine Sch.tree_e rfl rfl (fun K hK => ?_)
                  go_wp2_with fail
                  refine hK _ _ trivial ?_
                  clear hK K
                  refine Sch.tree_e rfl rfl (fun K hK => ?_)
                  go_wp2_with fail
                  refine hK _ _ trivial ?_
                  clear hK K
                  refine Sch.tree_q rfl rfl (fun K hK => ?_)
                  go_big_quiet_op
                  first | refine hK _ ?_ | refine ⟨_, fun _ _ => rfl, hK _ ?_⟩
                  clear hK K
                  refine Sch.tree_q rfl rfl (fun K hK => ?_)
                  go_big_quiet_op
                  first | refine hK _ ?_ | refine ⟨_, fun _ _ => rfl, hK _ ?_⟩
                  clear hK K
                  refine Sch.tree_q rfl rfl (fun K hK => ?_)
                  go_big_quiet_op
                  first | refine hK _ ?_ | refine ⟨_, fun _ _ => rfl, hK _ ?_⟩
                  clear hK K
                  refine Sch.tree_e rfl rfl (fun K hK => ?_)
                  go_wp2_with fail
                  refine (HAc.out ao _ (SV.r HS1.out).1 (SV.r HS2.out).1 HRw.out (SV.r HS1.out).2.1 (SV.r HS2.out).2.1).mono ?_
                  rintro e w202 ⟨x9, y9, rfl, ho, hb⟩
                  obtain ⟨a9, n9, b9, m9, rfl, rfl⟩ := ho.shape
                  have HS3 := Lib.hid (SV.of_od ho.1)
                  have HS4 := Lib.hid (SV.of_od ho.2)
                  clear ho k0 k1
                  replace HO9 := Lib.hid (HO9.out.keep hb)
                  replace HS1 := Lib.hid (HS1.out.keep hb)
                  replace HS2 := Lib.hid (HS2.out.keep hb)
                  replace HK := Lib.hid (HK.out.keep hb)
                  replace HO7 := Lib.hid (HO7.out.keep hb)
                  replace HU1 := Lib.hid (HU1.out.keep hb)
                  replace HU2 := Lib.hid (HU2.out.keep hb)
                  replace HRw := Lib.hid (HRw.out.keep hb)
                  replace HB := bel_tr HB hb
                  clear hb
                  refine hK _ _ trivial ?_
                  clear hK K
                  refine Sch.tree_q rfl rfl (fun K hK => ?_)
                  go_big_quiet_op
                  first | refine hK _ ?_ | refine ⟨_, fun _ _ => rfl, hK _ ?_⟩
                  clear hK K
                  refine Sch.tree_q rfl rfl (fun K hK => ?_)
                  go_big_quiet_op
                  first | refine hK _ ?_ | refine ⟨_, fun _ _ => rfl, hK _ ?_⟩
                  clear hK K
                  refine Sch.tree_q rfl rfl (fun K hK => ?_)
                  go_big_quiet_op
                  first | refine hK _ ?_ | refine ⟨_, fun _ _ => rfl, hK _ ?_⟩
                  clear hK K
                  obtain ⟨⟨p0, r0⟩, r1⟩ := HO9.out.2.wc 0 (by omega)
                  obtain ⟨⟨p1, r2⟩, r3⟩ := HO9.out.2.wc 1 (by omega)
                  have HO := Lib.hid (HO9.out.put a9 b9 (ck (xs, ys) l tn (k + 1)).1.length n9 (ck (xs, ys) l tn (k + 1)).2.length m9)
                  have HX3 := Lib.hid (SV.put2 (y := (.slice a9 (ck (xs, ys) l tn (k + 1)).1.length n9)) (z := (.slice b9 (ck (xs, ys) l tn (k + 1)).2.length m9)) HS3.out HO9.out.2)
                  have HX4 := Lib.hid (SV.put2 (y := (.slice a9 (ck (xs, ys) l tn (k + 1)).1.length n9)) (z := (.slice b9 (ck (xs, ys) l tn (k + 1)).2.length m9)) HS4.out HO9.out.2)
                  have HX1 := Lib.hid (SV.put2 (y := (.slice a9 (ck (xs, ys) l tn (k + 1)).1.length n9)) (z := (.slice b9 (ck (xs, ys) l tn (k + 1)).2.length m9)) HU1.out HO9.out.2)
                  have HX2 := Lib.hid (SV.put2 (y := (.slice a9 (ck (xs, ys) l tn (k + 1)).1.length n9)) (z := (.slice b9 (ck (xs, ys) l tn (k + 1)).2.length m9)) HU2.out HO9.out.2)
                  have HKn2 : Hid (Bc ((w202.setCell ⟨g7 + 1, 0, none⟩ (.slice a9 (ck (xs, ys) l tn (k + 1)).1.length n9)).setCell ⟨g7 + 1, 1, none⟩ (.slice b9 (ck (xs, ys) l tn (k + 1)).2.length m9)) w.heap.size (.slice a xs.length n) (.slice b ys.length m)) := Lib.hid (Bc.put2 HK.out (by have := HGe.out; omega))
                  have HOn : Hid (Bc ((w202.setCell ⟨g7 + 1, 0, none⟩ (.slice a9 (ck (xs, ys) l tn (k + 1)).1.length n9)).setCell ⟨g7 + 1, 1, none⟩ (.slice b9 (ck (xs, ys) l tn (k + 1)).2.length m9)) g7 (.slice a7 u1.length n7) (.slice b7 u2.length m7)) := Lib.hid (Bc.put2 HO7.out (by omega))
                  have HB4 := Lib.hid (below_put2 (g := g7 + 1) (y := (.slice a9 (ck (xs, ys) l tn (k + 1)).1.length n9)) (z := (.slice b9 (ck (xs, ys) l tn (k + 1)).2.length m9)) HB (by have := HGe.out; omega))
                  refine Sch.tree_e rfl rfl (fun K hK => ?_)
                  go_wp2_with fail
                  refine hK _ _ trivial ?_
                  clear hK K r0 r1 r2 r3
                  refine Sch.tree_q rfl rfl (fun K hK => ?_)
                  go_big_quiet_op
                  first | refine hK _ ?_ | refine ⟨_, fun _ _ => rfl, hK _ ?_⟩
                  clear hK K
                  refine Sch.tree_n ?_
                  go_wp2_with fail
                  go_roundw
                  case rel => exact ⟨k + 1, by omega, by go_num, rfl, _, _, HO, HX3, HX4, HB4, HKn2, HOn, HX1, HX2⟩
                  case measure => simp [intOf]; omega
                · refine Sch.tree_e rfl rfl (fun K hK => ?_)
                  go_wp2_with fail
                  refine hK _ _ trivial ?_
                  clear hK K
                  refine Sch.tree_q rfl rfl (fun K hK => ?_)
                  go_big_quiet_op
                  first | refine hK _ ?_ | refine ⟨_, fun _ _ => rfl, hK _ ?_⟩
                  clear hK K
                  refine Sch.tree_q rfl rfl (fun K hK => ?_)
                  go_big_quiet_op
                  first | refine hK _ ?_ | refine ⟨_, fun _ _ => rfl, hK _ ?_⟩
                  clear hK K
                  refine Sch.tree_q rfl rfl (fun K hK => ?_)
                  go_big_quiet_op
                  first | refine hK _ ?_ | refine ⟨_, fun _ _ => rfl, hK _ ?_⟩
                  clear hK K
                  refine Sch.tree_e rfl rfl (fun K hK => ?_)
                  go_wp2_with fail
                  refine hK _ _ trivial ?_
                  clear hK K
                  refine Sch.tree_e rfl rfl (fun K hK => ?_)
                  go_wp2_with fail
                  refine (HAc.out ao _ (SV.r HS1.out).1 (SV.r HS2.out).1 HRw.out (SV.r HS1.out).2.1 (SV.r HS2.out).2.1).mono ?_
                  rintro e w202 ⟨x9, y9, rfl, ho, hb⟩
                  obtain ⟨a9, n9, b9, m9, rfl, rfl⟩ := ho.shape
                  have HS3 := Lib.hid (SV.of_od ho.1)
                  have HS4 := Lib.hid (SV.of_od ho.2)
                  clear ho k0 k1
                  replace HO9 := Lib.hid (HO9.out.keep hb)
                  replace HS1 := Lib.hid (HS1.out.keep hb)
                  replace HS2 := Lib.hid (HS2.out.keep hb)
                  replace HK := Lib.hid (HK.out.keep hb)
                  replace HO7 := Lib.hid (HO7.out.keep hb)
                  replace HU1 := Lib.hid (HU1.out.keep hb)
                  replace HU2 := Lib.hid (HU2.out.keep hb)
                  replace HRw := Lib.hid (HRw.out.keep hb)
                  replace HB := bel_tr HB hb
                  clear hb
                  refine hK _ _ trivial ?_
                  clear hK K
                  refine Sch.tree_q rfl rfl (fun K hK => ?_)
                  go_big_quiet_op
                  first | refine hK _ ?_ | refine ⟨_, fun _ _ => rfl, hK _ ?_⟩
                  clear hK K
                  refine Sch.tree_q rfl rfl (fun K hK => ?_)
                  go_big_quiet_op
                  first | refine hK _ ?_ | refine ⟨_, fun _ _ => rfl, hK _ ?_⟩
                  clear hK K
                  refine Sch.tree_q rfl rfl (fun K hK => ?_)
                  go_big_quiet_op
                  first | refine hK _ ?_ | refine ⟨_, fun _ _ => rfl, hK _ ?_⟩
                  clear hK K
                  obtain ⟨⟨p0, r0⟩, r1⟩ := HO9.out.2.wc 0 (by omega)
                  obtain ⟨⟨p1, r2⟩, r3⟩ := HO9.out.2.wc 1 (by omega)
                  have HO := Lib.hid (HO9.out.put a9 b9 (ck (xs, ys) l tn (k + 1)).1.length n9 (ck (xs, ys) l tn (k + 1)).2.length m9)
                  have HX3 := Lib.hid (SV.put2 (y := (.slice a9 (ck (xs, ys) l tn (k + 1)).1.length n9)) (z := (.slice b9 (ck (xs, ys) l tn (k + 1)).2.length m9)) HS3.out HO9.out.2)
                  have HX4 := Lib.hid (SV.put2 (y := (.slice a9 (ck (xs, ys) l tn (k + 1)).1.length n9)) (z := (.slice b9 (ck (xs, ys) l tn (k + 1)).2.length m9)) HS4.out HO9.out.2)
                  have HX1 := Lib.hid (SV.put2 (y := (.slice a9 (ck (xs, ys) l tn (k + 1)).1.length n9)) (z := (.slice b9 (ck (xs, ys) l tn (k + 1)).2.length m9)) HU1.out HO9.out.2)
                  have HX2 := Lib.hid (SV.put2 (y := (.slice a9 (ck (xs, ys) l tn (k + 1)).1.length n9)) (z := (.slice b9 (ck (xs, ys) l tn (k + 1)).2.length m9)) HU2.out HO9.out.2)
                  have HKn2 : Hid (Bc ((w202.setCell ⟨g7 + 1, 0, none⟩ (.slice a9 (ck (xs, ys) l tn (k + 1)).1.length n9)).setCell ⟨g7 + 1, 1, none⟩ (.slice b9 (ck (xs, ys) l tn (k + 1)).2.length m9)) w.heap.size (.slice a xs.length n) (.slice b ys.length m)) := Lib.hid (Bc.put2 HK.out (by have := HGe.out; omega))
                  have HOn : Hid (Bc ((w202.setCell ⟨g7 + 1, 0, none⟩ (.slice a9 (ck (xs, ys) l tn (k + 1)).1.length n9)).setCell ⟨g7 + 1, 1, none⟩ (.slice b9 (ck (xs, ys) l tn (k + 1)).2.length m9)) g7 (.slice a7 u1.length n7) (.slice b7 u2.length m7)) := Lib.hid (Bc.put2 HO7.out (by omega))
                  have HB4 := Lib.hid (below_put2 (g := g7 + 1) (y := (.slice a9 (ck (xs, ys) l tn (k + 1)).1.length n9)) (z := (.slice b9 (ck (xs, ys) l tn (k + 1)).2.length m9)) HB (by have := HGe.out; omega))
                  refine Sch.tree_e rfl rfl (fun K hK => ?_)
                  go_wp2_with fail
                  refine hK _ _ trivial ?_
                  clear hK K r0 r1 r2 r3
                  refine Sch.tree_q rfl rfl (fun K hK => ?_)
                  go_big_quiet_op
                  first | refine hK _ ?_ | refine ⟨_, fun _ _ => rfl, hK _ ?_⟩
                  clear hK K
                  refine Sch.tree_n ?_
                  go_wp2_with fail
                  go_roundw
                  case rel => exact ⟨k + 1, by omega, by go_num, rfl, _, _, HO, HX3, HX4, HB4, HKn2, HOn, HX1, HX2⟩
                  case measure => simp [intOf]; omega
            · obtain rfl : k = l.length := by omega
              have hi1 : ¬ (l.length : Int) < (l.length : Int) := by omega
              have HGe := Lib.hid hge7
              have HX := Lib.hid (HX0.out.keep HB.out)
              have HY := Lib.hid (HY0.out.keep HB.out)
              have HL := Lib.hid (HL0.out.keep HB.out)
              clear hlt
              generalize wr = w300 at *
              by_cases h0 : l.length = 0
              · have hz : ((l.length : Int) == 0) = true := by simpa using h0
                have HCq := Lib.hid (HCp.out h0)
                clear h0
                have k0 := HK.out.1
                have k1 := HK.out.2
                go_wp2_with fail
                refine (HCq.out _ HX.out HY.out).mono ?_
                rintro e w301 ⟨x9, y9, rfl, ho, hb⟩
                obtain ⟨a9, n9, b9, m9, rfl, rfl⟩ := ho.shape
                have HS3 := Lib.hid (SV.of_od ho.1)
                have HS4 := Lib.hid (SV.of_od ho.2)
                clear ho k0 k1
                simp only at HS3 HS4
                replace HO9 := Lib.hid (HO9.out.keep hb)
                replace HK := Lib.hid (HK.out.keep hb)
                replace HO7 := Lib.hid (HO7.out.keep hb)
                replace HU1 := Lib.hid (HU1.out.keep hb)
                replace HU2 := Lib.hid (HU2.out.keep hb)
                replace HX := Lib.hid (HX.out.keep hb)
                replace HY := Lib.hid (HY.out.keep hb)
                replace HL := Lib.hid (HL.out.keep hb)
                replace HB := bel_tr HB hb
                clear hb
                obtain ⟨⟨p0, r0⟩, r1⟩ := HO9.out.2.wc 0 (by omega)
                obtain ⟨⟨p1, r2⟩, r3⟩ := HO9.out.2.wc 1 (by omega)
                have HO := Lib.hid (HO9.out.put a9 b9 u1.length n9 u2.length m9)
                have HX3 := Lib.hid (SV.put2 (y := (.slice a9 u1.length n9)) (z := (.slice b9 u2.length m9)) HS3.out HO9.out.2)
                have HX4 := Lib.hid (SV.put2 (y := (.slice a9 u1.length n9)) (z := (.slice b9 u2.length m9)) HS4.out HO9.out.2)
                have HX1 := Lib.hid (SV.put2 (y := (.slice a9 u1.length n9)) (z := (.slice b9 u2.length m9)) HU1.out HO9.out.2)
                have HX2 := Lib.hid (SV.put2 (y := (.slice a9 u1.length n9)) (z := (.slice b9 u2.length m9)) HU2.out HO9.out.2)
                have HOn : Hid (Bc ((w301.setCell ⟨g7 + 1, 0, none⟩ (.slice a9 u1.length n9)).setCell ⟨g7 + 1, 1, none⟩ (.slice b9 u2.length m9)) g7 (.slice a7 u1.length n7) (.slice b7 u2.length m7)) := Lib.hid (Bc.put2 HO7.out (by omega))
                have HB4 := Lib.hid (below_put2 (g := g7 + 1) (y := (.slice a9 u1.length n9)) (z := (.slice b9 u2.length m9)) HB (by have := HGe.out; omega))
                clear HO9 HS3 HS4 HU1 HU2 HO7 HB HX HY HK HL
                have HO9 := HO
                have HS3 := HX3
                have HS4 := HX4
                have HU1 := HX1
                have HU2 := HX2
                have HO7 := HOn
                have HB := HB4
                clear HO HX3 HX4 HX1 HX2 HOn HB4
                have HL := Lib.hid (HL0.out.keep HB.out)
                have k4 := HO9.out.1.1
                have k5 := HO9.out.1.2
                have k6 := HO7.out.1
                have k7 := HO7.out.2
                go_wp2_with fail
                generalize ((w301.setCell ⟨g7 + 1, 0, none⟩ (.slice a9 u1.length n9)).setCell ⟨g7 + 1, 1, none⟩ (.slice b9 u2.length m9)) = w302 at *
                clear r0 r1 r2 r3 k4 k5 k6 k7
                refine (HE.out a9 b9 a7 b7 n9 m9 n7 m7 _ (SV.r HS3.out).1 (SV.r HS4.out).1 (SV.r HU1.out).1 (SV.r HU2.out).1).mono ?_
                rintro e w303 ⟨rfl, hb⟩
                replace HO9 := Lib.hid (HO9.out.keep hb)
                replace HS3 := Lib.hid (HS3.out.keep hb)
                replace HS4 := Lib.hid (HS4.out.keep hb)
                replace HO7 := Lib.hid (HO7.out.keep hb)
                replace HU1 := Lib.hid (HU1.out.keep hb)
                replace HU2 := Lib.hid (HU2.out.keep hb)
                replace HL := Lib.hid (HL.out.keep hb)
                replace HB := bel_tr HB hb
                clear hb
                have k4 := HO9.out.1.1
                have k5 := HO9.out.1.2
                have k6 := HO7.out.1
                have k7 := HO7.out.2
                go_wp2_with fail
                refine (HI.out a7 b7 n7 m7 _ (SV.r HU1.out).1 (SV.r HU2.out).1).mono ?_
                rintro e w304 ⟨rfl, hb⟩
                replace HO9 := Lib.hid (HO9.out.keep hb)
                replace HS3 := Lib.hid (HS3.out.keep hb)
                replace HS4 := Lib.hid (HS4.out.keep hb)
                replace HO7 := Lib.hid (HO7.out.keep hb)
                replace HU1 := Lib.hid (HU1.out.keep hb)
                replace HU2 := Lib.hid (HU2.out.keep hb)
                replace HL := Lib.hid (HL.out.keep hb)
                replace HB := bel_tr HB hb
                clear hb
                clear k4 k5 k6 k7
                have k4 := HO9.out.1.1
                have k5 := HO9.out.1.2
                have k6 := HO7.out.1
                have k7 := HO7.out.2
                go_wp2_with fail
                refine (HM.out a7 b7 n7 m7 _ (SV.r HU1.out).1 (SV.r HU2.out).1 HL.out).mono ?_
                rintro e w305 ⟨v, rfl, ho, hb⟩
                obtain ⟨av, nv, rfl, -⟩ := SV.sh (SV.of_od ho)
                clear ho
                replace HO9 := Lib.hid (HO9.out.keep hb)
                replace HS3 := Lib.hid (HS3.out.keep hb)
                replace HS4 := Lib.hid (HS4.out.keep hb)
                replace HO7 := Lib.hid (HO7.out.keep hb)
                replace HU1 := Lib.hid (HU1.out.keep hb)
                replace HU2 := Lib.hid (HU2.out.keep hb)
                replace HL := Lib.hid (HL.out.keep hb)
                replace HB := bel_tr HB hb
                clear hb
                clear k4 k5 k6 k7

                go_wp2_with fail
                refine (HKn.out _).mono ?_
                rintro e w306 ⟨rfl, hb⟩
                replace HO9 := Lib.hid (HO9.out.keep hb)
                replace HS3 := Lib.hid (HS3.out.keep hb)
                replace HS4 := Lib.hid (HS4.out.keep hb)
                replace HO7 := Lib.hid (HO7.out.keep hb)
                replace HU1 := Lib.hid (HU1.out.keep hb)
                replace HU2 := Lib.hid (HU2.out.keep hb)
                replace HL := Lib.hid (HL.out.keep hb)
                replace HB := bel_tr HB hb
                clear hb
                go_wp2_with fail
                go_ret
                exact ⟨rfl, HB.out⟩
              · have hz : ((l.length : Int) == 0) = false := by simpa using h0
                have he := HCe.out (by omega)
                rw [he] at HS1 HS2
                clear he h0
                simp only at HS1 HS2
                obtain ⟨ax, nx, rfl, -⟩ := SV.sh HS1.out
                obtain ⟨ay, ny, rfl, -⟩ := SV.sh HS2.out
                have k4 := HO9.out.1.1
                have k5 := HO9.out.1.2
                have k6 := HO7.out.1
                have k7 := HO7.out.2
                go_wp2_with fail
                clear k4 k5 k6 k7
                refine (HE.out ax ay a7 b7 nx ny n7 m7 _ (SV.r HS1.out).1 (SV.r HS2.out).1 (SV.r HU1.out).1 (SV.r HU2.out).1).mono ?_
                rintro e w301 ⟨rfl, hb⟩
                replace HO9 := Lib.hid (HO9.out.keep hb)
                replace HS1 := Lib.hid (HS1.out.keep hb)
                replace HS2 := Lib.hid (HS2.out.keep hb)
                replace HO7 := Lib.hid (HO7.out.keep hb)
                replace HU1 := Lib.hid (HU1.out.keep hb)
                replace HU2 := Lib.hid (HU2.out.keep hb)
                replace HL := Lib.hid (HL.out.keep hb)
                replace HB := bel_tr HB hb
                clear hb
                have k4 := HO9.out.1.1
                have k5 := HO9.out.1.2
                have k6 := HO7.out.1
                have k7 := HO7.out.2
                go_wp2_with fail
                refine (HI.out a7 b7 n7 m7 _ (SV.r HU1.out).1 (SV.r HU2.out).1).mono ?_
                rintro e w302 ⟨rfl, hb⟩
                replace HO9 := Lib.hid (HO9.out.keep hb)
                replace HS1 := Lib.hid (HS1.out.keep hb)
                replace HS2 := Lib.hid (HS2.out.keep hb)
                replace HO7 := Lib.hid (HO7.out.keep hb)
                replace HU1 := Lib.hid (HU1.out.keep hb)
                replace HU2 := Lib.hid (HU2.out.keep hb)
                replace HL := Lib.hid (HL.out.keep hb)
                replace HB := bel_tr HB hb
                clear hb
                clear k4 k5 k6 k7
                have k4 := HO9.out.1.1
                have k5 := HO9.out.1.2
                have k6 := HO7.out.1
                have k7 := HO7.out.2
                go_wp2_with fail
                refine (HM.out a7 b7 n7 m7 _ (SV.r HU1.out).1 (SV.r HU2.out).1 HL.out).mono ?_
                rintro e w303 ⟨v, rfl, ho, hb⟩
                obtain ⟨av, nv, rfl, -⟩ := SV.sh (SV.of_od ho)
                clear ho
                replace HO9 := Lib.hid (HO9.out.keep hb)
                replace HS1 := Lib.hid (HS1.out.keep hb)
                replace HS2 := Lib.hid (HS2.out.keep hb)
                replace HO7 := Lib.hid (HO7.out.keep hb)
                replace HU1 := Lib.hid (HU1.out.keep hb)
                replace HU2 := Lib.hid (HU2.out.keep hb)
                replace HL := Lib.hid (HL.out.keep hb)
                replace HB := bel_tr HB hb
                clear hb
                clear k4 k5 k6 k7

                go_wp2_with fail
                refine (HKn.out _).mono ?_
                rintro e w304 ⟨rfl, hb⟩
                replace HO9 := Lib.hid (HO9.out.keep hb)
                replace HS1 := Lib.hid (HS1.out.keep hb)
                replace HS2 := Lib.hid (HS2.out.keep hb)
                replace HO7 := Lib.hid (HO7.out.keep hb)
                replace HU1 := Lib.hid (HU1.out.keep hb)
                replace HU2 := Lib.hid (HU2.out.keep hb)
                replace HL := Lib.hid (HL.out.keep hb)
                replace HB := bel_tr HB hb
                clear hb
                go_wp2_with fail
                go_ret
                exact ⟨rfl, HB.out⟩
  · rw [show decide (xs.length ≤ 40 ∧ ys.length ≤ 40) = false by simpa using h1] at HLi
    clear h1 hll
    go_enter Try.func7, Try.ntmps7
    go_wp2_with fail
    generalize w.alloc (cbox (.slice a xs.length n) (.slice b ys.length m)) = w1 at *
    refine (HLi.out _).mono ?_
    rintro e w2 ⟨rfl, hb⟩
    replace HX := Lib.hid (HX.out.keep hb)
    replace HY := Lib.hid (HY.out.keep hb)
    replace HL := Lib.hid (HL.out.keep hb)
    replace HK := Lib.hid (HK.out.keep hb)
    replace HB := bel_tr HB hb
    clear hb
    clear k0 k1
    have k0 := HK.out.1
    have k1 := HK.out.2
    go_wp2_with fail
    refine (HKn.out _).mono ?_
    rintro e w3 ⟨rfl, hb⟩
    replace HX := Lib.hid (HX.out.keep hb)
    replace HY := Lib.hid (HY.out.keep hb)
    replace HL := Lib.hid (HL.out.keep hb)
    replace HK := Lib.hid (HK.out.keep hb)
    replace HB := bel_tr HB hb
    clear hb
    go_wp2_with fail
    go_ret
    exact ⟨rfl, HB.out⟩
end Go.Proofs.Ytefnoajkdhgonaa.F
