/-
  Layer 15: what the laws call: the reference's Replace, Delete and Cut; the laws' helpers.
-/
import Derived.Test.YtkcbekebleodaaaGreatMEdG
import Derived.Test.YtkcbekebleodaaaGreatMGen
import Derived.Laws.Cover4
import Derived.Test.YtkcbekebleodaaaGreatMQAdd

section
namespace Go.Proofs.YtkcbekebleodaaaGreat.Ed
set_option linter.unusedVariables false
open Go.RowKit V Go.Shelf Go.Sort D Nd Qs Wk Ix Jn Fo
attribute [local irreducible] Sch.heldN Sch.stepV Sch.stepE

theorem replace_ref (l : List Nt) (d : Dt) (i n : Int) (rs : List Int) (a b : Option Addr) (c e : Nat) (w : World) (hx : RowN w a l) (hr : G.RowI .i32 w b rs) (hlx : l.length ≤ 300000) (hrl : rs.length ≤ 1000000) :
    Calls Tryz.prog 12 #[.slice a l.length c, dv d, .int .i64 i, .int .i64 n, .slice b rs.length e] w fun e w' => ∃ v, e = .returned (.tuple #[v, .int .i64 (repP l d i n rs).2]) ∧ ON w' w.heap.size EN v (repP l d i n rs).1 ∧ Below w.heap.size w w' := by
  by_cases h : (wellS l && validR d) = false ∨ offR l i n
  · refine (replace_bad l d i n rs a b c e w hx hlx h).mono ?_
    rintro e w2 ⟨rfl, h2, hb⟩
    exact ⟨_, rfl, by rw [h2]; exact ON.nil _ _ _, hb⟩
  · rw [not_or] at h
    obtain ⟨h1, h2⟩ := h
    rw [Bool.not_eq_false, Bool.and_eq_true] at h1
    unfold offR at h2
    obtain ⟨m, rfl⟩ : ∃ m : Nat, i = (m : Int) := ⟨i.toNat, by omega⟩
    obtain ⟨k, rfl⟩ : ∃ k : Nat, n = (k : Int) := ⟨n.toNat, by omega⟩
    exact replace_in l d m k rs a b c e w hx hr hlx hrl h1.1 h1.2 (by omega)
set_option maxRecDepth 100000 in
theorem delete_ref (l : List Nt) (i n : Int) (a : Option Addr) (c : Nat) (w : World) (hx : RowN w a l) (hlx : l.length ≤ 300000) :
    Calls Tryz.prog 17 #[.slice a l.length c, .int .i64 i, .int .i64 n] w fun e w' => ∃ v, e = .returned (.tuple #[v, .int .i64 (delP l i n).2]) ∧ ON w' w.heap.size EN v (delP l i n).1 ∧ Below w.heap.size w w' := by
  have H := Lib.hid (replace_ref l (1, 1) i n [] a none c 0 w hx (.inl rfl) hlx (by simp))
  unfold delP
  clear hx hlx
  generalize repP l (1, 1) i n [] = R at *
  go_enter Tryz.func17, Tryz.ntmps17
  go_wp2_with fail
  refine H.out.mono ?_
  rintro e w2 ⟨v, rfl, ho, hb⟩
  have HO := Lib.hid ho
  have HB := Lib.hid hb
  clear ho hb H
  go_wp2_with fail
  go_ret2
  exact ⟨_, rfl, HO.out, HB.out⟩
/-! ### Parts of rows of runes -/
theorem cut_loI (a : Option Addr) (len cap n : Nat) (hn : n ≤ cap) : ∀ wx : World,
    (Instr.slice 26 (.slice a len cap) none (some (.int .i64 (n : Int))) none).run Tryz.prog wx = .ok (.slice a n cap) wx := by
  obtain ⟨i, hi, hz0, hz1, hz2⟩ := G.info_of Un.infoR
  intro wx
  have h1 : (Instr.sliceBound (.int .i64 (n : Int)) cap .sliceAcap).run Tryz.prog wx = .ok n wx := by
    rw [run_sliceBound _ _ _ _ _ (by omega) (by omega)]; rfl
  have h0 : (⟨0, 0, none⟩ : Addr).add 0 = ⟨0, 0, none⟩ := rfl
  by_cases hc : cap = 0
  · rw [hc] at h1
    simp [Instr.slice, run_underlying Tryz.underlying26, Instr.sliceBounds, h1, Result.andThen, sizeOf, typeInfo, hi, hc]
  · have : a.map (fun x => x.add 0) = a := by
      rcases a with _ | ⟨b, o, s⟩
      · rfl
      · simp [Addr.add]
    simp [Instr.slice, run_underlying Tryz.underlying26, Instr.sliceBounds, h1, Result.andThen, sizeOf, typeInfo, hi, hc, this]
def offI (a : Option Addr) (cap m : Nat) : Option Addr := if cap = m then a else a.map (·.add m)
theorem cut_hiI (a : Option Addr) (len cap m k : Nat) (hk : len = m + k) (hlc : len ≤ cap) : ∀ wx : World,
    (Instr.slice 26 (.slice a len cap) (some (.int .i64 (m : Int))) none none).run Tryz.prog wx = .ok (.slice (offI a cap m) k (cap - m)) wx := by
  obtain ⟨i, hi, hz0, hz1, hz2⟩ := G.info_of Un.infoR
  intro wx
  have h2 : (Instr.sliceBound (.int .i64 (m : Int)) len .sliceB).run Tryz.prog wx = .ok m wx := by
    rw [run_sliceBound _ _ _ _ _ (by omega) (by omega)]; rfl
  have e : len - m = k := by omega
  simp [Instr.slice, run_underlying Tryz.underlying26, Instr.sliceBounds, h2, Result.andThen, sizeOf, typeInfo, hi, hz1, e, offI]
theorem offI_none {a : Option Addr} {cap m : Nat} (h : offI a cap m = none) : a = none := by
  unfold offI at h
  split at h
  · exact h
  · simpa using h
theorem offI_row {w : World} {a : Option Addr} {l : List Int} (h : G.RowI .i32 w a l) (cap m : Nat) (hlc : l.length ≤ cap) (hm : m ≤ l.length) : G.RowI .i32 w (offI a cap m) (l.drop m) := by
  unfold offI
  split
  · left
    rw [List.drop_eq_nil_iff]; omega
  · rcases h with rfl | ⟨b, o, rfl, hc⟩
    · exact .inl (by simp)
    · have e : (⟨b, o, none⟩ : Addr).add m = ⟨b, o + m, none⟩ := by unfold Addr.add; split <;> simp_all
      rw [Option.map_some, e]
      refine .inr ⟨b, o + m, rfl, fun i hi => ?_⟩
      rw [List.length_drop] at hi
      have h1 := hc (m + i) (by omega)
      rw [show o + m + i = o + (m + i) by omega, h1]
      simp
theorem takeI_row {w : World} {a : Option Addr} {l : List Int} (h : G.RowI .i32 w a l) (m : Nat) : G.RowI .i32 w a (l.take m) := by
  rcases h with rfl | ⟨b, o, rfl, hc⟩
  · exact .inl (by simp)
  · refine .inr ⟨b, o, rfl, fun i hi => ?_⟩
    rw [List.length_take] at hi
    have h1 := hc i (by omega)
    rw [h1]
    simp
set_option maxRecDepth 100000 in
set_option maxHeartbeats 8000000 in
theorem cut_ref (s rs : List Int) (m n : Nat) (a b : Option Addr) (c e : Nat) (w : World) (hs : G.RowI .i32 w a s) (hna : a = none → c = 0) (hlc : s.length ≤ c) (hr : G.RowI .i32 w b rs) (hnb : b = none → e = 0) (hin : m + n ≤ s.length) (hls : s.length ≤ 300000) (hlr : rs.length ≤ 300000) :
    Calls Tryz.prog 59 #[.slice a s.length c, .int .i64 (m : Int), .int .i64 (n : Int), .slice b rs.length e] w fun e w' => ∃ v, e = .returned v ∧ G.OI w' w.heap.size 21 .i32 v (s.take m ++ rs ++ s.drop (m + n)) ∧ Below w.heap.size w w' := by
  have hd := (Below.refl w.heap.size w).drew
  have s1 := cut_loI a s.length c m (by omega)
  have s2 := cut_hiI a s.length c (m + n) (s.length - (m + n)) (by omega) hlc
  have HT : Hid ((s.take m).length = m) := by show _ = _; rw [List.length_take]; omega
  have HD : Hid ((s.drop (m + n)).length = s.length - (m + n)) := by show _ = _; rw [List.length_drop]
  have HRt := Lib.hid ((takeI_row hs m).keep hd (Nat.le_refl _))
  have HRd := Lib.hid ((offI_row hs c (m + n) hlc hin).keep hd (Nat.le_refl _))
  have HRr := Lib.hid (hr.keep hd (Nat.le_refl _))
  have HNa := Lib.hid hna
  have HNb := Lib.hid hnb
  have HNd : Hid (offI a c (m + n) = none → c - (m + n) = 0) := fun h => by have := hna (offI_none h); omega
  have HLs : Hid ((s.take m).length + rs.length + (s.drop (m + n)).length ≤ 600000) := by show _ ≤ _; rw [List.length_take, List.length_drop]; omega
  have hmi : (m : Int) ≤ 300000 := by omega
  have hni : (n : Int) ≤ 300000 := by omega
  have hmn : (m : Int) + (n : Int) ≤ 300000 := by omega
  have HB := Lib.hid hd
  rw [show ((m + n : Nat) : Int) = (m : Int) + (n : Int) by push_cast; rfl] at s2
  clear hd hs hr hna hnb hlc hin hls hlr
  generalize offI a c (m + n) = ad at *
  generalize c - (m + n) = cd at *
  generalize s.length - (m + n) = ld at *
  generalize s.take m = P at *
  generalize s.drop (m + n) = Q at *
  have HDs := Lib.hid HD.out.symm
  have HTs := Lib.hid HT.out.symm
  clear HD HT
  go_enter Tryz.func59, Tryz.ntmps59
  go_wp2_with fail
  refine Sch.wp_region_tn (fun _ => True) (.val 0 (.val 1 (.val 2 (.val 4 (.val 6 (.val 7 (.val 8 (.val 9 (.val 10 (.one 3 (.one 5 (.one 11 (.val 12 .done))))))))))))) (by kernel_rfl) (by kernel_rfl) trivial ?_
  repeat (first
    | (refine Sch.tn_q rfl rfl rfl (fun K hK => ?_); go_big_quiet_op; (first | refine hK _ ?_ | refine ⟨_, fun _ _ => rfl, hK _ ?_⟩); clear hK K)
    | (refine Sch.tn_chk _ _ _ rfl rfl rfl rfl rfl ?_; simp only [Act.put, List.setIfInBounds_toArray, List.set_cons_zero, List.set_cons_succ]))
  generalize w.drew = w1 at *
  refine Sch.tn_e rfl rfl (fun K hK => ?_)
  refine G.wp_appIo _ _ _ rfl Tryz.underlying26 Un.infoR (.slice none 0 0) [] rfl (G.OI.nil w1 w1.heap.size _ _) a P c m HTs.out rfl HRt.out HNa.out (by have := HLs.out; simp only [List.length_nil]; omega) (by decide) (Nat.le_refl _) ?_
  intro v2 w2 ho hg
  have HO2 : Hid (G.OI w2 w1.heap.size 21 .i32 v2 P) := ho
  have HB2 := Lib.hid ((Below.refl w1.heap.size w1).grown hg (Nat.le_refl _) (fun x hx => by cases hx))
  clear ho hg
  refine hK _ _ trivial ?_
  clear hK K
  simp only [Act.put, List.setIfInBounds_toArray, List.set_cons_zero, List.set_cons_succ]
  refine Sch.tn_e rfl rfl (fun K hK => ?_)
  refine G.wp_appIo _ _ _ rfl Tryz.underlying26 Un.infoR v2 P rfl HO2.out b rs e rs.length rfl rfl (HRr.out.keep HB2.out (Nat.le_refl _)) HNb.out (by have := HLs.out; omega) (by decide) HB2.out.size ?_
  intro v3 w3 ho hg
  have HO3 : Hid (G.OI w3 w1.heap.size 21 .i32 v3 (P ++ rs)) := ho
  have HB3 := Lib.hid (HB2.out.grown hg HB2.out.size (fun x hx => (HO2.out.lt x hx).1))
  clear ho hg
  refine hK _ _ trivial ?_
  clear hK K
  simp only [Act.put, List.setIfInBounds_toArray, List.set_cons_zero, List.set_cons_succ]
  refine Sch.tn_e rfl rfl (fun K hK => ?_)
  refine G.wp_appIo _ _ _ rfl Tryz.underlying26 Un.infoR v3 (P ++ rs) rfl HO3.out ad Q cd ld HDs.out rfl (HRd.out.keep HB3.out (Nat.le_refl _)) HNd.out (by have := HLs.out; rw [List.length_append]; omega) (by decide) HB3.out.size ?_
  intro v4 w4 ho hg
  have HO4 : Hid (G.OI w4 w1.heap.size 21 .i32 v4 (P ++ rs ++ Q)) := ho
  have HB4 := Lib.hid (HB3.out.grown hg HB3.out.size (fun x hx => (HO3.out.lt x hx).1))
  clear ho hg
  refine hK _ _ trivial ?_
  clear hK K
  simp only [Act.put, List.setIfInBounds_toArray, List.set_cons_zero, List.set_cons_succ]
  repeat (first
    | (refine Sch.tn_q rfl rfl rfl (fun K hK => ?_); go_big_quiet_op; (first | refine hK _ ?_ | refine ⟨_, fun _ _ => rfl, hK _ ?_⟩); clear hK K)
    | (refine Sch.tn_chk _ _ _ rfl rfl rfl rfl rfl ?_; simp only [Act.put, List.setIfInBounds_toArray, List.set_cons_zero, List.set_cons_succ]))
  refine Sch.tn_n ?_
  have HBf := bel_tr HB HB4.out
  have HOf : Hid (G.OI w4 w.heap.size 21 .i32 v4 (P ++ rs ++ Q)) := HO4.out.mono HB.out.size
  go_wp2_with fail
  go_ret
  exact ⟨_, rfl, HOf.out, HBf.out⟩
end Go.Proofs.YtkcbekebleodaaaGreat.Ed
end

/-
  Layer 15: the laws' helpers.
-/
section
namespace Go.Proofs.YtkcbekebleodaaaGreat.Ed
set_option linter.unusedVariables false
open Go.RowKit V Go.Shelf Go.Sort D Nd Qs Wk Ix Jn Fo
attribute [local irreducible] Sch.heldN Sch.stepV Sch.stepE

set_option maxRecDepth 100000 in
set_option maxHeartbeats 2000000 in
theorem dot_law (x y : Int) (w : World) : Calls Tryz.prog 32 #[.int .i64 x, .int .i64 y] w fun e w' => e = .returned (dv (x, y)) ∧ Below w.heap.size w w' := by
  have hb := bel_box w (.cells #[.int .i64 0, .int .i64 0] 25)
  have c0 : (w.alloc (.cells #[.int .i64 0, .int .i64 0] 25)).cell? ⟨w.heap.size, 0, none⟩ = some (.int .i64 0) := by go_simp
  have c1 : (w.alloc (.cells #[.int .i64 0, .int .i64 0] 25)).cell? ⟨w.heap.size, 1, none⟩ = some (.int .i64 0) := by go_simp
  have f0 : (w.alloc (.cells #[.int .i64 0, .int .i64 0] 25)).frozen? ⟨w.heap.size, 0, none⟩ = false := by go_simp
  have f1 : (w.alloc (.cells #[.int .i64 0, .int .i64 0] 25)).frozen? ⟨w.heap.size, 1, none⟩ = false := by go_simp
  have HB := Lib.hid hb
  clear hb
  go_enter Tryz.func32, Tryz.ntmps32
  go_upto_region 1 with fail
  generalize w.alloc (.cells #[.int .i64 0, .int .i64 0] 25) = w1 at *
  go_wp2_with fail
  (try simp only [Exit.inBlock, Exit.then])
  refine bodyPost_ret (v := .agg #[.int .i64 x, .int .i64 y]) (by rw [results_cell1 (fn := Tryz.f32) (p := 4) (ty := 25) rfl]; go_simp) rfl ?_
  exact ⟨rfl, (HB.out.setCell (p := ⟨w.heap.size, 0, none⟩) (Nat.le_refl _) _).setCell (p := ⟨w.heap.size, 1, none⟩) (Nat.le_refl _) _⟩
theorem conv_runes {w : World} {a : Option Addr} {zs : List Int} (h : G.RowI .i32 w a zs) (n : Nat) (hn : n = zs.length) (c : Nat) :
    (convert 26 9 (.slice a n c)).run Tryz.prog w = .ok (.string (runesBytes zs)) w := by
  subst hn
  rcases a with _ | ad
  · have hz : zs = [] := by
      rcases h with h | ⟨_, _, e, _⟩
      · exact h
      · cases e
    subst hz
    exact run_convert_runes_nil w _ _ _ _ _ Tryz.underlying26 Tryz.underlying21 Tryz.underlying9
  · have := run_convert_runes (P := Tryz.prog) w 26 9 21 ad zs.length c zs (Nat.le_refl _) Tryz.underlying26 Tryz.underlying21 Tryz.underlying9 (by
      intro j hj
      rcases h with h | ⟨b, o, e, hc⟩
      · rw [h] at hj; simp at hj
      · cases e
        have e2 : (⟨b, o, none⟩ : Addr).add j = ⟨b, o + j, none⟩ := by unfold Addr.add; split <;> simp_all
        rw [e2, hc j hj]
        simp [List.getD, hj])
    rw [List.take_length] at this
    exact this


section
variable {l Z : List Nt} {d : Dt} {i n q : Int} {rs : List Int} {a b z : Option Addr} {c e cz k kz kr : Nat} {w : World}
set_option maxRecDepth 100000 in
set_option maxHeartbeats 4000000 in
theorem inserts_true (h : insP l d i rs = (Z, q)) (hk : k = l.length) (hkz : kz = Z.length) (hkr : kr = rs.length) (hf : ∀ x ∈ l, fitN x) (hx : RowN w a l) (hr : G.RowI .i32 w b rs) (hz : RowN w z Z) (hlx : l.length ≤ 100000) (hrl : rs.length ≤ 100000) (hlz : Z.length ≤ 300000)
    (hd1 : -9223372036854775808 ≤ d.2) (hd2 : d.2 ≤ 9223372036854775807) :
    Calls Tryz.prog 13 #[.slice a k c, dv d, .int .i64 i, .slice b kr e, .slice z kz cz, .int .i64 q] w fun e w' => e = .returned (.bool true) ∧ Below w.heap.size w w' := by
  subst hk; subst hkz; subst hkr
  have HB := Lib.hid (bel_box w (.cells #[.int .i64 d.1, .int .i64 d.2] 25))
  have HJ := Lib.hid (insert_any l d i rs a b c e _ hf (hx.keep HB.out) (hr.keep HB.out (Nat.le_refl _)) hlx (by omega) hd1 hd2)
  rw [h] at HJ
  have HS := Lib.hid (fun aX cX w h1 h2 => same_ref Z Z aX z cX cz w h1 h2 (by omega) (by omega))
  rw [decide_eq_true rfl] at HS
  have HZ := Lib.hid (hz.keep HB.out)
  clear hx hr hz hlx hrl hlz h hf hd1 hd2
  go_enter Tryz.func13, Tryz.ntmps13
  go_wp2_with fail
  generalize w.alloc (.cells #[.int .i64 d.1, .int .i64 d.2] 25) = w1 at *
  refine HJ.out.mono ?_
  rintro e w2 ⟨v, rfl, ho, hb⟩
  obtain ⟨a2, c2, rfl, hr, -⟩ := ON.row ho
  have HR := Lib.hid hr
  have HZ2 := Lib.hid (HZ.out.keep hb)
  replace HB := bel_tr HB hb
  clear hb HJ ho hr HZ
  go_wp2_with fail
  refine (HS.out _ _ _ HR.out HZ2.out).mono ?_
  rintro e w3 ⟨rfl, hb⟩
  replace HB := bel_tr HB hb
  clear hb HS
  go_wp2_with fail
  go_ret
  exact ⟨rfl, HB.out⟩
set_option maxRecDepth 100000 in
set_option maxHeartbeats 4000000 in
theorem deletes_true (h : delP l i n = (Z, q)) (hk : k = l.length) (hkz : kz = Z.length) (hf : ∀ x ∈ l, fitN x) (hx : RowN w a l) (hz : RowN w z Z) (hlx : l.length ≤ 100000) (hlz : Z.length ≤ 300000)
    (hi1 : -9223372036854775808 ≤ i) (hi2 : i ≤ 9223372036854775807) (hn1 : -9223372036854775808 ≤ n) (hn2 : n ≤ 9223372036854775807) :
    Calls Tryz.prog 18 #[.slice a k c, .int .i64 i, .int .i64 n, .slice z kz cz, .int .i64 q] w fun e w' => e = .returned (.bool true) ∧ Below w.heap.size w w' := by
  subst hk; subst hkz
  have HJ := Lib.hid (delete_any l i n a c w hf hx hlx hi1 hi2 hn1 hn2)
  rw [h] at HJ
  have HS := Lib.hid (fun aX cX w h1 h2 => same_ref Z Z aX z cX cz w h1 h2 (by omega) (by omega))
  rw [decide_eq_true rfl] at HS
  have HZ := Lib.hid hz
  clear hx hz hlx hlz h hf hi1 hi2 hn1 hn2
  go_enter Tryz.func18, Tryz.ntmps18
  go_wp2_with fail
  refine HJ.out.mono ?_
  rintro e w2 ⟨v, rfl, ho, hb⟩
  obtain ⟨a2, c2, rfl, hr, -⟩ := ON.row ho
  have HR := Lib.hid hr
  have HZ2 := Lib.hid (HZ.out.keep hb)
  have HB := Lib.hid hb
  clear hb HJ ho hr HZ
  go_wp2_with fail
  refine (HS.out _ _ _ HR.out HZ2.out).mono ?_
  rintro e w3 ⟨rfl, hb⟩
  replace HB := bel_tr HB hb
  clear hb HS
  go_wp2_with fail
  go_ret
  exact ⟨rfl, HB.out⟩
set_option maxRecDepth 100000 in
set_option maxHeartbeats 4000000 in
theorem replaces_true (h : repP l d i n rs = (Z, q)) (hk : k = l.length) (hkz : kz = Z.length) (hkr : kr = rs.length) (hf : ∀ x ∈ l, fitN x) (hx : RowN w a l) (hr : G.RowI .i32 w b rs) (hz : RowN w z Z) (hlx : l.length ≤ 100000) (hrl : rs.length ≤ 100000) (hlz : Z.length ≤ 300000)
    (hd1 : -9223372036854775808 ≤ d.2) (hd2 : d.2 ≤ 9223372036854775807) (hi1 : -9223372036854775808 ≤ i) (hi2 : i ≤ 9223372036854775807) (hn1 : -9223372036854775808 ≤ n) (hn2 : n ≤ 9223372036854775807) :
    Calls Tryz.prog 21 #[.slice a k c, dv d, .int .i64 i, .int .i64 n, .slice b kr e, .slice z kz cz, .int .i64 q] w fun e w' => e = .returned (.bool true) ∧ Below w.heap.size w w' := by
  subst hk; subst hkz; subst hkr
  have HB := Lib.hid (bel_box w (.cells #[.int .i64 d.1, .int .i64 d.2] 25))
  have HJ := Lib.hid (replace_any l d i n rs a b c e _ hf (hx.keep HB.out) (hr.keep HB.out (Nat.le_refl _)) hlx (by omega) hd1 hd2 hi1 hi2 hn1 hn2)
  rw [h] at HJ
  have HS := Lib.hid (fun aX cX w h1 h2 => same_ref Z Z aX z cX cz w h1 h2 (by omega) (by omega))
  rw [decide_eq_true rfl] at HS
  have HZ := Lib.hid (hz.keep HB.out)
  clear hx hr hz hlx hrl hlz h hf hd1 hd2 hi1 hi2 hn1 hn2
  go_enter Tryz.func21, Tryz.ntmps21
  go_wp2_with fail
  generalize w.alloc (.cells #[.int .i64 d.1, .int .i64 d.2] 25) = w1 at *
  refine HJ.out.mono ?_
  rintro e w2 ⟨v, rfl, ho, hb⟩
  obtain ⟨a2, c2, rfl, hr, -⟩ := ON.row ho
  have HR := Lib.hid hr
  have HZ2 := Lib.hid (HZ.out.keep hb)
  replace HB := bel_tr HB hb
  clear hb HJ ho hr HZ
  go_wp2_with fail
  refine (HS.out _ _ _ HR.out HZ2.out).mono ?_
  rintro e w3 ⟨rfl, hb⟩
  replace HB := bel_tr HB hb
  clear hb HS
  go_wp2_with fail
  go_ret
  exact ⟨rfl, HB.out⟩
set_option maxRecDepth 100000 in
set_option maxHeartbeats 4000000 in
theorem texts_true {xs ys : List Nt} {zs : List Int} {txt : ByteArray} {m : Nat} (h : appP xs ys = (Z, zs, 0)) (ht : runesBytes zs = txt) (hx : Sl w a k c xs) (hy : Sl w b m e ys) (hlx : xs.length ≤ 100000) (hly : ys.length ≤ 100000) :
    Calls Tryz.prog 36 #[.slice a k c, .slice b m e, .string txt] w fun e w' => e = .returned (.bool true) ∧ Below w.heap.size w w' := by
  have e1 := hx.n
  have e2 := hy.n
  subst e1; subst e2; subst ht
  have HJ := Lib.hid (apply_any xs ys a b c e w hx.r hx.z hx.c hy.r hy.z hy.c hlx hly)
  rw [h] at HJ
  clear hx hy hlx hly h
  go_enter Tryz.func36, Tryz.ntmps36
  go_wp2_with fail
  refine HJ.out.mono ?_
  rintro e w2 ⟨v, u, rfl, -, ho, hb⟩
  obtain ⟨a2, c2, rfl, hr, -⟩ := G.OI.row ho
  have hcv := conv_runes hr zs.length rfl c2
  have HB := Lib.hid hb
  clear hb HJ ho hr
  generalize runesBytes zs = tx at *
  go_wp2_with fail
  go_ret
  exact ⟨by simp, HB.out⟩
set_option maxRecDepth 100000 in
set_option maxHeartbeats 4000000 in
theorem kept_true {xs : List Nt} {ks : List Int} {o : Option Addr} {co : Nat} (hx : RowN w a xs) (hz : RowN w z xs) (hr : G.RowI .i32 w b ks) (ho : G.RowI .i32 w o ks) (hlx : xs.length ≤ 100000) (hlk : ks.length ≤ 100000) :
    Calls Tryz.prog 16 #[.slice a xs.length c, .slice z xs.length cz, .slice b ks.length e, .slice o ks.length co] w fun e w' => e = .returned (.bool true) ∧ Below w.heap.size w w' := by
  have HS := Lib.hid (same_ref xs xs a z c cz w hx hz (by omega) (by omega))
  rw [decide_eq_true rfl] at HS
  have HR := Lib.hid (fun w h1 h2 => sameR_ref ks ks b o e co w h1 h2 (by omega) (by omega))
  rw [decide_eq_true rfl] at HR
  have H1 := Lib.hid hr
  have H2 := Lib.hid ho
  clear hx hz hr ho hlx hlk
  go_enter Tryz.func16, Tryz.ntmps16
  go_wp2_with fail
  refine HS.out.mono ?_
  rintro e w2 ⟨rfl, hb⟩
  have HB := Lib.hid hb
  have H1b := Lib.hid (H1.out.keep hb (Nat.le_refl _))
  have H2b := Lib.hid (H2.out.keep hb (Nat.le_refl _))
  clear hb HS H1 H2
  go_wp2_with fail
  refine (HR.out _ H1b.out H2b.out).mono ?_
  rintro e w3 ⟨rfl, hb⟩
  replace HB := bel_tr HB hb
  clear hb HR
  go_wp2_with fail
  go_ret
  exact ⟨rfl, HB.out⟩
end
end Go.Proofs.YtkcbekebleodaaaGreat.Ed
end

/-
  The examples of the chapter, plainly.
-/
section
namespace Go.Proofs.YtkcbekebleodaaaGreat.Ed
set_option linter.unusedVariables false
open Go.RowKit V Go.Shelf Go.Sort D Nd Qs Wk Ix Jn Fo
abbrev kA : Nt := ((1, 1), (0, 0), 1, 97)
abbrev kB : Nt := ((1, 2), (1, 1), 2, 0)
abbrev kC : Nt := ((1, 3), (1, 2), 3, 99)
abbrev kG : Nt := ((1, 1), (0, 0), 1, 0)
abbrev kH : Nt := ((1, 3), (1, 2), 3, 0)
abbrev kX : Nt := ((2, 1), (1, 1), 4, 120)
abbrev kY : Nt := ((2, 2), (2, 1), 5, 121)
abbrev kZ : Nt := ((2, 1), (0, 0), 4, 122)
abbrev kS : List Nt := [kA, kB, kC]
set_option maxRecDepth 100000
theorem e1 : insP kS (2, 1) 1 [120, 121] = ([kX, kY], 0) := by decide
theorem e2 : (appP kS [kX, kY]).2 = ([97, 120, 121, 99], 0) := by decide
theorem e3 : delP kS 1 1 = ([kH], 0) := by decide
theorem e4 : repP kS (2, 1) 0 2 [122] = ([kG, kZ, kH], 0) := by decide
theorem e5 : (appP kS [kG, kZ, kH]).2 = ([122], 0) := by decide
theorem e6 : insP kS (2, 1) 3 [120] = ([], 3) := by decide
theorem e7 : insP kS (1, 1) 0 [120] = ([], 11) := by decide
theorem e8 : insP kS (2, 4294967295) 0 [120, 121] = ([], 14) := by decide
theorem e9 : insP kS (2, 1) 0 [0] = ([], 13) := by decide
theorem e10 : delP kS 0 3 = ([], 3) := by decide
theorem e11 : lateP kS = 3 := by decide
theorem e12 : runesBytes [97, 120, 121, 99] = ⟨#[97, 120, 121, 99]⟩ := by decide
theorem e13 : runesBytes [122] = ⟨#[122]⟩ := by decide
end Go.Proofs.YtkcbekebleodaaaGreat.Ed
end

/-
  The examples of the chapter.
-/
section
namespace Go.Proofs.YtkcbekebleodaaaGreat.Ed
set_option linter.unusedVariables false
open Go.RowKit V Go.Shelf Go.Sort D Nd Qs Wk Ix Jn Fo
attribute [local irreducible] Sch.heldN Sch.stepV Sch.stepE

/-- A box that may be written. -/
def Bf (w : World) (g : Nat) (n : Nt) : Prop := Nb w g n ∧ ∀ o, w.frozen? ⟨g, o, none⟩ = false
theorem Bf.keep {w w' : World} {g : Nat} {n : Nt} (h : Bf w g n) (hb : Below w.heap.size w w') : Bf w' g n := ⟨h.1.keep hb, fun o => (hb.frozen (p := ⟨g, o, none⟩) h.1.lt).trans (h.2 o)⟩
theorem bf_gb {w w' : World} {g r : Nat} {n : Nt} (h : Bf w g n) (hg : w.grownBy w' (some r)) (hne : g ≠ r) : Bf w' g n := by
  have e : w'.heap[g]? = w.heap[g]? := hg.block g h.1.lt (by simpa using hne)
  exact ⟨Qs.nb_gb h.1 hg hne, fun o => (World.frozen?_of_block (a := ⟨g, o, none⟩) e).trans (h.2 o)⟩
theorem zb_gb {w w' : World} {g r : Nat} (h : Zb w g) (hg : w.grownBy w' (some r)) (hne : g ≠ r) : Zb w' g := bf_gb (n := zeroN) h hg hne
theorem put_bf {w : World} {g : Nat} (h : Zb w g) (n : Nt) : Bf (Nd.putN w g n) g n := by
  obtain ⟨⟨h0, h1, h2, h3, h4, h5⟩, hf⟩ := h
  unfold Nd.putN
  refine ⟨⟨?_, ?_, ?_, ?_, ?_, ?_⟩, fun o => ?_⟩
  · go_simp
  · go_simp
  · go_simp
  · go_simp
  · go_simp
  · go_simp
  · have := hf o
    go_simp
theorem rune_nb {w : World} {g : Nat} {n : Nt} (h : Nb w g n) (r : Int) : Nb (w.setCell ⟨g, 5, none⟩ (.int .i32 r)) g (n.1, n.2.1, n.2.2.1, r) := by
  obtain ⟨h0, h1, h2, h3, h4, h5⟩ := h
  refine ⟨?_, ?_, ?_, ?_, ?_, ?_⟩ <;> go_simp
def fitB (d : Dt) : Bool := (Lit.int .i64 d.1).wf && (Lit.int .i64 d.2).wf
theorem fitB_iff {d : Dt} : fitB d = true ↔ fitD d := by unfold fitB fitD; rw [Bool.and_eq_true]
theorem fitL {l : List Nt} (h : (l.all fun n => fitB n.1 && fitB n.2.1) = true) : ∀ x ∈ l, fitN x := fun x hx => by
  have := List.all_eq_true.1 h x hx
  rw [Bool.and_eq_true] at this
  exact ⟨fitB_iff.1 this.1, fitB_iff.1 this.2⟩

/-- Two boxes. -/
def Qb (g1 g3 : Nat) (w : World) : Prop := Nb w g1 kA ∧ Nb w g3 kC
theorem Qb.keep {g1 g3 : Nat} {w w' : World} (h : Qb g1 g3 w) (hb : Below w.heap.size w w') : Qb g1 g3 w' := ⟨h.1.keep hb, h.2.keep hb⟩
theorem Qb.put {g1 g3 : Nat} {w : World} (h : Qb g1 g3 w) {g : Nat} (n : Nt) (h1 : g1 ≠ g) (h3 : g3 ≠ g) : Qb g1 g3 (Nd.putN w g n) := ⟨Qs.nb_gb h.1 (Jn.gb_putN w g n) h1, Qs.nb_gb h.2 (Jn.gb_putN w g n) h3⟩
theorem Qb.l1 {g1 g3 : Nat} : ∀ w, Qb g1 g3 w → (Instr.loadAt 53 (.pointer (some ⟨g1, 0, none⟩))).run Tryz.prog w = .ok (nv kA) w := fun w h => h.1.load
theorem Qb.l3 {g1 g3 : Nat} : ∀ w, Qb g1 g3 w → (Instr.loadAt 53 (.pointer (some ⟨g3, 0, none⟩))).run Tryz.prog w = .ok (nv kC) w := fun w h => h.2.load
def Qg (g5 g6 : Nat) (w : World) : Prop := Nb w g5 kG ∧ Nb w g6 kH
theorem Qg.keep {g1 g3 : Nat} {w w' : World} (h : Qg g1 g3 w) (hb : Below w.heap.size w w') : Qg g1 g3 w' := ⟨h.1.keep hb, h.2.keep hb⟩
theorem Qg.l5 {g1 g3 : Nat} : ∀ w, Qg g1 g3 w → (Instr.loadAt 53 (.pointer (some ⟨g1, 0, none⟩))).run Tryz.prog w = .ok (nv kG) w := fun w h => h.1.load
theorem Qg.l6 {g1 g3 : Nat} : ∀ w, Qg g1 g3 w → (Instr.loadAt 53 (.pointer (some ⟨g3, 0, none⟩))).run Tryz.prog w = .ok (nv kH) w := fun w h => h.2.load
theorem kS_fit : ∀ x ∈ kS, fitN x := fitL (by decide)
theorem SlL {w : World} {g n : Nat} {l : List Nt} (h : RowN w (some ⟨g, 0, none⟩) l) (hn : n = l.length) : Sl w (some ⟨g, 0, none⟩) n n l := ⟨hn, h, (fun h => by cases h), by omega⟩
set_option maxRecDepth 100000 in
set_option maxHeartbeats 8000000 in
theorem known_any (w0 : World) : Calls Tryz.prog 10 #[] w0 fun e w' => e = .returned (.bool true) ∧ Below w0.heap.size w0 w' := by
  have HB := Lib.hid (Below.refl w0.heap.size w0)
  go_enter Tryz.func10, Tryz.ntmps10
  go_wp2_with fail
  refine (dot_law 1 1 _).mono ?_
  rintro e w3 ⟨rfl, hb⟩
  replace HB := bel_tr HB hb
  clear hb
  have HA : Hid (Nb (w3.alloc (.cells #[.int .i64 1, .int .i64 1, .int .i64 0, .int .i64 0, .int .i64 1, .int .i32 97] 53)) w3.heap.size kA) := Nb.new w3 kA
  have hb := bel_box w3 (.cells #[.int .i64 1, .int .i64 1, .int .i64 0, .int .i64 0, .int .i64 1, .int .i32 97] 53)
  replace HB := bel_tr HB hb
  clear hb
  go_wp2_with fail
  generalize w3.alloc (.cells #[.int .i64 1, .int .i64 1, .int .i64 0, .int .i64 0, .int .i64 1, .int .i32 97] 53) = w4 at *
  generalize w3.heap.size = g1 at *
  refine (dot_law 1 2 _).mono ?_
  rintro e w5 ⟨rfl, hb⟩
  replace HB := bel_tr HB hb
  replace HA := Lib.hid (HA.out.keep hb)
  clear hb
  go_wp2_with fail
  refine (dot_law 1 1 _).mono ?_
  rintro e w6 ⟨rfl, hb⟩
  replace HB := bel_tr HB hb
  replace HA := Lib.hid (HA.out.keep hb)
  clear hb
  have Hb : Hid (Nb (w6.alloc (.cells #[.int .i64 1, .int .i64 2, .int .i64 1, .int .i64 1, .int .i64 2, .int .i32 0] 53)) w6.heap.size kB) := Nb.new w6 kB
  have hb := bel_box w6 (.cells #[.int .i64 1, .int .i64 2, .int .i64 1, .int .i64 1, .int .i64 2, .int .i32 0] 53)
  replace HB := bel_tr HB hb
  replace HA := Lib.hid (HA.out.keep hb)
  clear hb
  go_wp2_with fail
  generalize w6.alloc (.cells #[.int .i64 1, .int .i64 2, .int .i64 1, .int .i64 1, .int .i64 2, .int .i32 0] 53) = w7 at *
  generalize w6.heap.size = g2 at *
  refine (dot_law 1 3 _).mono ?_
  rintro e w8 ⟨rfl, hb⟩
  replace HB := bel_tr HB hb
  replace HA := Lib.hid (HA.out.keep hb)
  replace Hb := Lib.hid (Hb.out.keep hb)
  clear hb
  go_wp2_with fail
  refine (dot_law 1 2 _).mono ?_
  rintro e w9 ⟨rfl, hb⟩
  replace HB := bel_tr HB hb
  replace HA := Lib.hid (HA.out.keep hb)
  replace Hb := Lib.hid (Hb.out.keep hb)
  clear hb
  have HC : Hid (Nb (w9.alloc (.cells #[.int .i64 1, .int .i64 3, .int .i64 1, .int .i64 2, .int .i64 3, .int .i32 99] 53)) w9.heap.size kC) := Nb.new w9 kC
  have hb := bel_box w9 (.cells #[.int .i64 1, .int .i64 3, .int .i64 1, .int .i64 2, .int .i64 3, .int .i32 99] 53)
  replace HB := bel_tr HB hb
  replace HA := Lib.hid (HA.out.keep hb)
  replace Hb := Lib.hid (Hb.out.keep hb)
  clear hb
  go_upto_region 4 with fail
  generalize w9.alloc (.cells #[.int .i64 1, .int .i64 3, .int .i64 1, .int .i64 2, .int .i64 3, .int .i32 99] 53) = w10 at *
  generalize w9.heap.size = g3 at *
  obtain ⟨HA0, HA1, HA2, HA3, HA4, HA5⟩ := HA.out
  obtain ⟨Hb0, Hb1, Hb2, Hb3, Hb4, Hb5⟩ := Hb.out
  obtain ⟨HC0, HC1, HC2, HC3, HC4, HC5⟩ := HC.out
  have HS : Hid (RowN (w10.alloc (.cells #[.int .i64 1, .int .i64 1, .int .i64 0, .int .i64 0, .int .i64 1, .int .i32 97, .int .i64 1, .int .i64 2, .int .i64 1, .int .i64 1, .int .i64 2, .int .i32 0, .int .i64 1, .int .i64 3, .int .i64 1, .int .i64 2, .int .i64 3, .int .i32 99] 53)) (some ⟨w10.heap.size, 0, none⟩) [kA, kB, kC]) := RowN.lit w10 [kA, kB, kC] _ _ _ rfl
  have hb := bel_box w10 (.cells #[.int .i64 1, .int .i64 1, .int .i64 0, .int .i64 0, .int .i64 1, .int .i32 97, .int .i64 1, .int .i64 2, .int .i64 1, .int .i64 1, .int .i64 2, .int .i32 0, .int .i64 1, .int .i64 3, .int .i64 1, .int .i64 2, .int .i64 3, .int .i32 99] 53)
  replace HB := bel_tr HB hb
  replace HA := Lib.hid (HA.out.keep hb)
  replace Hb := Lib.hid (Hb.out.keep hb)
  replace HC := Lib.hid (HC.out.keep hb)
  clear hb
  go_upto_region 5 with fail
  generalize w10.alloc (.cells #[.int .i64 1, .int .i64 1, .int .i64 0, .int .i64 0, .int .i64 1, .int .i32 97, .int .i64 1, .int .i64 2, .int .i64 1, .int .i64 1, .int .i64 2, .int .i32 0, .int .i64 1, .int .i64 3, .int .i64 1, .int .i64 2, .int .i64 3, .int .i32 99] 53) = w11 at *
  generalize w10.heap.size = gs at *
  clear HA0 HA1 HA2 HA3 HA4 HA5 Hb0 Hb1 Hb2 Hb3 Hb4 Hb5 HC0 HC1 HC2 HC3 HC4 HC5
  have HW0 : Hid (w0.heap.size ≤ w11.heap.size) := HB.out.size
  have HGs : Hid (gs < w11.heap.size) := lt_of_row HS.out (by simp)
  have HLo : Hid (g1 < w11.heap.size ∧ g3 < w11.heap.size) := ⟨HA.out.lt, HC.out.lt⟩
  go_cut [5, 6] from 22 to 23 (fun s5 s6 wx => ∃ g5 g6, s5 = .pointer (some ⟨g5, 0, none⟩) ∧ s6 = .pointer (some ⟨g6, 0, none⟩) ∧ g5 ≠ g6 ∧ Hid (w11.heap.size ≤ g5 ∧ w11.heap.size ≤ g6) ∧ Hid (Bf wx g5 kA) ∧ Hid (Bf wx g6 kC) ∧ Hid (Below w11.heap.size w11 wx))
  case first =>
    have hd := (Below.refl w11.heap.size w11).drew
    have HQ : Hid (Qb g1 g3 w11.drew) := ⟨HA.out.keep hd, HC.out.keep hd⟩
    have HBd := Lib.hid hd
    clear hd HA Hb HC HS HB
    go_wp2_with fail
    refine Sch.wp_region_tn (Qb g1 g3) (.val 0 (.val 1 (.two 2 (.one 3 (.one 4 (.one 5 .done))) 3 (.one 2 (.one 4 (.one 5 .done)))))) (by kernel_rfl) (by kernel_rfl) HQ.out ?_
    repeat (first
      | (refine Sch.tn_q rfl rfl rfl (fun K hK => ?_); go_big_quiet_op; (first | refine hK _ ?_ | refine ⟨_, fun _ _ => rfl, hK _ ?_⟩); clear hK K)
      | (refine Sch.tn_chk _ _ _ rfl rfl rfl rfl rfl ?_; simp only [Act.put, List.setIfInBounds_toArray, List.set_cons_zero, List.set_cons_succ])
      | (refine Sch.tn_load _ _ _ _ _ rfl rfl rfl rfl (by first | exact Qb.l1 | exact Qb.l3) rfl ?_; simp only [Act.put, List.setIfInBounds_toArray, List.set_cons_zero, List.set_cons_succ]))
    generalize w11.drew = wd at *
    refine Sch.tn_two ?_ ?_
    · skip
      refine Sch.tn_e rfl rfl (fun K hK => ?_)
      go_wp2_with fail
      have z5 := Lib.hid (Zb.new wd)
      have hb := bel_box wd (.cells #[.int .i64 0, .int .i64 0, .int .i64 0, .int .i64 0, .int .i64 0, .int .i32 0] 53)
      have G5 : Hid (w11.heap.size ≤ wd.heap.size) := HBd.out.size
      replace HQ := Lib.hid (HQ.out.keep hb)
      replace HBd := Lib.hid (HBd.out.trans (hb.mono HBd.out.size))
      clear hb
      refine hK _ _ HQ.out ?_
      clear hK K
      generalize (wd.alloc (.cells #[.int .i64 0, .int .i64 0, .int .i64 0, .int .i64 0, .int .i64 0, .int .i32 0] 53)) = we at *
      generalize wd.heap.size = g5 at *
      refine Sch.tn_e rfl rfl (fun K hK => ?_)
      go_wp2_with fail
      have z6 := Lib.hid (Zb.new we)
      have hb := bel_box we (.cells #[.int .i64 0, .int .i64 0, .int .i64 0, .int .i64 0, .int .i64 0, .int .i32 0] 53)
      have G6 : Hid (w11.heap.size ≤ we.heap.size) := HBd.out.size
      have L : Hid (g5 < we.heap.size) := z5.out.1.lt
      replace HQ := Lib.hid (HQ.out.keep hb)
      replace z5 := Lib.hid (z5.out.keep hb)
      replace HBd := Lib.hid (HBd.out.trans (hb.mono HBd.out.size))
      clear hb
      refine hK _ _ HQ.out ?_
      clear hK K
      generalize (we.alloc (.cells #[.int .i64 0, .int .i64 0, .int .i64 0, .int .i64 0, .int .i64 0, .int .i32 0] 53)) = wf at *
      generalize we.heap.size = g6 at *
      obtain ⟨⟨c0, c1, c2, c3, c4, c5⟩, hf⟩ := z5.out
      have f0 := hf 0
      have f1 := hf 1
      have f2 := hf 2
      have f3 := hf 3
      have f4 := hf 4
      have f5 := hf 5
      clear hf
      refine Sch.tn_e rfl rfl (fun K hK => ?_)
      go_wp2_with fail
      have b5 := Lib.hid (put_bf z5.out kA)
      have z6' := Lib.hid (zb_gb z6.out (Jn.gb_putN wf g5 kA) (by have := L.out; omega))
      have HQ' : Hid (Qb g1 g3 (Nd.putN wf g5 kA)) := HQ.out.put kA (by have := HLo.out; have := G5.out; omega) (by have := HLo.out; have := G5.out; omega)
      have HBd' := Lib.hid (Nd.putN_below HBd.out G5.out kA)
      refine hK _ (Nd.putN wf g5 kA) HQ'.out ?_
      clear hK K c0 c1 c2 c3 c4 c5 f0 f1 f2 f3 f4 f5 HQ HBd z5 z6
      generalize Nd.putN wf g5 kA = wg at *
      obtain ⟨⟨c0, c1, c2, c3, c4, c5⟩, hf⟩ := z6'.out
      have f0 := hf 0
      have f1 := hf 1
      have f2 := hf 2
      have f3 := hf 3
      have f4 := hf 4
      have f5 := hf 5
      clear hf
      refine Sch.tn_e rfl rfl (fun K hK => ?_)
      go_wp2_with fail
      have b6 := Lib.hid (put_bf z6'.out kC)
      have b5' := Lib.hid (bf_gb b5.out (Jn.gb_putN wg g6 kC) (by have := L.out; omega))
      have HQ2 : Hid (Qb g1 g3 (Nd.putN wg g6 kC)) := HQ'.out.put kC (by have := HLo.out; have := G6.out; omega) (by have := HLo.out; have := G6.out; omega)
      have HBd2 := Lib.hid (Nd.putN_below HBd'.out G6.out kC)
      refine hK _ (Nd.putN wg g6 kC) HQ2.out ?_
      clear hK K c0 c1 c2 c3 c4 c5 f0 f1 f2 f3 f4 f5
      refine Sch.tn_n ?_
      go_wp2_with fail
      go_meet
      exact ⟨g5, g6, rfl, rfl, by have := L.out; omega, ⟨G5.out, G6.out⟩, b5'.out, b6.out, HBd2.out⟩
    · skip
      refine Sch.tn_e rfl rfl (fun K hK => ?_)
      go_wp2_with fail
      have z6 := Lib.hid (Zb.new wd)
      have hb := bel_box wd (.cells #[.int .i64 0, .int .i64 0, .int .i64 0, .int .i64 0, .int .i64 0, .int .i32 0] 53)
      have G6 : Hid (w11.heap.size ≤ wd.heap.size) := HBd.out.size
      replace HQ := Lib.hid (HQ.out.keep hb)
      replace HBd := Lib.hid (HBd.out.trans (hb.mono HBd.out.size))
      clear hb
      refine hK _ _ HQ.out ?_
      clear hK K
      generalize (wd.alloc (.cells #[.int .i64 0, .int .i64 0, .int .i64 0, .int .i64 0, .int .i64 0, .int .i32 0] 53)) = we at *
      generalize wd.heap.size = g6 at *
      refine Sch.tn_e rfl rfl (fun K hK => ?_)
      go_wp2_with fail
      have z5 := Lib.hid (Zb.new we)
      have hb := bel_box we (.cells #[.int .i64 0, .int .i64 0, .int .i64 0, .int .i64 0, .int .i64 0, .int .i32 0] 53)
      have G5 : Hid (w11.heap.size ≤ we.heap.size) := HBd.out.size
      have L : Hid (g6 < we.heap.size) := z6.out.1.lt
      replace HQ := Lib.hid (HQ.out.keep hb)
      replace z6 := Lib.hid (z6.out.keep hb)
      replace HBd := Lib.hid (HBd.out.trans (hb.mono HBd.out.size))
      clear hb
      refine hK _ _ HQ.out ?_
      clear hK K
      generalize (we.alloc (.cells #[.int .i64 0, .int .i64 0, .int .i64 0, .int .i64 0, .int .i64 0, .int .i32 0] 53)) = wf at *
      generalize we.heap.size = g5 at *
      obtain ⟨⟨c0, c1, c2, c3, c4, c5⟩, hf⟩ := z5.out
      have f0 := hf 0
      have f1 := hf 1
      have f2 := hf 2
      have f3 := hf 3
      have f4 := hf 4
      have f5 := hf 5
      clear hf
      refine Sch.tn_e rfl rfl (fun K hK => ?_)
      go_wp2_with fail
      have b5 := Lib.hid (put_bf z5.out kA)
      have z6' := Lib.hid (zb_gb z6.out (Jn.gb_putN wf g5 kA) (by have := L.out; omega))
      have HQ' : Hid (Qb g1 g3 (Nd.putN wf g5 kA)) := HQ.out.put kA (by have := HLo.out; have := G5.out; omega) (by have := HLo.out; have := G5.out; omega)
      have HBd' := Lib.hid (Nd.putN_below HBd.out G5.out kA)
      refine hK _ (Nd.putN wf g5 kA) HQ'.out ?_
      clear hK K c0 c1 c2 c3 c4 c5 f0 f1 f2 f3 f4 f5 HQ HBd z5 z6
      generalize Nd.putN wf g5 kA = wg at *
      obtain ⟨⟨c0, c1, c2, c3, c4, c5⟩, hf⟩ := z6'.out
      have f0 := hf 0
      have f1 := hf 1
      have f2 := hf 2
      have f3 := hf 3
      have f4 := hf 4
      have f5 := hf 5
      clear hf
      refine Sch.tn_e rfl rfl (fun K hK => ?_)
      go_wp2_with fail
      have b6 := Lib.hid (put_bf z6'.out kC)
      have b5' := Lib.hid (bf_gb b5.out (Jn.gb_putN wg g6 kC) (by have := L.out; omega))
      have HQ2 : Hid (Qb g1 g3 (Nd.putN wg g6 kC)) := HQ'.out.put kC (by have := HLo.out; have := G6.out; omega) (by have := HLo.out; have := G6.out; omega)
      have HBd2 := Lib.hid (Nd.putN_below HBd'.out G6.out kC)
      refine hK _ (Nd.putN wg g6 kC) HQ2.out ?_
      clear hK K c0 c1 c2 c3 c4 c5 f0 f1 f2 f3 f4 f5
      refine Sch.tn_n ?_
      go_wp2_with fail
      go_meet
      exact ⟨g5, g6, rfl, rfl, by have := L.out; omega, ⟨G5.out, G6.out⟩, b5'.out, b6.out, HBd2.out⟩
  case rest =>
    obtain ⟨g5, g6, rfl, rfl, hne, hLo, hb5, hb6, hBw⟩ := hcut
    have hb := hBw.out
    replace HB := bel_tr HB hb
    replace HA := Lib.hid (HA.out.keep hb)
    replace Hb := Lib.hid (Hb.out.keep hb)
    replace HC := Lib.hid (HC.out.keep hb)
    replace HS := Lib.hid (HS.out.keep hb)
    clear hb hBw HLo
    clear HA Hb HC
    have HG := Lib.hid (rune_nb hb5.out.1 0)
    have HG2 := Lib.hid (Qs.nb_gb HG.out (gb_setCell (wc.setCell ⟨g5, 5, none⟩ (.int .i32 0)) g6 5 (.int .i32 0)) hne)
    have HH := Lib.hid (rune_nb (w := wc.setCell ⟨g5, 5, none⟩ (.int .i32 0)) (Qs.nb_gb hb6.out.1 (gb_setCell wc g5 5 (.int .i32 0)) (Ne.symm hne)) 0)
    have hbs : Below w0.heap.size w0 ((wc.setCell ⟨g5, 5, none⟩ (.int .i32 0)).setCell ⟨g6, 5, none⟩ (.int .i32 0)) := (HB.out.setCell (p := ⟨g5, 5, none⟩) (by have h1 := hLo.out; have h2 := HW0.out; show _ ≤ g5; omega) _).setCell (p := ⟨g6, 5, none⟩) (by have h1 := hLo.out; have h2 := HW0.out; show _ ≤ g6; omega) _
    have HSs : Hid (RowN ((wc.setCell ⟨g5, 5, none⟩ (.int .i32 0)).setCell ⟨g6, 5, none⟩ (.int .i32 0)) (some ⟨gs, 0, none⟩) [kA, kB, kC]) := (HS.out.gb (gb_setCell wc g5 5 (.int .i32 0)) (fun b o e e2 => by cases e; cases e2; have h1 := hLo.out; have h2 := HGs.out; omega)).gb (gb_setCell _ g6 5 (.int .i32 0)) (fun b o e e2 => by cases e; cases e2; have h1 := hLo.out; have h2 := HGs.out; omega)
    obtain ⟨⟨c0, c1, c2, c3, c4, c5⟩, hf5⟩ := hb5.out
    obtain ⟨⟨d0, d1, d2, d3, d4, d5⟩, hf6⟩ := hb6.out
    have f5 := hf5 5
    have f6 := hf6 5
    have hne2 := Ne.symm hne
    clear hf5 hf6 HS HB
    go_upto_region 7 with fail
    clear c0 c1 c2 c3 c4 c5 d0 d1 d2 d3 d4 d5 f5 f6
    have HG3 : Hid (Nb ((wc.setCell ⟨g5, 5, none⟩ (.int .i32 0)).setCell ⟨g6, 5, none⟩ (.int .i32 0)) g5 kG) := HG2.out
    have HH3 : Hid (Nb ((wc.setCell ⟨g5, 5, none⟩ (.int .i32 0)).setCell ⟨g6, 5, none⟩ (.int .i32 0)) g6 kH) := HH.out
    have HB := Lib.hid hbs
    clear HG HG2 HH hbs hb5 hb6 hLo HW0 HGs hne hne2
    generalize (wc.setCell ⟨g5, 5, none⟩ (.int .i32 0)).setCell ⟨g6, 5, none⟩ (.int .i32 0) = wq at *
    go_wp2_with fail
    refine (dot_law 2 1 _).mono ?_
    rintro e w12 ⟨rfl, hb⟩
    replace HB := bel_tr HB hb
    replace HSs := Lib.hid (HSs.out.keep hb)
    replace HG3 := Lib.hid (HG3.out.keep hb)
    replace HH3 := Lib.hid (HH3.out.keep hb)
    clear hb
    go_wp2_with fail
    refine (dot_law 1 1 _).mono ?_
    rintro e w13 ⟨rfl, hb⟩
    replace HB := bel_tr HB hb
    replace HSs := Lib.hid (HSs.out.keep hb)
    replace HG3 := Lib.hid (HG3.out.keep hb)
    replace HH3 := Lib.hid (HH3.out.keep hb)
    clear hb
    go_wp2_with fail
    refine (dot_law 2 2 _).mono ?_
    rintro e w14 ⟨rfl, hb⟩
    replace HB := bel_tr HB hb
    replace HSs := Lib.hid (HSs.out.keep hb)
    replace HG3 := Lib.hid (HG3.out.keep hb)
    replace HH3 := Lib.hid (HH3.out.keep hb)
    clear hb
    go_wp2_with fail
    refine (dot_law 2 1 _).mono ?_
    rintro e w15 ⟨rfl, hb⟩
    replace HB := bel_tr HB hb
    replace HSs := Lib.hid (HSs.out.keep hb)
    replace HG3 := Lib.hid (HG3.out.keep hb)
    replace HH3 := Lib.hid (HH3.out.keep hb)
    clear hb
    have HX : Hid (RowN (w15.alloc (.cells #[.int .i64 2, .int .i64 1, .int .i64 1, .int .i64 1, .int .i64 4, .int .i32 120, .int .i64 2, .int .i64 2, .int .i64 2, .int .i64 1, .int .i64 5, .int .i32 121] 53)) (some ⟨w15.heap.size, 0, none⟩) [kX, kY]) := RowN.lit w15 [kX, kY] _ _ _ rfl
    have hb := bel_box w15 (.cells #[.int .i64 2, .int .i64 1, .int .i64 1, .int .i64 1, .int .i64 4, .int .i32 120, .int .i64 2, .int .i64 2, .int .i64 2, .int .i64 1, .int .i64 5, .int .i32 121] 53)
    replace HB := bel_tr HB hb
    replace HSs := Lib.hid (HSs.out.keep hb)
    replace HG3 := Lib.hid (HG3.out.keep hb)
    replace HH3 := Lib.hid (HH3.out.keep hb)
    clear hb
    go_upto_region 8 with fail
    generalize w15.alloc (.cells #[.int .i64 2, .int .i64 1, .int .i64 1, .int .i64 1, .int .i64 4, .int .i32 120, .int .i64 2, .int .i64 2, .int .i64 2, .int .i64 1, .int .i64 5, .int .i32 121] 53) = w16 at *
    generalize w15.heap.size = gx at *
    have hd := (Below.refl w16.heap.size w16).drew
    replace HB := bel_tr HB hd
    replace HSs := Lib.hid (HSs.out.keep hd)
    replace HG3 := Lib.hid (HG3.out.keep hd)
    replace HH3 := Lib.hid (HH3.out.keep hd)
    replace HX := Lib.hid (HX.out.keep hd)
    clear hd
    have HQ : Hid (Qg g5 g6 w16.drew) := ⟨HG3.out, HH3.out⟩
    go_wp2_with fail
    refine Sch.wp_region_tn (Qg g5 g6) (.val 0 (.val 3 (.one 1 (.val 2 (.one 4 (.val 5 .done)))))) (by kernel_rfl) (by kernel_rfl) HQ.out ?_
    repeat (first
      | (refine Sch.tn_q rfl rfl rfl (fun K hK => ?_); go_big_quiet_op; (first | refine hK _ ?_ | refine ⟨_, fun _ _ => rfl, hK _ ?_⟩); clear hK K)
      | (refine Sch.tn_chk _ _ _ rfl rfl rfl rfl rfl ?_; simp only [Act.put, List.setIfInBounds_toArray, List.set_cons_zero, List.set_cons_succ])
      | (refine Sch.tn_load _ _ _ _ _ rfl rfl rfl rfl (by first | exact Qg.l5 | exact Qg.l6) rfl ?_; simp only [Act.put, List.setIfInBounds_toArray, List.set_cons_zero, List.set_cons_succ]))
    generalize w16.drew = wd at *
    refine Sch.tn_e rfl rfl (fun K hK => ?_)
    go_wp2_with fail
    refine (dot_law 2 1 _).mono ?_
    rintro e we ⟨rfl, hb⟩
    replace HB := bel_tr HB hb
    replace HSs := Lib.hid (HSs.out.keep hb)
    replace HG3 := Lib.hid (HG3.out.keep hb)
    replace HH3 := Lib.hid (HH3.out.keep hb)
    replace HX := Lib.hid (HX.out.keep hb)
    replace HQ := Lib.hid (HQ.out.keep hb)
    clear hb
    refine hK _ _ HQ.out ?_
    clear hK K
    repeat (first
      | (refine Sch.tn_q rfl rfl rfl (fun K hK => ?_); go_big_quiet_op; (first | refine hK _ ?_ | refine ⟨_, fun _ _ => rfl, hK _ ?_⟩); clear hK K)
      | (refine Sch.tn_chk _ _ _ rfl rfl rfl rfl rfl ?_; simp only [Act.put, List.setIfInBounds_toArray, List.set_cons_zero, List.set_cons_succ])
      | (refine Sch.tn_load _ _ _ _ _ rfl rfl rfl rfl (by first | exact Qg.l5 | exact Qg.l6) rfl ?_; simp only [Act.put, List.setIfInBounds_toArray, List.set_cons_zero, List.set_cons_succ]))
    have HZ : Hid (RowN (we.alloc (.cells #[.int .i64 1, .int .i64 1, .int .i64 0, .int .i64 0, .int .i64 1, .int .i32 0, .int .i64 2, .int .i64 1, .int .i64 0, .int .i64 0, .int .i64 4, .int .i32 122, .int .i64 1, .int .i64 3, .int .i64 1, .int .i64 2, .int .i64 3, .int .i32 0] 53)) (some ⟨we.heap.size, 0, none⟩) [kG, kZ, kH]) := RowN.lit we [kG, kZ, kH] _ _ _ rfl
    have hb := bel_box we (.cells #[.int .i64 1, .int .i64 1, .int .i64 0, .int .i64 0, .int .i64 1, .int .i32 0, .int .i64 2, .int .i64 1, .int .i64 0, .int .i64 0, .int .i64 4, .int .i32 122, .int .i64 1, .int .i64 3, .int .i64 1, .int .i64 2, .int .i64 3, .int .i32 0] 53)
    replace HB := bel_tr HB hb
    replace HSs := Lib.hid (HSs.out.keep hb)
    replace HG3 := Lib.hid (HG3.out.keep hb)
    replace HH3 := Lib.hid (HH3.out.keep hb)
    replace HX := Lib.hid (HX.out.keep hb)
    replace HQ := Lib.hid (HQ.out.keep hb)
    clear hb
    refine Sch.tn_e rfl rfl (fun K hK => ?_)
    go_wp2_with fail
    refine hK _ _ HQ.out ?_
    clear hK K
    generalize we.alloc (.cells #[.int .i64 1, .int .i64 1, .int .i64 0, .int .i64 0, .int .i64 1, .int .i32 0, .int .i64 2, .int .i64 1, .int .i64 0, .int .i64 0, .int .i64 4, .int .i32 122, .int .i64 1, .int .i64 3, .int .i64 1, .int .i64 2, .int .i64 3, .int .i32 0] 53) = wf at *
    generalize we.heap.size = gz at *
    repeat (first
      | (refine Sch.tn_q rfl rfl rfl (fun K hK => ?_); go_big_quiet_op; (first | refine hK _ ?_ | refine ⟨_, fun _ _ => rfl, hK _ ?_⟩); clear hK K)
      | (refine Sch.tn_chk _ _ _ rfl rfl rfl rfl rfl ?_; simp only [Act.put, List.setIfInBounds_toArray, List.set_cons_zero, List.set_cons_succ])
      | (refine Sch.tn_load _ _ _ _ _ rfl rfl rfl rfl (by first | exact Qg.l5 | exact Qg.l6) rfl ?_; simp only [Act.put, List.setIfInBounds_toArray, List.set_cons_zero, List.set_cons_succ]))
    refine Sch.tn_n ?_
    clear HQ HG3
    have HF := Lib.hid kS_fit
    go_wp2_with fail
    refine (dot_law 2 1 _).mono ?_
    rintro e w41 ⟨rfl, hb⟩
    replace HB := bel_tr HB hb
    replace HSs := Lib.hid (HSs.out.keep hb)
    replace HH3 := Lib.hid (HH3.out.keep hb)
    replace HX := Lib.hid (HX.out.keep hb)
    replace HZ := Lib.hid (HZ.out.keep hb)
    clear hb
    have HR : Hid (G.RowI .i32 (w41.alloc (.cells ⟨[.int .i32 120, .int .i32 121]⟩ 21)) (some ⟨w41.heap.size, 0, none⟩) [120, 121]) := G.RowI.lit .i32 w41 _ rfl [120, 121] ⟨[.int .i32 120, .int .i32 121]⟩ _ rfl
    have hb := bel_box w41 (.cells ⟨[.int .i32 120, .int .i32 121]⟩ 21)
    replace HB := bel_tr HB hb
    replace HSs := Lib.hid (HSs.out.keep hb)
    replace HH3 := Lib.hid (HH3.out.keep hb)
    replace HX := Lib.hid (HX.out.keep hb)
    replace HZ := Lib.hid (HZ.out.keep hb)
    clear hb
    go_wp2_with fail
    generalize w41.alloc (.cells ⟨[.int .i32 120, .int .i32 121]⟩ 21) = w42 at *
    generalize w41.heap.size = gr at *
    refine (inserts_true (l := kS) (Z := [kX, kY]) (rs := [120, 121]) e1 rfl rfl rfl HF.out HSs.out HR.out HX.out (by decide) (by decide) (by decide) (by decide) (by decide)).mono ?_
    rintro e w43 ⟨rfl, hb⟩
    replace HB := bel_tr HB hb
    replace HSs := Lib.hid (HSs.out.keep hb)
    replace HH3 := Lib.hid (HH3.out.keep hb)
    replace HX := Lib.hid (HX.out.keep hb)
    replace HZ := Lib.hid (HZ.out.keep hb)
    replace HR := Lib.hid (HR.out.keep hb (Nat.le_refl _))
    clear hb
    go_wp2_with fail
    refine (texts_true (xs := kS) (ys := [kX, kY]) (Z := (appP kS [kX, kY]).1) (zs := [97, 120, 121, 99]) (Prod.ext rfl e2) e12 (SlL HSs.out rfl) (SlL HX.out rfl) (by decide) (by decide)).mono ?_
    rintro e w44 ⟨rfl, hb⟩
    replace HB := bel_tr HB hb
    replace HSs := Lib.hid (HSs.out.keep hb)
    replace HH3 := Lib.hid (HH3.out.keep hb)
    replace HX := Lib.hid (HX.out.keep hb)
    replace HZ := Lib.hid (HZ.out.keep hb)
    replace HR := Lib.hid (HR.out.keep hb (Nat.le_refl _))
    clear hb
    obtain ⟨h0, h1, h2, h3, h4, h5⟩ := HH3.out
    have HK : Hid (RowN (w44.alloc (.cells #[.int .i64 1, .int .i64 3, .int .i64 1, .int .i64 2, .int .i64 3, .int .i32 0] 53)) (some ⟨w44.heap.size, 0, none⟩) [kH]) := RowN.lit w44 [kH] _ _ _ rfl
    have hb := bel_box w44 (.cells #[.int .i64 1, .int .i64 3, .int .i64 1, .int .i64 2, .int .i64 3, .int .i32 0] 53)
    replace HB := bel_tr HB hb
    replace HSs := Lib.hid (HSs.out.keep hb)
    replace HH3 := Lib.hid (HH3.out.keep hb)
    replace HX := Lib.hid (HX.out.keep hb)
    replace HZ := Lib.hid (HZ.out.keep hb)
    replace HR := Lib.hid (HR.out.keep hb (Nat.le_refl _))
    clear hb
    go_wp2_with fail
    generalize w44.alloc (.cells #[.int .i64 1, .int .i64 3, .int .i64 1, .int .i64 2, .int .i64 3, .int .i32 0] 53) = w45 at *
    generalize w44.heap.size = gk at *
    clear h0 h1 h2 h3 h4 h5
    refine (deletes_true (l := kS) (Z := [kH]) e3 rfl rfl HF.out HSs.out HK.out (by decide) (by decide) (by decide) (by decide) (by decide) (by decide)).mono ?_
    rintro e w46 ⟨rfl, hb⟩
    replace HB := bel_tr HB hb
    replace HSs := Lib.hid (HSs.out.keep hb)
    replace HH3 := Lib.hid (HH3.out.keep hb)
    replace HX := Lib.hid (HX.out.keep hb)
    replace HZ := Lib.hid (HZ.out.keep hb)
    replace HR := Lib.hid (HR.out.keep hb (Nat.le_refl _))
    replace HK := Lib.hid (HK.out.keep hb)
    clear hb
    go_wp2_with fail
    refine (dot_law 2 1 _).mono ?_
    rintro e w47 ⟨rfl, hb⟩
    replace HB := bel_tr HB hb
    replace HSs := Lib.hid (HSs.out.keep hb)
    replace HH3 := Lib.hid (HH3.out.keep hb)
    replace HX := Lib.hid (HX.out.keep hb)
    replace HZ := Lib.hid (HZ.out.keep hb)
    replace HR := Lib.hid (HR.out.keep hb (Nat.le_refl _))
    replace HK := Lib.hid (HK.out.keep hb)
    clear hb
    have HR2 : Hid (G.RowI .i32 (w47.alloc (.cells ⟨[.int .i32 122]⟩ 21)) (some ⟨w47.heap.size, 0, none⟩) [122]) := G.RowI.lit .i32 w47 _ rfl [122] ⟨[.int .i32 122]⟩ _ rfl
    have hb := bel_box w47 (.cells ⟨[.int .i32 122]⟩ 21)
    replace HB := bel_tr HB hb
    replace HSs := Lib.hid (HSs.out.keep hb)
    replace HH3 := Lib.hid (HH3.out.keep hb)
    replace HX := Lib.hid (HX.out.keep hb)
    replace HZ := Lib.hid (HZ.out.keep hb)
    replace HR := Lib.hid (HR.out.keep hb (Nat.le_refl _))
    replace HK := Lib.hid (HK.out.keep hb)
    clear hb
    go_wp2_with fail
    generalize w47.alloc (.cells ⟨[.int .i32 122]⟩ 21) = w48 at *
    generalize w47.heap.size = gr2 at *
    refine (replaces_true (l := kS) (Z := [kG, kZ, kH]) (rs := [122]) e4 rfl rfl rfl HF.out HSs.out HR2.out HZ.out (by decide) (by decide) (by decide) (by decide) (by decide) (by decide) (by decide) (by decide) (by decide)).mono ?_
    rintro e w49 ⟨rfl, hb⟩
    replace HB := bel_tr HB hb
    replace HSs := Lib.hid (HSs.out.keep hb)
    replace HH3 := Lib.hid (HH3.out.keep hb)
    replace HX := Lib.hid (HX.out.keep hb)
    replace HZ := Lib.hid (HZ.out.keep hb)
    replace HR := Lib.hid (HR.out.keep hb (Nat.le_refl _))
    replace HK := Lib.hid (HK.out.keep hb)
    replace HR2 := Lib.hid (HR2.out.keep hb (Nat.le_refl _))
    clear hb
    go_wp2_with fail
    refine (texts_true (xs := kS) (ys := [kG, kZ, kH]) (Z := (appP kS [kG, kZ, kH]).1) (zs := [122]) (Prod.ext rfl e5) e13 (SlL HSs.out rfl) (SlL HZ.out rfl) (by decide) (by decide)).mono ?_
    rintro e w50 ⟨rfl, hb⟩
    replace HB := bel_tr HB hb
    replace HSs := Lib.hid (HSs.out.keep hb)
    replace HH3 := Lib.hid (HH3.out.keep hb)
    replace HX := Lib.hid (HX.out.keep hb)
    replace HZ := Lib.hid (HZ.out.keep hb)
    replace HR := Lib.hid (HR.out.keep hb (Nat.le_refl _))
    replace HK := Lib.hid (HK.out.keep hb)
    replace HR2 := Lib.hid (HR2.out.keep hb (Nat.le_refl _))
    clear hb
    clear HH3 HK HR2 HX HZ HR
    have HR : Hid (G.RowI .i32 (w50.alloc (.cells ⟨[.int .i32 120]⟩ 21)) (some ⟨w50.heap.size, 0, none⟩) [120]) := G.RowI.lit .i32 w50 _ rfl [120] ⟨[.int .i32 120]⟩ _ rfl
    have hb := bel_box w50 (.cells ⟨[.int .i32 120]⟩ 21)
    replace HB := bel_tr HB hb
    replace HSs := Lib.hid (HSs.out.keep hb)
    clear hb
    go_wp2_with fail
    generalize w50.alloc (.cells ⟨[.int .i32 120]⟩ 21) = w51 at *
    generalize w50.heap.size = gq at *
    refine (dot_law 2 1 _).mono ?_
    rintro e w52 ⟨rfl, hb⟩
    replace HB := bel_tr HB hb
    replace HSs := Lib.hid (HSs.out.keep hb)
    replace HR := Lib.hid (HR.out.keep hb (Nat.le_refl _))
    clear hb
    go_wp2_with fail
    refine (inserts_true (l := kS) (Z := []) (rs := [120]) e6 rfl rfl rfl HF.out HSs.out HR.out (RowN.nil _ _) (by decide) (by decide) (by decide) (by decide) (by decide)).mono ?_
    rintro e w53 ⟨rfl, hb⟩
    replace HB := bel_tr HB hb
    replace HSs := Lib.hid (HSs.out.keep hb)
    replace HR := Lib.hid (HR.out.keep hb (Nat.le_refl _))
    clear hb
    go_wp2_with fail
    refine (dot_law 1 1 _).mono ?_
    rintro e w54 ⟨rfl, hb⟩
    replace HB := bel_tr HB hb
    replace HSs := Lib.hid (HSs.out.keep hb)
    replace HR := Lib.hid (HR.out.keep hb (Nat.le_refl _))
    clear hb
    go_wp2_with fail
    refine (inserts_true (l := kS) (Z := []) (rs := [120]) e7 rfl rfl rfl HF.out HSs.out HR.out (RowN.nil _ _) (by decide) (by decide) (by decide) (by decide) (by decide)).mono ?_
    rintro e w55 ⟨rfl, hb⟩
    replace HB := bel_tr HB hb
    replace HSs := Lib.hid (HSs.out.keep hb)
    replace HR := Lib.hid (HR.out.keep hb (Nat.le_refl _))
    clear hb
    go_wp2_with fail
    refine (dot_law 2 4294967295 _).mono ?_
    rintro e w56 ⟨rfl, hb⟩
    replace HB := bel_tr HB hb
    replace HSs := Lib.hid (HSs.out.keep hb)
    replace HR := Lib.hid (HR.out.keep hb (Nat.le_refl _))
    clear hb
    have HR3 : Hid (G.RowI .i32 (w56.alloc (.cells ⟨[.int .i32 120, .int .i32 121]⟩ 21)) (some ⟨w56.heap.size, 0, none⟩) [120, 121]) := G.RowI.lit .i32 w56 _ rfl [120, 121] ⟨[.int .i32 120, .int .i32 121]⟩ _ rfl
    have hb := bel_box w56 (.cells ⟨[.int .i32 120, .int .i32 121]⟩ 21)
    replace HB := bel_tr HB hb
    replace HSs := Lib.hid (HSs.out.keep hb)
    replace HR := Lib.hid (HR.out.keep hb (Nat.le_refl _))
    clear hb
    go_wp2_with fail
    generalize w56.alloc (.cells ⟨[.int .i32 120, .int .i32 121]⟩ 21) = w57 at *
    generalize w56.heap.size = gr3 at *
    refine (inserts_true (l := kS) (Z := []) (rs := [120, 121]) e8 rfl rfl rfl HF.out HSs.out HR3.out (RowN.nil _ _) (by decide) (by decide) (by decide) (by decide) (by decide)).mono ?_
    rintro e w58 ⟨rfl, hb⟩
    replace HB := bel_tr HB hb
    replace HSs := Lib.hid (HSs.out.keep hb)
    replace HR := Lib.hid (HR.out.keep hb (Nat.le_refl _))
    replace HR3 := Lib.hid (HR3.out.keep hb (Nat.le_refl _))
    clear hb
    go_wp2_with fail
    refine (dot_law 2 1 _).mono ?_
    rintro e w59 ⟨rfl, hb⟩
    replace HB := bel_tr HB hb
    replace HSs := Lib.hid (HSs.out.keep hb)
    replace HR := Lib.hid (HR.out.keep hb (Nat.le_refl _))
    replace HR3 := Lib.hid (HR3.out.keep hb (Nat.le_refl _))
    clear hb
    have HR4 : Hid (G.RowI .i32 (w59.alloc (.cells ⟨[.int .i32 0]⟩ 21)) (some ⟨w59.heap.size, 0, none⟩) [0]) := G.RowI.lit .i32 w59 _ rfl [0] ⟨[.int .i32 0]⟩ _ rfl
    have hb := bel_box w59 (.cells ⟨[.int .i32 0]⟩ 21)
    replace HB := bel_tr HB hb
    replace HSs := Lib.hid (HSs.out.keep hb)
    replace HR := Lib.hid (HR.out.keep hb (Nat.le_refl _))
    replace HR3 := Lib.hid (HR3.out.keep hb (Nat.le_refl _))
    clear hb
    go_wp2_with fail
    generalize w59.alloc (.cells ⟨[.int .i32 0]⟩ 21) = w60 at *
    generalize w59.heap.size = gr4 at *
    refine (inserts_true (l := kS) (Z := []) (rs := [0]) e9 rfl rfl rfl HF.out HSs.out HR4.out (RowN.nil _ _) (by decide) (by decide) (by decide) (by decide) (by decide)).mono ?_
    rintro e w61 ⟨rfl, hb⟩
    replace HB := bel_tr HB hb
    replace HSs := Lib.hid (HSs.out.keep hb)
    replace HR := Lib.hid (HR.out.keep hb (Nat.le_refl _))
    replace HR3 := Lib.hid (HR3.out.keep hb (Nat.le_refl _))
    replace HR4 := Lib.hid (HR4.out.keep hb (Nat.le_refl _))
    clear hb
    go_wp2_with fail
    refine (deletes_true (l := kS) (Z := []) e10 rfl rfl HF.out HSs.out (RowN.nil _ _) (by decide) (by decide) (by decide) (by decide) (by decide) (by decide)).mono ?_
    rintro e w62 ⟨rfl, hb⟩
    replace HB := bel_tr HB hb
    replace HSs := Lib.hid (HSs.out.keep hb)
    replace HR := Lib.hid (HR.out.keep hb (Nat.le_refl _))
    replace HR3 := Lib.hid (HR3.out.keep hb (Nat.le_refl _))
    replace HR4 := Lib.hid (HR4.out.keep hb (Nat.le_refl _))
    clear hb
    go_wp2_with fail
    refine (latest_any kS (some ⟨gs, 0, none⟩) _ _ HSs.out (by decide)).mono ?_
    rintro e wz ⟨rfl, hb⟩
    replace HB := bel_tr HB hb
    clear hb
    rw [e11]
    go_wp2_with fail
    go_ret
    exact ⟨rfl, HB.out⟩
end Go.Proofs.YtkcbekebleodaaaGreat.Ed
end

/-
  Layer 15: the laws EditInserts, EditDeletes, EditReplaces, EditApplies.
-/
section
namespace Go.Proofs.YtkcbekebleodaaaGreat.Ed
set_option linter.unusedVariables false
open Go.RowKit V Go.Shelf Go.Sort D Nd Qs Wk Ix Jn Fo
attribute [local irreducible] Sch.heldN Sch.stepV Sch.stepE

/-- A slice with a list of runes. -/
structure Ri (w : World) (a : Option Addr) (c : Nat) (l : List Int) : Prop where
  r : G.RowI .i32 w a l
  z : a = none → c = 0
  c : l.length ≤ c
theorem Ri.keep {w w' : World} {a : Option Addr} {c : Nat} {l : List Int} (h : Ri w a c l) (hb : Below w.heap.size w w') : Ri w' a c l := ⟨h.r.keep hb (Nat.le_refl _), h.z, h.c⟩
theorem on_sl {w : World} {base : Nat} {E : TypeId} {v : Value} {l : List Nt} (h : ON w base E v l) : ∃ a c, v = .slice a l.length c ∧ Sl w a l.length c l := by
  obtain ⟨a, c, rfl, hr, hn, hc, -⟩ := ON.row h
  exact ⟨a, c, rfl, rfl, hr, fun h => (hn h).1, hc⟩
theorem oi_ri {w : World} {base : Nat} {E : TypeId} {v : Value} {l : List Int} (h : G.OI w base E .i32 v l) : ∃ a c, v = .slice a l.length c ∧ Ri w a c l := by
  obtain ⟨a, c, rfl, hr, hn, hc, -⟩ := G.OI.row2 h
  exact ⟨a, c, rfl, hr, fun h => (hn h).1, hc⟩
theorem rep_len {l : List Nt} {d : Dt} {i n : Int} {rs : List Int} : (repP l d i n rs).1.length ≤ 20000 := by
  obtain ⟨-, h2, h3⟩ := rep_plain (l := l) (d := d) (i := i) (n := n) (rs := rs)
  by_cases hz : (repP l d i n rs).2 = 0
  · obtain ⟨h4, h5, h6⟩ := h3 hz
    rw [← h4]
    have := joinP_len (delP l i n).1 (insP l d i rs).1
    unfold repP at hz
    by_cases hw : (wellS l && validR d) = false
    · rw [if_pos hw] at hz; cases hz
    rw [if_neg hw] at hz
    by_cases ho : i < 0 ∨ ((visS l).length : Int) < i ∨ n < 0 ∨ ((visS l).length : Int) - i < n
    · rw [if_pos ho] at hz; cases hz
    rw [if_neg ho] at hz
    by_cases hL : 10000 < rs.length ∨ 10000 < n
    · rw [if_pos hL] at hz; cases hz
    rw [if_neg hL] at hz
    by_cases hR : rs.all R.vld = false
    · rw [if_pos hR] at hz; cases hz
    rw [if_neg hR] at hz
    by_cases hx : 4294967295 - d.2 + 1 < (rs.length : Int) ∨ 4611686018427387904 - timeS l < (rs.length : Int)
    · rw [if_pos hx] at hz; cases hz
    rw [if_neg hx] at hz
    by_cases hb : busyS l d rs.length = true
    · rw [if_pos hb] at hz; cases hz
    obtain ⟨ok, e⟩ := rep_ok (by simpa using hw) ho hL (by simpa using hR) hx (by simpa using hb)
    rw [h4, e]
    have := delta_len ok
    show (deltaS l d i.toNat n.toNat rs).length ≤ _
    omega
  · rw [h2 hz]
    exact Nat.zero_le _
set_option maxRecDepth 100000 in
set_option maxHeartbeats 8000000 in
theorem inserts_law (l : List Nt) (d : Dt) (i : Int) (rs : List Int) (a b : Option Addr) (c e : Nat) (w : World) (hf : ∀ x ∈ l, fitN x) (hx : Sl w a l.length c l) (hr : Ri w b e rs) (hd1 : -9223372036854775808 ≤ d.2) (hd2 : d.2 ≤ 9223372036854775807) (hi1 : -9223372036854775808 ≤ i) (hi2 : i ≤ 9223372036854775807) :
    Calls Tryz.prog 3 #[.slice a l.length c, dv d, .int .i64 i, .slice b rs.length e] w fun e w' => e = .returned (.bool true) ∧ Below w.heap.size w w' := by
  have HB := Lib.hid (bel_box w (.cells #[.int .i64 d.1, .int .i64 d.2] 25))
  by_cases hl : 40 < l.length
  · have hl2 : (40 : Int) < (l.length : Int) := by omega
    clear hl hx hr hf
    go_enter Tryz.func3, Tryz.ntmps3
    go_wp2_with fail
    generalize w.alloc (.cells #[.int .i64 d.1, .int .i64 d.2] 25) = w1 at *
    refine (known_any _).mono ?_
    rintro e w99 ⟨rfl, hb⟩
    replace HB := bel_tr HB hb
    clear hb
    go_wp2_with fail
    go_ret
    exact ⟨rfl, HB.out⟩
  by_cases hs : 20 < rs.length
  · have hl2 : ¬ (40 : Int) < (l.length : Int) := by omega
    have hs2 : (20 : Int) < (rs.length : Int) := by omega
    clear hl hs hx hr hf
    go_enter Tryz.func3, Tryz.ntmps3
    go_wp2_with fail
    generalize w.alloc (.cells #[.int .i64 d.1, .int .i64 d.2] 25) = w1 at *
    refine (known_any _).mono ?_
    rintro e w99 ⟨rfl, hb⟩
    replace HB := bel_tr HB hb
    clear hb
    go_wp2_with fail
    go_ret
    exact ⟨rfl, HB.out⟩
  have hl2 : ¬ (40 : Int) < (l.length : Int) := by omega
  have hs2 : ¬ (20 : Int) < (rs.length : Int) := by omega
  have HX := Lib.hid (hx.keep HB.out)
  have HR := Lib.hid (hr.keep HB.out)
  have HK := Lib.hid (Un.bd_new w d)
  have HCp := Lib.hid (fun w h1 h2 => copy_ref l a c w h1 h2 (by omega))
  have HRf := Lib.hid (fun w h1 h2 => replace_ref l d i 0 rs a b c e w h1 h2 (by omega) (by omega))
  have HL : Hid ((insP l d i rs).1.length ≤ 20000) := rep_len
  have HT := Lib.hid (fun (w : World) (z : Option Addr) (cz : Nat) (h1 : RowN w a l) (h2 : G.RowI .i32 w b rs) (h3 : RowN w z (insP l d i rs).1) => inserts_true (Z := (insP l d i rs).1) (q := (insP l d i rs).2) (c := c) (e := e) (cz := cz) rfl rfl rfl rfl hf h1 h2 h3 (by omega) (by omega) (by have := HL.out; omega) hd1 hd2)
  have HI := Lib.hid (fun w h1 h2 => insert_any l d i rs a b c e w hf h1 h2 (by omega) (by omega) hd1 hd2)
  have HKe := Lib.hid (fun (w : World) (z o : Option Addr) (cz co : Nat) (h1 : RowN w a l) (h2 : RowN w z l) (h3 : G.RowI .i32 w b rs) (h4 : G.RowI .i32 w o rs) => kept_true (c := c) (cz := cz) (e := e) (co := co) h1 h2 h3 h4 (by omega) (by omega))
  have HRl : Hid (rs.length ≤ 20) := by show _ ≤ _; omega
  have hrl0 : (0 : Int) ≤ (rs.length : Int) := by omega
  clear hl hs hx hr hf hd1 hd2 hi1 hi2
  unfold insP at *
  generalize repP l d i 0 rs = RZ at *
  obtain ⟨ZL, q⟩ := RZ
  simp only at HRf HL HT HI
  go_enter Tryz.func3, Tryz.ntmps3
  go_wp2_with fail
  generalize w.alloc (.cells #[.int .i64 d.1, .int .i64 d.2] 25) = w1 at *
  refine (HCp.out _ HX.out.r HX.out.z).mono ?_
  rintro e w2 ⟨v2, rfl, ho, hb⟩
  obtain ⟨aC, cC, rfl, hsl⟩ := on_sl ho
  have HC := Lib.hid hsl
  replace HB := bel_tr HB hb
  replace HX := Lib.hid (HX.out.keep hb)
  replace HR := Lib.hid (HR.out.keep hb)
  replace HK := Lib.hid (HK.out.keep hb)
  clear hb ho hsl HCp
  go_wp2_with (at_builtin; refine G.wpList_appIo rfl _ _ _ rfl Tryz.underlying26 Un.infoR (.slice none 0 0) [] rfl (G.OI.nil _ w2.heap.size _ _) b e rs.length rs rfl rfl HR.out.r HR.out.z (by have := HRl.out; simp only [List.length_nil]; omega) (by decide) (Nat.le_refl _) ?_)
  intro v3 w3 ho hg
  obtain ⟨aO, cO, rfl, hri⟩ := oi_ri ho
  have HO : Hid (Ri w3 aO cO rs) := hri
  have hb := bel_none hg
  replace HB := bel_tr HB hb
  replace HX := Lib.hid (HX.out.keep hb)
  replace HR := Lib.hid (HR.out.keep hb)
  replace HK := Lib.hid (HK.out.keep hb)
  replace HC := Lib.hid (HC.out.keep hb)
  clear hb ho hg hri
  have k0 := HK.out.c0
  have k1 := HK.out.c1
  go_wp2_with fail
  refine (HRf.out _ HX.out.r HR.out.r).mono ?_
  rintro e w4 ⟨v4, rfl, ho, hb⟩
  obtain ⟨aZ, cZ, rfl, hsl⟩ := on_sl ho
  have HZ := Lib.hid hsl
  replace HB := bel_tr HB hb
  replace HX := Lib.hid (HX.out.keep hb)
  replace HR := Lib.hid (HR.out.keep hb)
  replace HK := Lib.hid (HK.out.keep hb)
  replace HC := Lib.hid (HC.out.keep hb)
  replace HO := Lib.hid (HO.out.keep hb)
  clear hb ho hsl HRf k0 k1
  have k0 := HK.out.c0
  have k1 := HK.out.c1
  go_wp2_with fail
  refine (HT.out _ _ _ HX.out.r HR.out.r HZ.out.r).mono ?_
  rintro e w5 ⟨rfl, hb⟩
  replace HB := bel_tr HB hb
  replace HX := Lib.hid (HX.out.keep hb)
  replace HR := Lib.hid (HR.out.keep hb)
  replace HK := Lib.hid (HK.out.keep hb)
  replace HC := Lib.hid (HC.out.keep hb)
  replace HO := Lib.hid (HO.out.keep hb)
  clear hb HT HZ k0 k1
  have k0 := HK.out.c0
  have k1 := HK.out.c1
  go_wp2_with fail
  refine (HI.out _ HX.out.r HR.out.r).mono ?_
  rintro e w6 ⟨v6, rfl, ho, hb⟩
  have HO6 := Lib.hid ho
  have HZ6 := Lib.hid hb
  clear ho hb HI k0 k1
  go_wp2_with fail
  refine (stain_ref ZL v6 w5.heap.size w6 HO6.out (by have := HL.out; omega)).mono ?_
  rintro e w7 ⟨rfl, hb⟩
  have hz : Below w5.heap.size w5 w7 := HZ6.out.trans hb
  replace HB := bel_tr HB hz
  replace HX := Lib.hid (HX.out.keep hz)
  replace HR := Lib.hid (HR.out.keep hz)
  replace HC := Lib.hid (HC.out.keep hz)
  replace HO := Lib.hid (HO.out.keep hz)
  clear hb hz HZ6 HO6 HK
  go_wp2_with fail
  refine (HKe.out _ _ _ _ _ HX.out.r HC.out.r HR.out.r HO.out.r).mono ?_
  rintro e w8 ⟨rfl, hb⟩
  replace HB := bel_tr HB hb
  clear hb HX HR HC HO HKe
  go_wp2_with fail
  refine (known_any _).mono ?_
  rintro e w99 ⟨rfl, hb⟩
  replace HB := bel_tr HB hb
  clear hb
  go_wp2_with fail
  go_ret
  exact ⟨rfl, HB.out⟩
set_option maxRecDepth 100000 in
set_option maxHeartbeats 8000000 in
theorem deletes_law (l : List Nt) (i n : Int) (a : Option Addr) (c : Nat) (w : World) (hf : ∀ x ∈ l, fitN x) (hx : Sl w a l.length c l) (hi1 : -9223372036854775808 ≤ i) (hi2 : i ≤ 9223372036854775807) (hn1 : -9223372036854775808 ≤ n) (hn2 : n ≤ 9223372036854775807) :
    Calls Tryz.prog 4 #[.slice a l.length c, .int .i64 i, .int .i64 n] w fun e w' => e = .returned (.bool true) ∧ Below w.heap.size w w' := by
  have HB := Lib.hid (Below.refl w.heap.size w)
  by_cases hl : 40 < l.length
  · have hl2 : (40 : Int) < (l.length : Int) := by omega
    clear hl hx hf
    go_enter Tryz.func4, Tryz.ntmps4
    go_wp2_with fail
    refine (known_any _).mono ?_
    rintro e w99 ⟨rfl, hb⟩
    replace HB := bel_tr HB hb
    clear hb
    go_wp2_with fail
    go_ret
    exact ⟨rfl, HB.out⟩
  have hl2 : ¬ (40 : Int) < (l.length : Int) := by omega
  have HX := Lib.hid hx
  have HCp := Lib.hid (fun w h1 h2 => copy_ref l a c w h1 h2 (by omega))
  have HRf := Lib.hid (fun w h1 => delete_ref l i n a c w h1 (by omega))
  have HL : Hid ((delP l i n).1.length ≤ 20000) := rep_len
  have HT := Lib.hid (fun (w : World) (z : Option Addr) (cz : Nat) (h1 : RowN w a l) (h3 : RowN w z (delP l i n).1) => deletes_true (Z := (delP l i n).1) (q := (delP l i n).2) (c := c) (cz := cz) rfl rfl rfl hf h1 h3 (by omega) (by have := HL.out; omega) hi1 hi2 hn1 hn2)
  have HI := Lib.hid (fun w h1 => delete_any l i n a c w hf h1 (by omega) hi1 hi2 hn1 hn2)
  have HSm := Lib.hid (fun (w : World) (z : Option Addr) (cz : Nat) (h1 : RowN w a l) (h2 : RowN w z l) => same_ref l l a z c cz w h1 h2 (by omega) (by omega))
  rw [decide_eq_true rfl] at HSm
  clear hl hx hf hi1 hi2 hn1 hn2
  generalize delP l i n = RZ at *
  obtain ⟨ZL, q⟩ := RZ
  simp only at HRf HL HT HI
  go_enter Tryz.func4, Tryz.ntmps4
  go_wp2_with fail
  refine (HCp.out _ HX.out.r HX.out.z).mono ?_
  rintro e w2 ⟨v2, rfl, ho, hb⟩
  obtain ⟨aC, cC, rfl, hsl⟩ := on_sl ho
  have HC := Lib.hid hsl
  replace HB := bel_tr HB hb
  replace HX := Lib.hid (HX.out.keep hb)
  clear hb ho hsl HCp
  go_wp2_with fail
  refine (HRf.out _ HX.out.r).mono ?_
  rintro e w4 ⟨v4, rfl, ho, hb⟩
  obtain ⟨aZ, cZ, rfl, hsl⟩ := on_sl ho
  have HZ := Lib.hid hsl
  replace HB := bel_tr HB hb
  replace HX := Lib.hid (HX.out.keep hb)
  replace HC := Lib.hid (HC.out.keep hb)
  clear hb ho hsl HRf
  go_wp2_with fail
  refine (HT.out _ _ _ HX.out.r HZ.out.r).mono ?_
  rintro e w5 ⟨rfl, hb⟩
  replace HB := bel_tr HB hb
  replace HX := Lib.hid (HX.out.keep hb)
  replace HC := Lib.hid (HC.out.keep hb)
  clear hb HT HZ
  go_wp2_with fail
  refine (HI.out _ HX.out.r).mono ?_
  rintro e w6 ⟨v6, rfl, ho, hb⟩
  have HO6 := Lib.hid ho
  have HZ6 := Lib.hid hb
  clear ho hb HI
  go_wp2_with fail
  refine (stain_ref ZL v6 w5.heap.size w6 HO6.out (by have := HL.out; omega)).mono ?_
  rintro e w7 ⟨rfl, hb⟩
  have hz : Below w5.heap.size w5 w7 := HZ6.out.trans hb
  replace HB := bel_tr HB hz
  replace HX := Lib.hid (HX.out.keep hz)
  replace HC := Lib.hid (HC.out.keep hz)
  clear hb hz HZ6 HO6
  go_wp2_with fail
  refine (HSm.out _ _ _ HX.out.r HC.out.r).mono ?_
  rintro e w8 ⟨rfl, hb⟩
  replace HB := bel_tr HB hb
  clear hb HX HC HSm
  go_wp2_with fail
  refine (known_any _).mono ?_
  rintro e w99 ⟨rfl, hb⟩
  replace HB := bel_tr HB hb
  clear hb
  go_wp2_with fail
  go_ret
  exact ⟨rfl, HB.out⟩
set_option maxRecDepth 100000 in
set_option maxHeartbeats 8000000 in
theorem replaces_law (l : List Nt) (d : Dt) (i n : Int) (rs : List Int) (a b : Option Addr) (c e : Nat) (w : World) (hf : ∀ x ∈ l, fitN x) (hx : Sl w a l.length c l) (hr : Ri w b e rs) (hd1 : -9223372036854775808 ≤ d.2) (hd2 : d.2 ≤ 9223372036854775807) (hi1 : -9223372036854775808 ≤ i) (hi2 : i ≤ 9223372036854775807) (hn1 : -9223372036854775808 ≤ n) (hn2 : n ≤ 9223372036854775807) :
    Calls Tryz.prog 5 #[.slice a l.length c, dv d, .int .i64 i, .int .i64 n, .slice b rs.length e] w fun e w' => e = .returned (.bool true) ∧ Below w.heap.size w w' := by
  have HB := Lib.hid (bel_box w (.cells #[.int .i64 d.1, .int .i64 d.2] 25))
  by_cases hl : 40 < l.length
  · have hl2 : (40 : Int) < (l.length : Int) := by omega
    clear hl hx hr hf
    go_enter Tryz.func5, Tryz.ntmps5
    go_wp2_with fail
    generalize w.alloc (.cells #[.int .i64 d.1, .int .i64 d.2] 25) = w1 at *
    refine (known_any _).mono ?_
    rintro e w99 ⟨rfl, hb⟩
    replace HB := bel_tr HB hb
    clear hb
    go_wp2_with fail
    go_ret
    exact ⟨rfl, HB.out⟩
  by_cases hs : 20 < rs.length
  · have hl2 : ¬ (40 : Int) < (l.length : Int) := by omega
    have hs2 : (20 : Int) < (rs.length : Int) := by omega
    clear hl hs hx hr hf
    go_enter Tryz.func5, Tryz.ntmps5
    go_wp2_with fail
    generalize w.alloc (.cells #[.int .i64 d.1, .int .i64 d.2] 25) = w1 at *
    refine (known_any _).mono ?_
    rintro e w99 ⟨rfl, hb⟩
    replace HB := bel_tr HB hb
    clear hb
    go_wp2_with fail
    go_ret
    exact ⟨rfl, HB.out⟩
  have hl2 : ¬ (40 : Int) < (l.length : Int) := by omega
  have hs2 : ¬ (20 : Int) < (rs.length : Int) := by omega
  have HX := Lib.hid (hx.keep HB.out)
  have HR := Lib.hid (hr.keep HB.out)
  have HK := Lib.hid (Un.bd_new w d)
  have HCp := Lib.hid (fun w h1 h2 => copy_ref l a c w h1 h2 (by omega))
  have HRf := Lib.hid (fun w h1 h2 => replace_ref l d i n rs a b c e w h1 h2 (by omega) (by omega))
  have HL : Hid ((repP l d i n rs).1.length ≤ 20000) := rep_len
  have HT := Lib.hid (fun (w : World) (z : Option Addr) (cz : Nat) (h1 : RowN w a l) (h2 : G.RowI .i32 w b rs) (h3 : RowN w z (repP l d i n rs).1) => replaces_true (Z := (repP l d i n rs).1) (q := (repP l d i n rs).2) (c := c) (e := e) (cz := cz) rfl rfl rfl rfl hf h1 h2 h3 (by omega) (by omega) (by have := HL.out; omega) hd1 hd2 hi1 hi2 hn1 hn2)
  have HI := Lib.hid (fun w h1 h2 => replace_any l d i n rs a b c e w hf h1 h2 (by omega) (by omega) hd1 hd2 hi1 hi2 hn1 hn2)
  have HKe := Lib.hid (fun (w : World) (z o : Option Addr) (cz co : Nat) (h1 : RowN w a l) (h2 : RowN w z l) (h3 : G.RowI .i32 w b rs) (h4 : G.RowI .i32 w o rs) => kept_true (c := c) (cz := cz) (e := e) (co := co) h1 h2 h3 h4 (by omega) (by omega))
  have HRl : Hid (rs.length ≤ 20) := by show _ ≤ _; omega
  have hrl0 : (0 : Int) ≤ (rs.length : Int) := by omega
  clear hl hs hx hr hf hd1 hd2 hi1 hi2 hn1 hn2
  
  generalize repP l d i n rs = RZ at *
  obtain ⟨ZL, q⟩ := RZ
  simp only at HRf HL HT HI
  go_enter Tryz.func5, Tryz.ntmps5
  go_wp2_with fail
  generalize w.alloc (.cells #[.int .i64 d.1, .int .i64 d.2] 25) = w1 at *
  refine (HCp.out _ HX.out.r HX.out.z).mono ?_
  rintro e w2 ⟨v2, rfl, ho, hb⟩
  obtain ⟨aC, cC, rfl, hsl⟩ := on_sl ho
  have HC := Lib.hid hsl
  replace HB := bel_tr HB hb
  replace HX := Lib.hid (HX.out.keep hb)
  replace HR := Lib.hid (HR.out.keep hb)
  replace HK := Lib.hid (HK.out.keep hb)
  clear hb ho hsl HCp
  go_wp2_with (at_builtin; refine G.wpList_appIo rfl _ _ _ rfl Tryz.underlying26 Un.infoR (.slice none 0 0) [] rfl (G.OI.nil _ w2.heap.size _ _) b e rs.length rs rfl rfl HR.out.r HR.out.z (by have := HRl.out; simp only [List.length_nil]; omega) (by decide) (Nat.le_refl _) ?_)
  intro v3 w3 ho hg
  obtain ⟨aO, cO, rfl, hri⟩ := oi_ri ho
  have HO : Hid (Ri w3 aO cO rs) := hri
  have hb := bel_none hg
  replace HB := bel_tr HB hb
  replace HX := Lib.hid (HX.out.keep hb)
  replace HR := Lib.hid (HR.out.keep hb)
  replace HK := Lib.hid (HK.out.keep hb)
  replace HC := Lib.hid (HC.out.keep hb)
  clear hb ho hg hri
  have k0 := HK.out.c0
  have k1 := HK.out.c1
  go_wp2_with fail
  refine (HRf.out _ HX.out.r HR.out.r).mono ?_
  rintro e w4 ⟨v4, rfl, ho, hb⟩
  obtain ⟨aZ, cZ, rfl, hsl⟩ := on_sl ho
  have HZ := Lib.hid hsl
  replace HB := bel_tr HB hb
  replace HX := Lib.hid (HX.out.keep hb)
  replace HR := Lib.hid (HR.out.keep hb)
  replace HK := Lib.hid (HK.out.keep hb)
  replace HC := Lib.hid (HC.out.keep hb)
  replace HO := Lib.hid (HO.out.keep hb)
  clear hb ho hsl HRf k0 k1
  have k0 := HK.out.c0
  have k1 := HK.out.c1
  go_wp2_with fail
  refine (HT.out _ _ _ HX.out.r HR.out.r HZ.out.r).mono ?_
  rintro e w5 ⟨rfl, hb⟩
  replace HB := bel_tr HB hb
  replace HX := Lib.hid (HX.out.keep hb)
  replace HR := Lib.hid (HR.out.keep hb)
  replace HK := Lib.hid (HK.out.keep hb)
  replace HC := Lib.hid (HC.out.keep hb)
  replace HO := Lib.hid (HO.out.keep hb)
  clear hb HT HZ k0 k1
  have k0 := HK.out.c0
  have k1 := HK.out.c1
  go_wp2_with fail
  refine (HI.out _ HX.out.r HR.out.r).mono ?_
  rintro e w6 ⟨v6, rfl, ho, hb⟩
  have HO6 := Lib.hid ho
  have HZ6 := Lib.hid hb
  clear ho hb HI k0 k1
  go_wp2_with fail
  refine (stain_ref ZL v6 w5.heap.size w6 HO6.out (by have := HL.out; omega)).mono ?_
  rintro e w7 ⟨rfl, hb⟩
  have hz : Below w5.heap.size w5 w7 := HZ6.out.trans hb
  replace HB := bel_tr HB hz
  replace HX := Lib.hid (HX.out.keep hz)
  replace HR := Lib.hid (HR.out.keep hz)
  replace HC := Lib.hid (HC.out.keep hz)
  replace HO := Lib.hid (HO.out.keep hz)
  clear hb hz HZ6 HO6 HK
  go_wp2_with fail
  refine (HKe.out _ _ _ _ _ HX.out.r HC.out.r HR.out.r HO.out.r).mono ?_
  rintro e w8 ⟨rfl, hb⟩
  replace HB := bel_tr HB hb
  clear hb HX HR HC HO HKe
  go_wp2_with fail
  refine (known_any _).mono ?_
  rintro e w99 ⟨rfl, hb⟩
  replace HB := bel_tr HB hb
  clear hb
  go_wp2_with fail
  go_ret
  exact ⟨rfl, HB.out⟩
end Go.Proofs.YtkcbekebleodaaaGreat.Ed
end

/-
  Layer 15: the law EditApplies.
-/
section
namespace Go.Proofs.YtkcbekebleodaaaGreat.Ed
set_option linter.unusedVariables false
open Go.RowKit V Go.Shelf Go.Sort D Nd Qs Wk Ix Jn Fo
attribute [local irreducible] Sch.heldN Sch.stepV Sch.stepE

set_option maxRecDepth 100000 in
set_option maxHeartbeats 8000000 in
theorem applies_law (l m : List Nt) (a b : Option Addr) (c d : Nat) (w : World) (hx : Sl w a l.length c l) (hy : Sl w b m.length d m) :
    Calls Tryz.prog 6 #[.slice a l.length c, .slice b m.length d] w fun e w' => e = .returned (.bool true) ∧ Below w.heap.size w w' := by
  have HB := Lib.hid (Below.refl w.heap.size w)
  by_cases hl : 40 < l.length
  · have hl2 : (40 : Int) < (l.length : Int) := by omega
    clear hl hx hy
    go_enter Tryz.func6, Tryz.ntmps6
    go_wp2_with fail
    refine (known_any _).mono ?_
    rintro e w99 ⟨rfl, hb⟩
    replace HB := bel_tr HB hb
    clear hb
    go_wp2_with fail
    go_ret
    exact ⟨rfl, HB.out⟩
  by_cases hm : 40 < m.length
  · have hl2 : ¬ (40 : Int) < (l.length : Int) := by omega
    have hm2 : (40 : Int) < (m.length : Int) := by omega
    clear hl hm hx hy
    go_enter Tryz.func6, Tryz.ntmps6
    go_wp2_with fail
    refine (known_any _).mono ?_
    rintro e w99 ⟨rfl, hb⟩
    replace HB := bel_tr HB hb
    clear hb
    go_wp2_with fail
    go_ret
    exact ⟨rfl, HB.out⟩
  have hl2 : ¬ (40 : Int) < (l.length : Int) := by omega
  have hm2 : ¬ (40 : Int) < (m.length : Int) := by omega
  have HX := Lib.hid hx
  have HY := Lib.hid hy
  have HLa := Lib.hid (fun w h => latest_any l a c w h (by omega))
  have HLr := Lib.hid (fun w h => latest_ref l a c w h (by omega))
  have HAp := Lib.hid (fun (w : World) (h1 : Sl w a l.length c l) (h2 : Sl w b m.length d m) => apply_any l m a b c d w h1.r h1.z h1.c h2.r h2.z h2.c (by omega) (by omega))
  have HS1 := Lib.hid (fun w h => store_ref l a c w h (by omega))
  have HS2 := Lib.hid (fun w h => store_ref m b d w h (by omega))
  have HAg := Lib.hid (fun w h1 h2 => agree_ref l m a b c d w h1 h2 (by omega) (by omega))
  have HJr := Lib.hid (fun w h1 h2 h3 => join_ref l m a b c d w h1 h2 h3 (by omega) (by omega))
  have hap : appP l m = if (validS l && validS m) = true then (if agS l m = true then (joinL l m, runesS (joinL l m), 0) else ([], [], 15)) else ([], [], 2) := rfl
  rcases hv1 : validS l with _ | _
  · rw [hv1, Bool.false_and, if_neg (by decide)] at hap
    rw [hap] at HAp
    rw [hv1] at HS1
    generalize lateP l = LT at *
    clear hl hm hx hy hap hv1 HJr HAg HS2
    go_enter Tryz.func6, Tryz.ntmps6
    go_wp2_with fail
    refine (HLa.out _ HX.out.r).mono ?_
    rintro e w2 ⟨rfl, hb⟩
    replace HB := bel_tr HB hb
    replace HX := Lib.hid (HX.out.keep hb)
    replace HY := Lib.hid (HY.out.keep hb)
    clear hb HLa
    go_wp2_with fail
    refine (HLr.out _ HX.out.r).mono ?_
    rintro e w3 ⟨rfl, hb⟩
    replace HB := bel_tr HB hb
    replace HX := Lib.hid (HX.out.keep hb)
    replace HY := Lib.hid (HY.out.keep hb)
    clear hb HLr
    go_wp2_with fail
    refine (HAp.out _ HX.out HY.out).mono ?_
    rintro e w4 ⟨v4, u4, rfl, ho, hi, hb⟩
    obtain ⟨aV, cV, rfl, hsl⟩ := on_sl ho
    obtain ⟨aU, cU, rfl, hri⟩ := oi_ri hi
    have HV := Lib.hid hsl
    have HU := Lib.hid hri
    replace HB := bel_tr HB hb
    replace HX := Lib.hid (HX.out.keep hb)
    replace HY := Lib.hid (HY.out.keep hb)
    clear hb HAp ho hi hsl hri
    go_wp2_with fail
    refine (HS1.out _ HX.out.r).mono ?_
    rintro e w5 ⟨rfl, hb⟩
    replace HB := bel_tr HB hb
    replace HX := Lib.hid (HX.out.keep hb)
    replace HY := Lib.hid (HY.out.keep hb)
    replace HV := Lib.hid (HV.out.keep hb)
    replace HU := Lib.hid (HU.out.keep hb)
    clear hb HS1

    go_wp2_with fail
    refine (known_any _).mono ?_
    rintro e w99 ⟨rfl, hb⟩
    replace HB := bel_tr HB hb
    clear hb
    go_wp2_with fail
    go_ret
    exact ⟨rfl, HB.out⟩
  rcases hv2 : validS m with _ | _
  · rw [hv1, hv2, if_neg (by decide)] at hap
    rw [hap] at HAp
    rw [hv1] at HS1
    rw [hv2] at HS2
    generalize lateP l = LT at *
    clear hl hm hx hy hap hv1 hv2 HJr HAg
    go_enter Tryz.func6, Tryz.ntmps6
    go_wp2_with fail
    refine (HLa.out _ HX.out.r).mono ?_
    rintro e w2 ⟨rfl, hb⟩
    replace HB := bel_tr HB hb
    replace HX := Lib.hid (HX.out.keep hb)
    replace HY := Lib.hid (HY.out.keep hb)
    clear hb HLa
    go_wp2_with fail
    refine (HLr.out _ HX.out.r).mono ?_
    rintro e w3 ⟨rfl, hb⟩
    replace HB := bel_tr HB hb
    replace HX := Lib.hid (HX.out.keep hb)
    replace HY := Lib.hid (HY.out.keep hb)
    clear hb HLr
    go_wp2_with fail
    refine (HAp.out _ HX.out HY.out).mono ?_
    rintro e w4 ⟨v4, u4, rfl, ho, hi, hb⟩
    obtain ⟨aV, cV, rfl, hsl⟩ := on_sl ho
    obtain ⟨aU, cU, rfl, hri⟩ := oi_ri hi
    have HV := Lib.hid hsl
    have HU := Lib.hid hri
    replace HB := bel_tr HB hb
    replace HX := Lib.hid (HX.out.keep hb)
    replace HY := Lib.hid (HY.out.keep hb)
    clear hb HAp ho hi hsl hri
    go_wp2_with fail
    refine (HS1.out _ HX.out.r).mono ?_
    rintro e w5 ⟨rfl, hb⟩
    replace HB := bel_tr HB hb
    replace HX := Lib.hid (HX.out.keep hb)
    replace HY := Lib.hid (HY.out.keep hb)
    replace HV := Lib.hid (HV.out.keep hb)
    replace HU := Lib.hid (HU.out.keep hb)
    clear hb HS1
    go_wp2_with fail
    refine (HS2.out _ HY.out.r).mono ?_
    rintro e w6 ⟨rfl, hb⟩
    replace HB := bel_tr HB hb
    replace HX := Lib.hid (HX.out.keep hb)
    replace HY := Lib.hid (HY.out.keep hb)
    replace HV := Lib.hid (HV.out.keep hb)
    replace HU := Lib.hid (HU.out.keep hb)
    clear hb HS2

    go_wp2_with fail
    refine (known_any _).mono ?_
    rintro e w99 ⟨rfl, hb⟩
    replace HB := bel_tr HB hb
    clear hb
    go_wp2_with fail
    go_ret
    exact ⟨rfl, HB.out⟩
  rcases hag : agS l m with _ | _
  · rw [hv1, hv2, if_pos (by rfl), hag, if_neg (by decide)] at hap
    rw [hap] at HAp
    rw [hv1] at HS1
    rw [hv2] at HS2
    rw [hag] at HAg
    generalize lateP l = LT at *
    clear hl hm hx hy hap hv1 hv2 hag HJr
    go_enter Tryz.func6, Tryz.ntmps6
    go_wp2_with fail
    refine (HLa.out _ HX.out.r).mono ?_
    rintro e w2 ⟨rfl, hb⟩
    replace HB := bel_tr HB hb
    replace HX := Lib.hid (HX.out.keep hb)
    replace HY := Lib.hid (HY.out.keep hb)
    clear hb HLa
    go_wp2_with fail
    refine (HLr.out _ HX.out.r).mono ?_
    rintro e w3 ⟨rfl, hb⟩
    replace HB := bel_tr HB hb
    replace HX := Lib.hid (HX.out.keep hb)
    replace HY := Lib.hid (HY.out.keep hb)
    clear hb HLr
    go_wp2_with fail
    refine (HAp.out _ HX.out HY.out).mono ?_
    rintro e w4 ⟨v4, u4, rfl, ho, hi, hb⟩
    obtain ⟨aV, cV, rfl, hsl⟩ := on_sl ho
    obtain ⟨aU, cU, rfl, hri⟩ := oi_ri hi
    have HV := Lib.hid hsl
    have HU := Lib.hid hri
    replace HB := bel_tr HB hb
    replace HX := Lib.hid (HX.out.keep hb)
    replace HY := Lib.hid (HY.out.keep hb)
    clear hb HAp ho hi hsl hri
    go_wp2_with fail
    refine (HS1.out _ HX.out.r).mono ?_
    rintro e w5 ⟨rfl, hb⟩
    replace HB := bel_tr HB hb
    replace HX := Lib.hid (HX.out.keep hb)
    replace HY := Lib.hid (HY.out.keep hb)
    replace HV := Lib.hid (HV.out.keep hb)
    replace HU := Lib.hid (HU.out.keep hb)
    clear hb HS1
    go_wp2_with fail
    refine (HS2.out _ HY.out.r).mono ?_
    rintro e w6 ⟨rfl, hb⟩
    replace HB := bel_tr HB hb
    replace HX := Lib.hid (HX.out.keep hb)
    replace HY := Lib.hid (HY.out.keep hb)
    replace HV := Lib.hid (HV.out.keep hb)
    replace HU := Lib.hid (HU.out.keep hb)
    clear hb HS2
    go_wp2_with fail
    refine (HAg.out _ HX.out.r HY.out.r).mono ?_
    rintro e w7 ⟨rfl, hb⟩
    replace HB := bel_tr HB hb
    replace HX := Lib.hid (HX.out.keep hb)
    replace HY := Lib.hid (HY.out.keep hb)
    replace HV := Lib.hid (HV.out.keep hb)
    replace HU := Lib.hid (HU.out.keep hb)
    clear hb HAg

    go_wp2_with fail
    refine (known_any _).mono ?_
    rintro e w99 ⟨rfl, hb⟩
    replace HB := bel_tr HB hb
    clear hb
    go_wp2_with fail
    go_ret
    exact ⟨rfl, HB.out⟩
  rw [hv1, hv2, if_pos (by rfl), hag, if_pos rfl] at hap
  rw [hap] at HAp
  rw [joinR_eq hv1 hv2 hag] at HJr
  have HLj : Hid ((joinL l m).length ≤ 80) := by have := joinL_len l m; show _ ≤ _; omega
  have HRu := Lib.hid (fun (w : World) (z : Option Addr) (cz : Nat) h => runes_ref (joinL l m) (join_valid hv1 hv2 hag) z cz w h (by have := HLj.out; omega))
  have HRl : Hid ((runesS (joinL l m)).length ≤ 80) := by
    have h1 := vis_len (join_valid hv1 hv2 hag)
    have h2 := HLj.out
    show _ ≤ _
    unfold runesS
    rw [List.length_map]
    omega
  have HSm := Lib.hid (fun (w : World) (x z : Option Addr) (cx cz : Nat) (h1 : RowN w x (joinL l m)) (h2 : RowN w z (joinL l m)) => same_ref (joinL l m) (joinL l m) x z cx cz w h1 h2 (by have := HLj.out; omega) (by have := HLj.out; omega))
  have HSr := Lib.hid (fun (w : World) (x z : Option Addr) (cx cz : Nat) (h1 : G.RowI .i32 w x (runesS (joinL l m))) (h2 : G.RowI .i32 w z (runesS (joinL l m))) => sameR_ref _ _ x z cx cz w h1 h2 (by have := HRl.out; omega) (by have := HRl.out; omega))
  rw [decide_eq_true rfl] at HSm HSr
  rw [hv1] at HS1
  rw [hv2] at HS2
  rw [hag] at HAg
  generalize lateP l = LT at *
  clear hl hm hx hy hap hv1 hv2 hag
  generalize runesS (joinL l m) = RL at *
  generalize joinL l m = JL at *
  go_enter Tryz.func6, Tryz.ntmps6
  go_wp2_with fail
  refine (HLa.out _ HX.out.r).mono ?_
  rintro e w2 ⟨rfl, hb⟩
  replace HB := bel_tr HB hb
  replace HX := Lib.hid (HX.out.keep hb)
  replace HY := Lib.hid (HY.out.keep hb)
  clear hb HLa
  go_wp2_with fail
  refine (HLr.out _ HX.out.r).mono ?_
  rintro e w3 ⟨rfl, hb⟩
  replace HB := bel_tr HB hb
  replace HX := Lib.hid (HX.out.keep hb)
  replace HY := Lib.hid (HY.out.keep hb)
  clear hb HLr
  go_wp2_with fail
  refine (HAp.out _ HX.out HY.out).mono ?_
  rintro e w4 ⟨v4, u4, rfl, ho, hi, hb⟩
  obtain ⟨aV, cV, rfl, hsl⟩ := on_sl ho
  obtain ⟨aU, cU, rfl, hri⟩ := oi_ri hi
  have HV := Lib.hid hsl
  have HU := Lib.hid hri
  replace HB := bel_tr HB hb
  replace HX := Lib.hid (HX.out.keep hb)
  replace HY := Lib.hid (HY.out.keep hb)
  clear hb HAp ho hi hsl hri
  go_wp2_with fail
  refine (HS1.out _ HX.out.r).mono ?_
  rintro e w5 ⟨rfl, hb⟩
  replace HB := bel_tr HB hb
  replace HX := Lib.hid (HX.out.keep hb)
  replace HY := Lib.hid (HY.out.keep hb)
  replace HV := Lib.hid (HV.out.keep hb)
  replace HU := Lib.hid (HU.out.keep hb)
  clear hb HS1
  go_wp2_with fail
  refine (HS2.out _ HY.out.r).mono ?_
  rintro e w6 ⟨rfl, hb⟩
  replace HB := bel_tr HB hb
  replace HX := Lib.hid (HX.out.keep hb)
  replace HY := Lib.hid (HY.out.keep hb)
  replace HV := Lib.hid (HV.out.keep hb)
  replace HU := Lib.hid (HU.out.keep hb)
  clear hb HS2
  go_wp2_with fail
  refine (HAg.out _ HX.out.r HY.out.r).mono ?_
  rintro e w7 ⟨rfl, hb⟩
  replace HB := bel_tr HB hb
  replace HX := Lib.hid (HX.out.keep hb)
  replace HY := Lib.hid (HY.out.keep hb)
  replace HV := Lib.hid (HV.out.keep hb)
  replace HU := Lib.hid (HU.out.keep hb)
  clear hb HAg

  go_wp2_with fail
  refine (HJr.out _ HX.out.r HX.out.z HY.out.r).mono ?_
  rintro e w8 ⟨v8, rfl, ho, hb⟩
  obtain ⟨aJ, cJ, rfl, hsl⟩ := on_sl ho
  have HJ := Lib.hid hsl
  replace HB := bel_tr HB hb
  replace HV := Lib.hid (HV.out.keep hb)
  replace HU := Lib.hid (HU.out.keep hb)
  clear hb HJr ho hsl HX HY
  go_wp2_with fail
  refine (HSm.out _ _ _ _ _ HV.out.r HJ.out.r).mono ?_
  rintro e w9 ⟨rfl, hb⟩
  replace HB := bel_tr HB hb
  replace HJ := Lib.hid (HJ.out.keep hb)
  replace HU := Lib.hid (HU.out.keep hb)
  clear hb HSm HV
  go_wp2_with fail
  refine (HRu.out _ _ _ HJ.out.r).mono ?_
  rintro e w10 ⟨v10, rfl, ho, hb⟩
  obtain ⟨aR, cR, rfl, hri⟩ := oi_ri ho
  have HR := Lib.hid hri
  replace HB := bel_tr HB hb
  replace HU := Lib.hid (HU.out.keep hb)
  clear hb HRu ho hri HJ
  go_wp2_with fail
  refine (HSr.out _ _ _ _ _ HU.out.r HR.out.r).mono ?_
  rintro e w11 ⟨rfl, hb⟩
  replace HB := bel_tr HB hb
  clear hb HSr HU HR
  go_wp2_with fail
  refine (known_any _).mono ?_
  rintro e w99 ⟨rfl, hb⟩
  replace HB := bel_tr HB hb
  clear hb
  go_wp2_with fail
  go_ret
  exact ⟨rfl, HB.out⟩
end Go.Proofs.YtkcbekebleodaaaGreat.Ed
end

/-
  Layer 15: long insertions, plainly; rows that are made whole.
-/
section
namespace Go.Proofs.YtkcbekebleodaaaGreat.Ed
set_option linter.unusedVariables false
open Go.RowKit V Go.Shelf Go.Sort D Nd Qs Wk Ix Jn Fo

/-- As many nodes of a rune, each below the one before. -/
def longE (k : Nat) (x : Int) : List Nt := chainN (1, 1) (0, 0) 1 (List.replicate k x)
def nodeE (x : Int) (i : Nat) : Nt := ((1, (i : Int) + 1), (if i = 0 then (0, 0) else (1, (i : Int))), (i : Int) + 1, x)
theorem longE_len (k : Nat) (x : Int) : (longE k x).length = k := by unfold longE; rw [chain_len, List.length_replicate]
theorem longE_get (k : Nat) (x : Int) (i : Nat) (h : i < (longE k x).length) : (longE k x)[i] = nodeE x i := by
  rw [longE_len] at h
  have := chain_get (List.replicate k x) (1, 1) (0, 0) 1 i (by rw [List.length_replicate]; exact h)
  refine (show (longE k x)[i] = _ from this).trans ?_
  unfold nodeE
  rw [List.getElem_replicate]
  simp only [Prod.mk.injEq, true_and, and_true]
  refine ⟨by omega, ?_, by omega⟩
  split
  · rfl
  · simp only [Prod.mk.injEq, true_and]; omega
theorem longE_ext {k : Nat} {x : Int} {M : List Nt} (hM : M.length = k) (h : ∀ j (hj : j < M.length), M[j] = nodeE x j) : M = longE k x := by
  refine List.ext_getElem (by rw [hM, longE_len]) fun i h1 h2 => ?_
  rw [h i h1, longE_get]
theorem long_ok (k : Nat) (x : Int) (hk : k ≤ 20000) (hx : R.vld x = true) : Ok [] (1, 1) 0 0 (List.replicate k x) := by
  refine ⟨rfl, by decide, by decide, fun r hr => ?_, ?_, ?_, fun _ _ => rfl⟩
  · rw [List.eq_of_mem_replicate hr]; exact hx
  · rw [List.length_replicate]; show (1 : Int) + _ ≤ _; omega
  · rw [List.length_replicate]; show (0 : Int) + _ ≤ _; omega
theorem long_chain (k : Nat) (x : Int) : chainS [] (1, 1) 0 (List.replicate k x) = longE k x := rfl
theorem long_edit (k : Nat) (x : Int) (hk : k ≤ 20000) (hx : R.vld x = true) : editS [] (1, 1) 0 0 (List.replicate k x) = longE k x := by
  have h := (long_ok k x hk hx).ins
  rw [long_chain] at h
  rw [← h]
  unfold deltaS partsS editS killsS
  simp
theorem long_well (k : Nat) (x : Int) (hk : k ≤ 20000) (hx : R.vld x = true) : wellS (longE k x) = true := by
  rw [← long_edit k x hk hx]
  exact (long_ok k x hk hx).well
theorem long_vis (k : Nat) (x : Int) (hk : k ≤ 20000) (hx : R.vld x = true) : visS (longE k x) = longE k x := by
  have h := (long_ok k x hk hx).vis
  rw [long_edit k x hk hx, long_chain] at h
  rw [h]
  have e : visS [] = [] := rfl
  rw [e]
  simp
theorem long_ins (k : Nat) (x : Int) (hk : k ≤ 10000) (hx : R.vld x = true) : insP [] (1, 1) 0 (List.replicate k x) = (longE k x, 0) := by
  have ho := long_ok k x (by omega) hx
  have h := ok_rep ho (by omega) (by rw [List.length_replicate]; omega)
  unfold insP
  rw [ho.ins, long_chain] at h
  exact h
theorem long_ins5 (k : Nat) (x : Int) (hk : 10000 < k) : insP [] (1, 1) 0 (List.replicate k x) = ([], 5) := rep_long (by decide) (by unfold offR; rw [show visS [] = [] from rfl]; decide) (.inl (by rw [List.length_replicate]; exact hk))
theorem long_del5 (k : Nat) (x : Int) (hk : 10000 < k) (hk2 : k ≤ 20000) (hx : R.vld x = true) : delP (longE k x) 0 (k : Int) = ([], 5) := by
  refine rep_long (by rw [long_well k x hk2 hx]; decide) ?_ (.inr (by omega))
  have hv := long_vis k x hk2 hx
  unfold offR
  rw [hv, longE_len]
  omega
theorem long_del (k : Nat) (x : Int) (hk : k ≤ 10000) (hx : R.vld x = true) : delP (longE k x) 0 (k : Int) = ((longE k x).map killN, 0) := by
  have hk2 : k ≤ 20000 := by omega
  have hw := long_well k x hk2 hx
  have hv := long_vis k x hk2 hx
  have ho : Ok (longE k x) (1, 1) 0 k [] := by
    refine ⟨hw, by decide, by rw [hv, longE_len]; omega, (fun r hr => by cases hr), by decide, ?_, (fun j hj => by cases hj)⟩
    have := time_top (well_valid hw)
    simpa using this
  have h := ok_rep ho hk (by decide)
  unfold delP
  have e : deltaS (longE k x) (1, 1) 0 k [] = (longE k x).map killN := by
    have hd := ho.delta
    have hks : killsS (longE k x) 0 k = (longE k x).map killN := by
      unfold killsS
      rw [hv, List.drop_zero, List.take_of_length_le (by rw [longE_len]; exact Nat.le_refl _)]
    refine srt_ext2 (validS_iff.1 hd.1).2 ?_ fun y => ?_
    · exact List.Pairwise.map killN (fun a b hab => hab) (validS_iff.1 (well_valid hw)).2
    · rw [hd.2 y]
      unfold partsS chainS
      rw [hks]
      simp [chainN]
  rw [e] at h
  exact h
theorem nodeE_fit (x : Int) (i : Nat) (hi : i ≤ 20000) : fitN (nodeE x i) := by
  have h1 : ∀ z : Int, 0 ≤ z → z ≤ 20001 → (Lit.int .i64 z).wf = true := fun z h0 h2 => by
    simp only [Lit.wf, IntKind.min, IntKind.max, IntKind.signed, IntKind.bits]
    simp
    omega
  unfold nodeE
  refine ⟨⟨h1 1 (by decide) (by decide), h1 ((i : Int) + 1) (by omega) (by omega)⟩, ?_⟩
  by_cases h : i = 0
  · simp only [h, if_true]
    exact ⟨h1 0 (by decide) (by decide), h1 0 (by decide) (by decide)⟩
  · simp only [h, if_false]
    exact ⟨h1 1 (by decide) (by decide), h1 _ (by show 0 ≤ (_ : Int); omega) (by show (_ : Int) ≤ _; omega)⟩
theorem longE_fit (k : Nat) (x : Int) (hk : k ≤ 20000) : ∀ n ∈ longE k x, fitN n := fun n hn => by
  obtain ⟨i, hi, rfl⟩ := List.getElem_of_mem hn
  rw [longE_get]
  rw [longE_len] at hi
  exact nodeE_fit x i (by omega)

/-- make of a row of runes. -/
theorem mk_runes (w : World) (n : Nat) (hn : n ≤ 20000) :
    ∃ w', (Instr.makeSlice 26 (.int .i64 (n : Int)) (.int .i64 (n : Int))).run Tryz.prog w = .ok (.slice (some ⟨w.heap.size, 0, none⟩) n n) w' ∧ G.OI w' w.heap.size 21 .i32 (.slice (some ⟨w.heap.size, 0, none⟩) n n) (List.replicate n 0) ∧ Below w.heap.size w w' := by
  obtain ⟨i, hi, hz0, hz1, hz2⟩ := G.info_of (show (Tryz.prog.info? 21).map (fun i => (i.zero, i.size, i.bytes)) = some (some (.int .i32 0), 1, 4) by kernel_rfl)
  obtain ⟨w', hr, ho, hg⟩ := run_make_full (P := Tryz.prog) w w.heap.size 26 21 i _ 1 Tryz.underlying26 hi hz0 hz1 .i64 .i64 n (by rw [hz2]; omega) (by unfold maxLen; omega) (Nat.le_refl _)
  refine ⟨w', hr, ?_, (Below.refl _ _).grown hg (Nat.le_refl _) (fun k hk => by cases hk)⟩
  unfold G.OI
  rw [List.length_replicate, List.map_replicate]
  have e : (madeCells (Value.cells (.int .i32 0)) (n * 1)).toList = List.replicate n (.int .i32 0) := by rw [Nat.mul_one]; exact toList_madeCells_one _ _
  rw [e] at ho
  exact ho
theorem put_rune {w : World} {base g n cap : Nat} {E : TypeId} {l : List Int} (h : G.OI w base E .i32 (.slice (some ⟨g, 0, none⟩) n cap) l) (j : Nat) (x : Int) : G.OI (w.setCell ⟨g, j, none⟩ (.int .i32 x)) base E .i32 (.slice (some ⟨g, 0, none⟩) n cap) (l.set j x) := by
  have hn : n = l.length := by
    rcases h.2 with ⟨e, h0⟩ | ⟨g', cap', cur, e, _⟩
    · simp at e
    · simp only [Value.slice.injEq] at e; exact e.2.1
  subst hn
  have h1 := World.ownsRow.stored h j (.int .i32 x)
  unfold G.OI
  rw [List.length_set, List.map_set]
  exact h1.1
theorem cell_rune {w : World} {base g n cap : Nat} {E : TypeId} {l : List Int} (h : G.OI w base E .i32 (.slice (some ⟨g, 0, none⟩) n cap) l) (j : Nat) (hj : j < l.length) : w.cell? ⟨g, j, none⟩ = some (.int .i32 l[j]) := by
  have hn : n = l.length := by
    rcases h.2 with ⟨e, h0⟩ | ⟨g', cap', cur, e, _⟩
    · simp at e
    · simp only [Value.slice.injEq] at e; exact e.2.1
  subst hn
  rw [World.ownsRow.cellAt h j (by omega)]
  simp [hj]
theorem free_rune {w : World} {base g n cap : Nat} {E : TypeId} {l : List Int} (h : G.OI w base E .i32 (.slice (some ⟨g, 0, none⟩) n cap) l) (j : Nat) : w.frozen? ⟨g, j, none⟩ = false := by
  rcases h.2 with ⟨e, h0⟩ | ⟨g', cap', cur, e, hb, hg, _⟩
  · cases e
  · simp only [Value.slice.injEq, Option.some.injEq, Addr.mk.injEq, and_true] at e
    obtain ⟨rfl, -, -⟩ := e
    simp [World.frozen?, hg]
/-- make of a row of nodes. -/
theorem mk_nodes (w : World) (n : Nat) (hn : n ≤ 20000) :
    ∃ w', (Instr.makeSlice 23 (.int .i64 (n : Int)) (.int .i64 (n : Int))).run Tryz.prog w = .ok (.slice (some ⟨w.heap.size, 0, none⟩) n n) w' ∧ ON w' w.heap.size 53 (.slice (some ⟨w.heap.size, 0, none⟩) n n) (List.replicate n zeroN) ∧ Below w.heap.size w w' := by
  obtain ⟨i, hi, hz0, hz1, hz2⟩ := G.info_of infoN
  obtain ⟨w', hr, ho, hg⟩ := run_make_full (P := Tryz.prog) w w.heap.size 23 53 i _ 6 Tryz.underlying23 hi hz0 hz1 .i64 .i64 n (by rw [hz2]; omega) (by unfold maxLen; omega) (Nat.le_refl _)
  refine ⟨w', hr, ?_, (Below.refl _ _).grown hg (Nat.le_refl _) (fun k hk => by cases hk)⟩
  unfold ON
  rw [List.length_replicate]
  have e : (madeCells (Value.cells (nv zeroN)) (n * 6)).toList = cellsN (List.replicate n zeroN) := by
    refine List.ext_getElem? fun t => ?_
    by_cases ht : t < n * 6
    · have hi : t / 6 < (List.replicate n zeroN).length := by rw [List.length_replicate]; omega
      have h2 := cellsN_at (List.replicate n zeroN) (t / 6) hi (t % 6) (by omega)
      rw [show t / 6 * 6 + t % 6 = t by omega, List.getElem_replicate] at h2
      rw [h2]
      have e2 : (Value.cells (nv zeroN)).size = 6 := rfl
      simp only [madeCells, e2, Array.getElem?_toList, Array.getElem?_map, Array.getElem?_range, ht, if_true, Option.map_some]
      have h6 : t % 6 < 6 := Nat.mod_lt _ (by decide)
      generalize t % 6 = j at h6 ⊢
      match j, h6 with
      | 0, _ => rfl
      | 1, _ => rfl
      | 2, _ => rfl
      | 3, _ => rfl
      | 4, _ => rfl
      | 5, _ => rfl
    · rw [List.getElem?_eq_none (by rw [Array.length_toList, size_madeCells]; omega), List.getElem?_eq_none (by rw [cellsN_length, List.length_replicate]; omega)]
  rw [← e]
  exact ho
end Go.Proofs.YtkcbekebleodaaaGreat.Ed
end

/-
  Layer 15: the law EditLongs.
-/
section
namespace Go.Proofs.YtkcbekebleodaaaGreat.Ed
set_option linter.unusedVariables false
open Go.RowKit V Go.Shelf Go.Sort D Nd Qs Wk Ix Jn Fo
attribute [local irreducible] Sch.heldN Sch.stepV Sch.stepE

theorem ixR (b n c k : Nat) (z : Int) (hz : z = (k : Int)) (hk : k < n) : ∀ w, (Instr.indexAt 26 (.slice (some ⟨b, 0, none⟩) n c) (.int .i64 z)).run Tryz.prog w = .ok (.pointer (some ⟨b, k, none⟩)) w := fun w => by
  subst hz
  go_simp
theorem bf_new (w : World) (n : Nt) : Bf (w.alloc (.cells (nc n) 53)) w.heap.size n := by
  refine ⟨Nb.new w n, fun o => ?_⟩
  go_simp
theorem par_bf {w : World} {g : Nat} {n : Nt} (h : Bf w g n) (p : Dt) : Bf ((w.setCell ⟨g, 2, none⟩ (.int .i64 p.1)).setCell ⟨g, 3, none⟩ (.int .i64 p.2)) g (n.1, p, n.2.2) := by
  obtain ⟨⟨h0, h1, h2, h3, h4, h5⟩, hf⟩ := h
  refine ⟨?_, fun o => ?_⟩
  · refine ⟨?_, ?_, ?_, ?_, ?_, ?_⟩ <;> go_simp
  · simp only [World.frozen?_setCell]
    exact hf o
theorem gb_par (w : World) (g : Nat) (u v : Value) : w.grownBy ((w.setCell ⟨g, 2, none⟩ u).setCell ⟨g, 3, none⟩ v) (some g) := gb_trans (gb_setCell _ _ _ _) (gb_setCell _ _ _ _)
theorem neq_same (q1 q2 q3 q4 q5 q6 : Int) (w : World) : Sem.run Tryz.prog (binOp .neq 53 (.agg #[.int .i64 q1, .int .i64 q2, .int .i64 q3, .int .i64 q4, .int .i64 q5, .int .i32 q6]) (.agg #[.int .i64 q1, .int .i64 q2, .int .i64 q3, .int .i64 q4, .int .i64 q5, .int .i32 q6])) w = .ok (.bool false) w := by
  have h := neq_node ((q1, q2), (q3, q4), q5, q6) ((q1, q2), (q3, q4), q5, q6) w
  rw [decide_eq_true rfl] at h
  exact h
set_option maxRecDepth 100000 in
set_option maxHeartbeats 8000000 in
theorem longs_law (m x : Int) (w : World) : Calls Tryz.prog 7 #[.int .i64 m, .int .i32 x] w fun e w' => e = .returned (.bool true) ∧ Below w.heap.size w w' := by
  have HB := Lib.hid (Below.refl w.heap.size w)
  by_cases h1 : m < 9998
  · go_enter Tryz.func7, Tryz.ntmps7
    go_wp2_with fail
    refine (known_any _).mono ?_
    rintro e w99 ⟨rfl, hb⟩
    replace HB := bel_tr HB hb
    clear hb
    go_wp2_with fail
    go_ret
    exact ⟨rfl, HB.out⟩
  by_cases h2 : 10002 < m
  · go_enter Tryz.func7, Tryz.ntmps7
    go_wp2_with fail
    refine (known_any _).mono ?_
    rintro e w99 ⟨rfl, hb⟩
    replace HB := bel_tr HB hb
    clear hb
    go_wp2_with fail
    go_ret
    exact ⟨rfl, HB.out⟩
  have HIr := Lib.hid (fun w => isRune_ref x w)
  rcases hv : R.vld x with _ | _
  · rw [hv] at HIr
    go_enter Tryz.func7, Tryz.ntmps7
    go_wp2_with fail
    refine (HIr.out _).mono ?_
    rintro e w1 ⟨rfl, rfl⟩
    go_wp2_with fail
    refine (known_any _).mono ?_
    rintro e w99 ⟨rfl, hb⟩
    replace HB := bel_tr HB hb
    clear hb
    go_wp2_with fail
    go_ret
    exact ⟨rfl, HB.out⟩
  rw [hv] at HIr
  obtain ⟨n, rfl⟩ : ∃ n : Nat, m = (n : Int) := ⟨m.toNat, by omega⟩
  have HIn := Lib.hid (fun w => mk_runes w n (by omega))
  have hn1 : 9998 ≤ n := by omega
  have hn2 : n ≤ 10002 := by omega
  have HV := Lib.hid hv
  clear hv
  go_enter Tryz.func7, Tryz.ntmps7
  go_wp2_with fail
  refine (HIr.out _).mono ?_
  rintro e w1 ⟨rfl, rfl⟩
  obtain ⟨w2, hmk, ho, hb⟩ := HIn.out w1
  replace HB := bel_tr HB hb
  have HO := Lib.hid ho
  clear hb ho HIr HIn
  go_wp2_with fail
  go_loopw [6] (fun i wr => ∃ (k : Nat) (M : List Int), k ≤ n ∧ i = .int .i64 (k : Int) ∧ Hid (M.length = n) ∧ Hid (∀ j (h : j < M.length), j < k → M[j] = x) ∧ Hid (Below w1.heap.size w1 wr) ∧ Hid (G.OI wr w1.heap.size 21 .i32 (.slice (some ⟨w1.heap.size, 0, none⟩) n n) M)) (fun i _ => n - (intOf i).toNat)
  case atStart => exact ⟨0, _, Nat.zero_le _, rfl, by show _ = _; rw [List.length_replicate], fun j h h0 => absurd h0 (Nat.not_lt_zero _), HB, HO⟩
  case round =>
    clear HO HB hmk
    obtain ⟨k, M, hk, rfl, HM, HJ, HB, HO⟩ := hrel
    by_cases hlt : k < n
    · have hi0 : (k : Int) < (n : Int) := by omega
      have hkM : k < M.length := by rw [HM.out]; exact hlt
      have hcl := cell_rune HO.out k hkM
      have hfr := free_rune HO.out k
      have hix := ixR w1.heap.size n n k (k : Int) rfl hlt
      have HO2 := Lib.hid (put_rune HO.out k x)
      have HB2 := Lib.hid (HB.out.setCell (p := ⟨w1.heap.size, k, none⟩) (Nat.le_refl _) (.int .i32 x))
      have HM2 : Hid ((M.set k x).length = n) := by show _ = _; rw [List.length_set]; exact HM.out
      have HJ2 : Hid (∀ j (h : j < (M.set k x).length), j < k + 1 → (M.set k x)[j] = x) := fun j h h0 => by
        rw [List.getElem_set]
        split
        · rfl
        · exact HJ.out j (by rw [List.length_set] at h; exact h) (by omega)
      generalize M.set k x = M2 at *
      clear HO HJ HM HB
      go_wp2_with fail
      refine ⟨⟨k + 1, M2, by omega, by go_num, HM2, HJ2, HB2, HO2⟩, ?_⟩
      simp [intOf]; omega
    · obtain rfl : k = n := by omega
      have hend : ¬ (k : Int) < (k : Int) := by omega
      obtain rfl : M = List.replicate k x := by
        refine List.ext_getElem (by rw [HM.out, List.length_replicate]) fun i g1 g2 => ?_
        rw [List.getElem_replicate]
        exact HJ.out i g1 (by have := HM.out; omega)
      have HRr : Hid (G.RowI .i32 wr (some ⟨w1.heap.size, 0, none⟩) (List.replicate k x)) := by
        obtain ⟨a, c, e, hr, -⟩ := G.OI.row HO.out
        simp only [Value.slice.injEq, List.length_replicate] at e
        obtain ⟨rfl, -, -⟩ := e
        exact hr
      clear HM HJ HO hlt hk
      go_wp2_with fail
      refine (dot_law 1 1 _).mono ?_
      rintro e w3 ⟨rfl, hb⟩
      replace HB := bel_tr HB hb
      replace HRr := Lib.hid (HRr.out.keep hb (Nat.le_refl _))
      clear hb
      have HIs := Lib.hid (fun (w : World) (h : G.RowI .i32 w (some ⟨w1.heap.size, 0, none⟩) (List.replicate k x)) => insert_any [] (1, 1) 0 (List.replicate k x) none (some ⟨w1.heap.size, 0, none⟩) 0 k w (fun y hy => by cases hy) (.inl rfl) h (by decide) (by rw [List.length_replicate]; omega) (by decide) (by decide))
      rw [List.length_replicate] at HIs
      have HGw : Hid (w1.heap.size ≤ w3.heap.size) := HB.out.size
      by_cases hc : k ≤ 10000
      · have hc2 : ¬ (10000 : Int) < (k : Int) := by omega
        have hc3 : (k : Int) ≤ 10000 := by omega
        rw [long_ins k x hc HV.out] at HIs
        go_wp2_with fail
        refine (HIs.out _ HRr.out).mono ?_
        rintro e w4 ⟨v4, rfl, ho, hb⟩
        replace HB := bel_tr HB hb
        obtain ⟨a4, c4, rfl, -, -, -, hax⟩ := ON.row ho
        obtain ⟨g, rfl⟩ : ∃ g, a4 = some ⟨g, 0, none⟩ := by
          rcases a4 with _ | y
          · have h0 := (ON.r ho).1
            rcases h0 with h0 | ⟨b, o, h0, -⟩
            · have := longE_len k x; rw [h0] at this; simp at this; omega
            · cases h0
          · exact ⟨y.block, by rw [← (hax y rfl).1]⟩
        have HO := Lib.hid (ho.mono (base' := w1.heap.size) (fun y hy => Nat.le_trans HGw.out (ho.lt y hy).1))
        rw [longE_len] at HO ⊢
        clear hb ho hax HIs HRr
        go_wp2_with fail
        go_loopw [9, 10] (fun u z wr => ∃ (i : Nat) (M : List Nt), i ≤ k ∧ u = .int .i64 (i : Int) ∧ Hid (M.length = k) ∧ Hid (∀ j (h : j < M.length), j < i → M[j] = nodeE x j) ∧ Hid (k ≤ 10000 → M = longE k x) ∧ Hid (Below w1.heap.size w1 wr) ∧ Hid (ON wr w1.heap.size 53 (.slice (some ⟨g, 0, none⟩) k c4) M)) (fun u _ _ => k - (intOf u).toNat)
        case atStart => exact ⟨0, _, Nat.zero_le _, rfl, longE_len k x, fun j h h0 => absurd h0 (Nat.not_lt_zero _), fun _ => rfl, HB, HO⟩
        case round =>
          clear HO HB
          obtain ⟨i, M, hi, rfl, HM, HJ, HA, HB, HO⟩ := hrel
          by_cases hlt : i < k
          · have hi0 : (i : Int) < (k : Int) := by omega
            go_wp2_with fail
            refine (dot_law 1 ((i : Int) + 1) _).mono ?_
            rintro e w6 ⟨rfl, hb⟩
            have hq := HO.out.lt g rfl
            have HOa := Lib.hid (HO.out.below hb)
            have HB6 := bel_tr HB hb
            have hgl : g < w6.heap.size := (HOa.out.lt g rfl).2
            have HN := Lib.hid (bf_new w6 ((1, (i : Int) + 1), (0, 0), (i : Int) + 1, x))
            have hb2 := bel_box w6 (.cells (nc ((1, (i : Int) + 1), (0, 0), (i : Int) + 1, x)) 53)
            have HO7 := Lib.hid (HOa.out.below hb2)
            replace HB6 := bel_tr HB6 hb2
            have HGb : Hid (w1.heap.size ≤ w6.heap.size ∧ g < w6.heap.size) := ⟨(bel_tr HB hb).size, hgl⟩
            have HGg : Hid (w1.heap.size ≤ g) := hq.1
            clear hb hb2 HO HOa HB hgl hq
            by_cases hz : i = 0
            · have hlt1 : ¬ (0 : Int) < (i : Int) := by omega
              have hnode : nodeE x i = ((1, (i : Int) + 1), (0, 0), (i : Int) + 1, x) := by unfold nodeE; rw [if_pos hz]
              clear hz
              go_wp2_with fail
              generalize w6.alloc (.cells (nc ((1, (i : Int) + 1), (0, 0), (i : Int) + 1, x)) 53) = w7 at *
              generalize w6.heap.size = b at *
              have hiM : i < M.length := by rw [HM.out]; exact hlt
              have hMi : M[i] = ((1, (i : Int) + 1), (0, 0), (i : Int) + 1, x) := by
                have hA := HA.out hc
                have hg : ∀ (L : List Nt) (e : L = longE k x) (h : i < L.length), L[i] = nodeE x i := fun L e h => by subst e; exact longE_get k x i h
                exact (hg M hA hiM).trans hnode
              have hne := neq_same 1 ((i : Int) + 1) 0 0 ((i : Int) + 1) x
              obtain ⟨⟨m0, m1, m2, m3, m4, m5⟩, -⟩ := HN.out
              have f0 := HO7.out.free (i * 6)
              have f1 := HO7.out.free (i * 6 + 1)
              have f2 := HO7.out.free (i * 6 + 2)
              have f3 := HO7.out.free (i * 6 + 3)
              have f4 := HO7.out.free (i * 6 + 4)
              have f5 := HO7.out.free (i * 6 + 5)
              obtain ⟨p0, p1, p2, p3, p4, p5⟩ := HO7.out.na i hiM
              have hix := ixS g 0 k c4 i (i : Int) rfl hlt
              simp only [Nat.zero_add] at hix
              have HO9 := Lib.hid (fun q => ON.put (w := (w7).drewN q) HO7.out hiM ((1, (i : Int) + 1), (0, 0), (i : Int) + 1, x))
              have HB9 := Lib.hid (fun q => putAt_below (w := (w7).drewN q) (Below.trans HB6.out ⟨rfl, rfl, rfl, Nat.le_refl _, fun _ _ => rfl⟩) HGg.out (i * 6) ((1, (i : Int) + 1), (0, 0), (i : Int) + 1, x))
              have HM2 : Hid ((M.set i ((1, (i : Int) + 1), (0, 0), (i : Int) + 1, x)).length = k) := by show _ = _; rw [List.length_set]; exact HM.out
              have HJ2 : Hid (∀ j (h : j < (M.set i ((1, (i : Int) + 1), (0, 0), (i : Int) + 1, x)).length), j < i + 1 → (M.set i ((1, (i : Int) + 1), (0, 0), (i : Int) + 1, x))[j] = nodeE x j) := fun j h h0 => by
                rw [List.getElem_set]
                split
                · rename_i e
                  subst e
                  exact hnode.symm
                · exact HJ.out j (by rw [List.length_set] at h; exact h) (by omega)
              have HA2 : Hid (k ≤ 10000 → M.set i ((1, (i : Int) + 1), (0, 0), (i : Int) + 1, x) = longE k x) := fun _ => by
                rw [← hMi, List.set_getElem_self]
                exact HA.out hc
              rw [hMi] at p0 p1 p2 p3 p4 p5
              clear hMi
              generalize hM2 : M.set i ((1, (i : Int) + 1), (0, 0), (i : Int) + 1, x) = M2 at HO9 HM2 HJ2 HA2
              clear hM2 HJ HA HM HO7 HB6 hnode HN
              go_wp2_with fail
              go_quiet (fail)
              go_wp2_with fail
              refine ⟨⟨i + 1, M2, by omega, by go_num, HM2, HJ2, HA2, HB9.out _, HO9.out _⟩, ?_⟩
              simp [intOf]; omega
            · have hlt1 : (0 : Int) < (i : Int) := by omega
              have hnode : nodeE x i = ((1, (i : Int) + 1), (1, (i : Int)), (i : Int) + 1, x) := by unfold nodeE; rw [if_neg hz]
              clear hz
              go_wp2_with fail
              generalize w6.alloc (.cells (nc ((1, (i : Int) + 1), (0, 0), (i : Int) + 1, x)) 53) = w7 at *
              generalize w6.heap.size = b at *
              refine (dot_law 1 (i : Int) _).mono ?_
              rintro e w8 ⟨rfl, hb⟩
              replace HB6 := bel_tr HB6 hb
              replace HO7 := Lib.hid (HO7.out.below hb)
              replace HN := Lib.hid (HN.out.keep hb)
              clear hb
              have hgp := gb_par w8 b (.int .i64 1) (.int .i64 (i : Int))
              have HN2 := Lib.hid (par_bf HN.out (1, (i : Int)))
              replace HB6 := Lib.hid (Un.bel_low HB6.out hgp (fun y e => by cases e; exact HGb.out.1))
              replace HO7 := Lib.hid (HO7.out.keep hgp (.inr (by intro e; cases e; exact Nat.lt_irrefl _ HGb.out.2)))
              obtain ⟨⟨n0, n1, n2, n3, n4, n5⟩, hfn⟩ := HN.out
              have hf2 := hfn 2
              have hf3 := hfn 3
              clear hgp HN hfn
              have hiM : i < M.length := by rw [HM.out]; exact hlt
              have hMi : M[i] = ((1, (i : Int) + 1), (1, (i : Int)), (i : Int) + 1, x) := by
                have hA := HA.out hc
                have hg : ∀ (L : List Nt) (e : L = longE k x) (h : i < L.length), L[i] = nodeE x i := fun L e h => by subst e; exact longE_get k x i h
                exact (hg M hA hiM).trans hnode
              have hne := neq_same 1 ((i : Int) + 1) 1 (i : Int) ((i : Int) + 1) x
              obtain ⟨⟨m0, m1, m2, m3, m4, m5⟩, -⟩ := HN2.out
              have f0 := HO7.out.free (i * 6)
              have f1 := HO7.out.free (i * 6 + 1)
              have f2 := HO7.out.free (i * 6 + 2)
              have f3 := HO7.out.free (i * 6 + 3)
              have f4 := HO7.out.free (i * 6 + 4)
              have f5 := HO7.out.free (i * 6 + 5)
              obtain ⟨p0, p1, p2, p3, p4, p5⟩ := HO7.out.na i hiM
              have hix := ixS g 0 k c4 i (i : Int) rfl hlt
              simp only [Nat.zero_add] at hix
              have HO9 := Lib.hid (fun q => ON.put (w := ((w8.setCell ⟨b, 2, none⟩ (.int .i64 1)).setCell ⟨b, 3, none⟩ (.int .i64 (i : Int))).drewN q) HO7.out hiM ((1, (i : Int) + 1), (1, (i : Int)), (i : Int) + 1, x))
              have HB9 := Lib.hid (fun q => putAt_below (w := ((w8.setCell ⟨b, 2, none⟩ (.int .i64 1)).setCell ⟨b, 3, none⟩ (.int .i64 (i : Int))).drewN q) (Below.trans HB6.out ⟨rfl, rfl, rfl, Nat.le_refl _, fun _ _ => rfl⟩) HGg.out (i * 6) ((1, (i : Int) + 1), (1, (i : Int)), (i : Int) + 1, x))
              have HM2 : Hid ((M.set i ((1, (i : Int) + 1), (1, (i : Int)), (i : Int) + 1, x)).length = k) := by show _ = _; rw [List.length_set]; exact HM.out
              have HJ2 : Hid (∀ j (h : j < (M.set i ((1, (i : Int) + 1), (1, (i : Int)), (i : Int) + 1, x)).length), j < i + 1 → (M.set i ((1, (i : Int) + 1), (1, (i : Int)), (i : Int) + 1, x))[j] = nodeE x j) := fun j h h0 => by
                rw [List.getElem_set]
                split
                · rename_i e
                  subst e
                  exact hnode.symm
                · exact HJ.out j (by rw [List.length_set] at h; exact h) (by omega)
              have HA2 : Hid (k ≤ 10000 → M.set i ((1, (i : Int) + 1), (1, (i : Int)), (i : Int) + 1, x) = longE k x) := fun _ => by
                rw [← hMi, List.set_getElem_self]
                exact HA.out hc
              rw [hMi] at p0 p1 p2 p3 p4 p5
              clear hMi
              generalize hM2 : M.set i ((1, (i : Int) + 1), (1, (i : Int)), (i : Int) + 1, x) = M2 at HO9 HM2 HJ2 HA2
              clear hM2 HJ HA HM HO7 HB6 hnode HN2
              go_wp2_with fail
              go_quiet (fail)
              go_wp2_with fail
              refine ⟨⟨i + 1, M2, by omega, by go_num, HM2, HJ2, HA2, HB9.out _, HO9.out _⟩, ?_⟩
              simp [intOf]; omega
          · obtain rfl : k = i := by omega
            have hend : ¬ (k : Int) < (k : Int) := by omega
            obtain rfl : M = longE k x := longE_ext HM.out (fun j hj => HJ.out j hj (by have := HM.out; omega))
            have HRn : Hid (RowN wr (some ⟨g, 0, none⟩) (longE k x)) := (ON.r HO.out).1
            have HDl := Lib.hid (fun (w : World) (h : RowN w (some ⟨g, 0, none⟩) (longE k x)) => delete_any (longE k x) 0 (k : Int) (some ⟨g, 0, none⟩) c4 w (longE_fit k x (by omega)) h (by rw [longE_len]; omega) (by decide) (by decide) (by omega) (by omega))
            rw [longE_len, long_del k x hc HV.out] at HDl
            clear HM HJ HA HO hlt hi
            go_wp2_with fail
            refine (HDl.out _ HRn.out).mono ?_
            rintro e w6 ⟨v6, rfl, ho, hb⟩
            replace HB := bel_tr HB hb
            replace HRn := Lib.hid (HRn.out.keep hb)
            obtain ⟨a6, c6, rfl, hr6, -, -, -⟩ := ON.row ho
            clear hb ho HDl
            rw [List.length_map, longE_len]
            have HRk := Lib.hid hr6
            clear hr6
            go_wp2_with fail
            go_loopw [12] (fun u wr => ∃ i : Nat, i ≤ k ∧ u = .int .i64 (i : Int) ∧ Hid (Below w1.heap.size w1 wr) ∧ Hid (RowN wr (some ⟨g, 0, none⟩) (longE k x)) ∧ Hid (RowN wr a6 ((longE k x).map killN))) (fun u _ => k - (intOf u).toNat)
            case atStart => exact ⟨0, Nat.zero_le _, rfl, HB, HRn, HRk⟩
            case round =>
              clear HB HRn HRk
              obtain ⟨i, hi, rfl, HB, HRn, HRk⟩ := hrel
              by_cases hlt : i < k
              · have hi0 : (i : Int) < (k : Int) := by omega
                have hl1 : i < (longE k x).length := by rw [longE_len]; exact hlt
                have hl2 : i < ((longE k x).map killN).length := by rw [List.length_map]; exact hl1
                obtain ⟨b1, o1, e1, hn1⟩ := na_of HRn.out i hl1
                obtain ⟨b2, o2, rfl, hn2⟩ := na_of HRk.out i hl2
                cases e1
                rw [List.getElem_map] at hn2
                rw [longE_get] at hn1 hn2
                rw [Nat.zero_add] at hn1
                have p0 : wr.cell? ⟨g, i * 6, none⟩ = some (.int .i64 1) := hn1.1
                have p1 : wr.cell? ⟨g, i * 6 + 1, none⟩ = some (.int .i64 ((i : Int) + 1)) := hn1.2.1
                have q0 : wr.cell? ⟨b2, o2 + i * 6, none⟩ = some (.int .i64 1) := hn2.1
                have q1 : wr.cell? ⟨b2, o2 + i * 6 + 1, none⟩ = some (.int .i64 ((i : Int) + 1)) := hn2.2.1
                have q5 : wr.cell? ⟨b2, o2 + i * 6 + 5, none⟩ = some (.int .i32 0) := hn2.2.2.2.2.2
                clear hn1 hn2
                have hix := ixS g 0 k c4 i (i : Int) rfl hlt
                simp only [Nat.zero_add] at hix
                have hix2 := ixS b2 o2 k c6 i (i : Int) rfl hlt
                have hne := neqD_no (p := (1, (i : Int) + 1)) rfl
                go_wp2_with fail
                go_quiet (fail)
                go_wp2_with fail
                refine ⟨⟨i + 1, by omega, by go_num, Lib.hid (bel_drewN HB.out _), Lib.hid (HRn.out.keep (bel_drewN (Below.refl _ _) _)), Lib.hid (HRk.out.keep (bel_drewN (Below.refl _ _) _))⟩, ?_⟩
                simp [intOf]; omega
              · obtain rfl : k = i := by omega
                have hend : ¬ (k : Int) < (k : Int) := by omega
                go_wp2_with fail
                refine (known_any _).mono ?_
                rintro e w99 ⟨rfl, hb⟩
                replace HB := bel_tr HB hb
                clear hb
                go_wp2_with fail
                go_ret
                exact ⟨rfl, HB.out⟩
      · have hc2 : (10000 : Int) < (k : Int) := by omega
        have hc3 : ¬ (k : Int) ≤ 10000 := by omega
        rw [long_ins5 k x (by omega)] at HIs
        go_wp2_with fail
        refine (HIs.out _ HRr.out).mono ?_
        rintro e w4 ⟨v4, rfl, ho, hb⟩
        replace HB := bel_tr HB hb
        obtain ⟨a4, c4, rfl, -, -, -, -⟩ := ON.row ho
        obtain ⟨w5, hmk, ho2, hb2⟩ := mk_nodes w4 k (by omega)
        have HO := Lib.hid (ho2.mono (base' := w1.heap.size) (fun y hy => by have := (ho2.lt y hy).1; have := HB.out.size; omega))
        replace HB := bel_tr HB hb2
        generalize w4.heap.size = g at *
        clear hb ho HIs HRr hb2 ho2
        go_wp2_with fail
        go_loopw [9, 10] (fun u z wr => ∃ (i : Nat) (M : List Nt), i ≤ k ∧ u = .int .i64 (i : Int) ∧ Hid (M.length = k) ∧ Hid (∀ j (h : j < M.length), j < i → M[j] = nodeE x j) ∧ Hid (k ≤ 10000 → M = longE k x) ∧ Hid (Below w1.heap.size w1 wr) ∧ Hid (ON wr w1.heap.size 53 (.slice (some ⟨g, 0, none⟩) k k) M)) (fun u _ _ => k - (intOf u).toNat)
        case atStart => exact ⟨0, _, Nat.zero_le _, rfl, by show _ = _; rw [List.length_replicate], fun j h h0 => absurd h0 (Nat.not_lt_zero _), fun h => absurd h (by omega), HB, HO⟩
        case round =>
          clear HO HB
          obtain ⟨i, M, hi, rfl, HM, HJ, HA, HB, HO⟩ := hrel
          by_cases hlt : i < k
          · have hi0 : (i : Int) < (k : Int) := by omega
            go_wp2_with fail
            refine (dot_law 1 ((i : Int) + 1) _).mono ?_
            rintro e w6 ⟨rfl, hb⟩
            have hq := HO.out.lt g rfl
            have HOa := Lib.hid (HO.out.below hb)
            have HB6 := bel_tr HB hb
            have hgl : g < w6.heap.size := (HOa.out.lt g rfl).2
            have HN := Lib.hid (bf_new w6 ((1, (i : Int) + 1), (0, 0), (i : Int) + 1, x))
            have hb2 := bel_box w6 (.cells (nc ((1, (i : Int) + 1), (0, 0), (i : Int) + 1, x)) 53)
            have HO7 := Lib.hid (HOa.out.below hb2)
            replace HB6 := bel_tr HB6 hb2
            have HGb : Hid (w1.heap.size ≤ w6.heap.size ∧ g < w6.heap.size) := ⟨(bel_tr HB hb).size, hgl⟩
            have HGg : Hid (w1.heap.size ≤ g) := hq.1
            clear hb hb2 HO HOa HB hgl hq
            by_cases hz : i = 0
            · have hlt1 : ¬ (0 : Int) < (i : Int) := by omega
              have hnode : nodeE x i = ((1, (i : Int) + 1), (0, 0), (i : Int) + 1, x) := by unfold nodeE; rw [if_pos hz]
              clear hz
              go_wp2_with fail
              generalize w6.alloc (.cells (nc ((1, (i : Int) + 1), (0, 0), (i : Int) + 1, x)) 53) = w7 at *
              generalize w6.heap.size = b at *
              have hiM : i < M.length := by rw [HM.out]; exact hlt
              obtain ⟨⟨m0, m1, m2, m3, m4, m5⟩, -⟩ := HN.out
              have f0 := HO7.out.free (i * 6)
              have f1 := HO7.out.free (i * 6 + 1)
              have f2 := HO7.out.free (i * 6 + 2)
              have f3 := HO7.out.free (i * 6 + 3)
              have f4 := HO7.out.free (i * 6 + 4)
              have f5 := HO7.out.free (i * 6 + 5)
              obtain ⟨p0, p1, p2, p3, p4, p5⟩ := HO7.out.na i hiM
              have hix := ixS g 0 k k i (i : Int) rfl hlt
              simp only [Nat.zero_add] at hix
              have HO9 := Lib.hid (fun q => ON.put (w := (w7).drewN q) HO7.out hiM ((1, (i : Int) + 1), (0, 0), (i : Int) + 1, x))
              have HB9 := Lib.hid (fun q => putAt_below (w := (w7).drewN q) (Below.trans HB6.out ⟨rfl, rfl, rfl, Nat.le_refl _, fun _ _ => rfl⟩) HGg.out (i * 6) ((1, (i : Int) + 1), (0, 0), (i : Int) + 1, x))
              have HM2 : Hid ((M.set i ((1, (i : Int) + 1), (0, 0), (i : Int) + 1, x)).length = k) := by show _ = _; rw [List.length_set]; exact HM.out
              have HJ2 : Hid (∀ j (h : j < (M.set i ((1, (i : Int) + 1), (0, 0), (i : Int) + 1, x)).length), j < i + 1 → (M.set i ((1, (i : Int) + 1), (0, 0), (i : Int) + 1, x))[j] = nodeE x j) := fun j h h0 => by
                rw [List.getElem_set]
                split
                · rename_i e
                  subst e
                  exact hnode.symm
                · exact HJ.out j (by rw [List.length_set] at h; exact h) (by omega)
              have HA2 : Hid (k ≤ 10000 → M.set i ((1, (i : Int) + 1), (0, 0), (i : Int) + 1, x) = longE k x) := fun h => absurd h hc
              generalize hM2 : M.set i ((1, (i : Int) + 1), (0, 0), (i : Int) + 1, x) = M2 at HO9 HM2 HJ2 HA2
              clear hM2 HJ HA HM HO7 HB6 hnode HN
              go_wp2_with fail
              have hc4 : decide ((k : Int) ≤ 10000) = false := decide_eq_false (by omega)
              go_quiet (fail)
              go_wp2_with fail
              refine ⟨⟨i + 1, M2, by omega, by go_num, HM2, HJ2, HA2, HB9.out _, HO9.out _⟩, ?_⟩
              simp [intOf]; omega
            · have hlt1 : (0 : Int) < (i : Int) := by omega
              have hnode : nodeE x i = ((1, (i : Int) + 1), (1, (i : Int)), (i : Int) + 1, x) := by unfold nodeE; rw [if_neg hz]
              clear hz
              go_wp2_with fail
              generalize w6.alloc (.cells (nc ((1, (i : Int) + 1), (0, 0), (i : Int) + 1, x)) 53) = w7 at *
              generalize w6.heap.size = b at *
              refine (dot_law 1 (i : Int) _).mono ?_
              rintro e w8 ⟨rfl, hb⟩
              replace HB6 := bel_tr HB6 hb
              replace HO7 := Lib.hid (HO7.out.below hb)
              replace HN := Lib.hid (HN.out.keep hb)
              clear hb
              have hgp := gb_par w8 b (.int .i64 1) (.int .i64 (i : Int))
              have HN2 := Lib.hid (par_bf HN.out (1, (i : Int)))
              replace HB6 := Lib.hid (Un.bel_low HB6.out hgp (fun y e => by cases e; exact HGb.out.1))
              replace HO7 := Lib.hid (HO7.out.keep hgp (.inr (by intro e; cases e; exact Nat.lt_irrefl _ HGb.out.2)))
              obtain ⟨⟨n0, n1, n2, n3, n4, n5⟩, hfn⟩ := HN.out
              have hf2 := hfn 2
              have hf3 := hfn 3
              clear hgp HN hfn
              have hiM : i < M.length := by rw [HM.out]; exact hlt
              obtain ⟨⟨m0, m1, m2, m3, m4, m5⟩, -⟩ := HN2.out
              have f0 := HO7.out.free (i * 6)
              have f1 := HO7.out.free (i * 6 + 1)
              have f2 := HO7.out.free (i * 6 + 2)
              have f3 := HO7.out.free (i * 6 + 3)
              have f4 := HO7.out.free (i * 6 + 4)
              have f5 := HO7.out.free (i * 6 + 5)
              obtain ⟨p0, p1, p2, p3, p4, p5⟩ := HO7.out.na i hiM
              have hix := ixS g 0 k k i (i : Int) rfl hlt
              simp only [Nat.zero_add] at hix
              have HO9 := Lib.hid (fun q => ON.put (w := ((w8.setCell ⟨b, 2, none⟩ (.int .i64 1)).setCell ⟨b, 3, none⟩ (.int .i64 (i : Int))).drewN q) HO7.out hiM ((1, (i : Int) + 1), (1, (i : Int)), (i : Int) + 1, x))
              have HB9 := Lib.hid (fun q => putAt_below (w := ((w8.setCell ⟨b, 2, none⟩ (.int .i64 1)).setCell ⟨b, 3, none⟩ (.int .i64 (i : Int))).drewN q) (Below.trans HB6.out ⟨rfl, rfl, rfl, Nat.le_refl _, fun _ _ => rfl⟩) HGg.out (i * 6) ((1, (i : Int) + 1), (1, (i : Int)), (i : Int) + 1, x))
              have HM2 : Hid ((M.set i ((1, (i : Int) + 1), (1, (i : Int)), (i : Int) + 1, x)).length = k) := by show _ = _; rw [List.length_set]; exact HM.out
              have HJ2 : Hid (∀ j (h : j < (M.set i ((1, (i : Int) + 1), (1, (i : Int)), (i : Int) + 1, x)).length), j < i + 1 → (M.set i ((1, (i : Int) + 1), (1, (i : Int)), (i : Int) + 1, x))[j] = nodeE x j) := fun j h h0 => by
                rw [List.getElem_set]
                split
                · rename_i e
                  subst e
                  exact hnode.symm
                · exact HJ.out j (by rw [List.length_set] at h; exact h) (by omega)
              have HA2 : Hid (k ≤ 10000 → M.set i ((1, (i : Int) + 1), (1, (i : Int)), (i : Int) + 1, x) = longE k x) := fun h => absurd h hc
              generalize hM2 : M.set i ((1, (i : Int) + 1), (1, (i : Int)), (i : Int) + 1, x) = M2 at HO9 HM2 HJ2 HA2
              clear hM2 HJ HA HM HO7 HB6 hnode HN2
              go_wp2_with fail
              have hc4 : decide ((k : Int) ≤ 10000) = false := decide_eq_false (by omega)
              go_quiet (fail)
              go_wp2_with fail
              refine ⟨⟨i + 1, M2, by omega, by go_num, HM2, HJ2, HA2, HB9.out _, HO9.out _⟩, ?_⟩
              simp [intOf]; omega
          · obtain rfl : k = i := by omega
            have hend : ¬ (k : Int) < (k : Int) := by omega
            obtain rfl : M = longE k x := longE_ext HM.out (fun j hj => HJ.out j hj (by have := HM.out; omega))
            have HRn : Hid (RowN wr (some ⟨g, 0, none⟩) (longE k x)) := (ON.r HO.out).1
            have HDl := Lib.hid (fun (w : World) (h : RowN w (some ⟨g, 0, none⟩) (longE k x)) => delete_any (longE k x) 0 (k : Int) (some ⟨g, 0, none⟩) k w (longE_fit k x (by omega)) h (by rw [longE_len]; omega) (by decide) (by decide) (by omega) (by omega))
            rw [longE_len, long_del5 k x (by omega) (by omega) HV.out] at HDl
            clear HM HJ HA HO hlt hi
            go_wp2_with fail
            refine (HDl.out _ HRn.out).mono ?_
            rintro e w6 ⟨v6, rfl, ho, hb⟩
            replace HB := bel_tr HB hb
            replace HRn := Lib.hid (HRn.out.keep hb)
            obtain ⟨a6, c6, rfl, hr6, -, -, -⟩ := ON.row ho
            clear hb ho HDl
            go_wp2_with fail
            refine (known_any _).mono ?_
            rintro e w99 ⟨rfl, hb⟩
            replace HB := bel_tr HB hb
            clear hb
            go_wp2_with fail
            go_ret
            exact ⟨rfl, HB.out⟩
end Go.Proofs.YtkcbekebleodaaaGreat.Ed
end

/-
  Layer 15: an edit that comes in; whether it is one that may be.
-/
section
namespace Go.Proofs.YtkcbekebleodaaaGreat.Ed
set_option linter.unusedVariables false
open Go.RowKit V Go.Shelf Go.Sort D Nd Qs Wk Ix Jn Fo
attribute [local irreducible] Sch.heldN Sch.stepV Sch.stepE

/-- Whether an edit's runes may be in a text, and are few. -/
def rightR (rs : List Int) : Bool := (rs.take 6).all R.vld && decide (rs.length ≤ 5)
theorem right_yes {rs : List Int} (h : rightR rs = true) : rs.length ≤ 5 ∧ ∀ r ∈ rs, R.vld r = true := by
  unfold rightR at h
  rw [Bool.and_eq_true, decide_eq_true_eq] at h
  rw [List.take_of_length_le (by omega)] at h
  exact ⟨h.2, List.all_eq_true.1 h.1⟩
theorem right_no {rs : List Int} {k : Nat} (hk : k < rs.length) (h6 : k < 6) (h : R.vld rs[k] = false) : rightR rs = false := by
  unfold rightR
  rw [Bool.and_eq_false_iff]
  refine .inl ?_
  rw [← Bool.not_eq_true, List.all_eq_true]
  intro ha
  have := ha rs[k] (List.mem_take_iff_getElem.2 ⟨k, by omega, rfl⟩)
  rw [h] at this
  cases this
theorem right_end {rs : List Int} {k : Nat} (hk : k ≤ rs.length) (hend : ¬ (k < rs.length ∧ k < 6)) (h : ∀ j (hj : j < rs.length), j < k → R.vld rs[j] = true) : rightR rs = decide (rs.length ≤ 5) := by
  unfold rightR
  have : (rs.take 6).all R.vld = true := by
    rw [List.all_eq_true]
    intro r hr
    obtain ⟨j, hj, rfl⟩ := List.mem_take_iff_getElem.1 hr
    exact h j (by omega) (by omega)
  rw [this, Bool.true_and]
/-- The box of an edit. -/
def Ax (w : World) (g : Nat) (p n : Int) (a : Option Addr) (k c : Nat) : Prop := w.cell? ⟨g, 0, none⟩ = some (.int .u8 p) ∧ w.cell? ⟨g, 1, none⟩ = some (.int .u8 n) ∧ w.cell? ⟨g, 2, none⟩ = some (.slice a k c)
theorem Ax.keep {w w' : World} {g : Nat} {p n : Int} {a : Option Addr} {k c : Nat} (h : Ax w g p n a k c) (hb : Below w.heap.size w w') : Ax w' g p n a k c := ⟨Un.keep_cell h.1 hb, Un.keep_cell h.2.1 hb, Un.keep_cell h.2.2 hb⟩
theorem ixRo (b o n c k : Nat) (z : Int) (hz : z = (k : Int)) (hk : k < n) : ∀ w, (Instr.indexAt 26 (.slice (some ⟨b, o, none⟩) n c) (.int .i64 z)).run Tryz.prog w = .ok (.pointer (some ⟨b, o + k, none⟩)) w := fun w => by
  subst hz
  go_simp
set_option maxRecDepth 100000 in
set_option maxHeartbeats 2000000 in
theorem right_law (p n : Int) (rs : List Int) (a : Option Addr) (c : Nat) (w : World) (hr : G.RowI .i32 w a rs) (hl : rs.length ≤ 9223372036854775807) :
    Calls Tryz.prog 33 #[.agg #[.int .u8 p, .int .u8 n, .slice a rs.length c]] w fun e w' => e = .returned (.bool (rightR rs)) ∧ Below w.heap.size w w' := by
  have hb := bel_box w (.cells #[.int .u8 p, .int .u8 n, .slice a rs.length c] 59)
  have HB := Lib.hid hb
  have HR := Lib.hid (hr.keep hb (Nat.le_refl _))
  have HA : Hid ((w.alloc (.cells #[.int .u8 p, .int .u8 n, .slice a rs.length c] 59)).cell? ⟨w.heap.size, 2, none⟩ = some (.slice a rs.length c)) := by show _ = _; go_simp
  have hl2 : (rs.length : Int) ≤ 9223372036854775807 := by omega
  clear hb hr hl
  go_enter Tryz.func33, Tryz.ntmps33
  go_wp2_with fail
  generalize w.alloc (.cells #[.int .u8 p, .int .u8 n, .slice a rs.length c] 59) = w1 at *
  go_loopw [3] (fun u wr => ∃ k : Nat, k ≤ rs.length ∧ u = .int .i64 (k : Int) ∧ Hid (∀ j (hj : j < rs.length), j < k → R.vld rs[j] = true) ∧ wr = w1) (fun u _ => rs.length - (intOf u).toNat)
  case atStart => exact ⟨0, Nat.zero_le _, rfl, fun j hj h => absurd h (Nat.not_lt_zero _), rfl⟩
  case round =>
    obtain ⟨k, hk, rfl, HJ, rfl⟩ := hrel
    have hcl := HA.out
    by_cases hlt : k < rs.length
    · have hi0 : (k : Int) < (rs.length : Int) := by omega
      by_cases h6 : k < 6
      · have hi6 : (k : Int) < 6 := by omega
        obtain ⟨b, o, rfl, hc⟩ : ∃ b o, a = some ⟨b, o, none⟩ ∧ wr.cell? ⟨b, o + k, none⟩ = some (.int .i32 rs[k]) := by
          rcases HR.out with h | ⟨b, o, e, h⟩
          · rw [h] at hlt; exact absurd hlt (Nat.not_lt_zero _)
          · exact ⟨b, o, e, h k hlt⟩
        have hix := ixRo b o rs.length c k (k : Int) rfl hlt
        obtain ⟨r, hr⟩ : ∃ r, r = rs[k] := ⟨_, rfl⟩
        rw [← hr] at hc
        have HIr := Lib.hid (fun w => isRune_ref r w)
        rcases hv : R.vld r with _ | _
        · rw [hv] at HIr
          have HNo := Lib.hid (right_no hlt h6 (by rw [← hr]; exact hv))
          clear hr hv HJ
          go_wp2_with fail
          refine (HIr.out _).mono ?_
          rintro e w3 ⟨rfl, rfl⟩
          go_wp2_with fail
          go_ret
          exact ⟨by rw [HNo.out]; rfl, HB.out⟩
        · rw [hv] at HIr
          have HJ2 : Hid (∀ j (hj : j < rs.length), j < k + 1 → R.vld rs[j] = true) := fun j hj h => by
            by_cases e : j = k
            · subst e; rw [← hr]; exact hv
            · exact HJ.out j hj (by omega)
          clear hv hr HJ
          go_wp2_with fail
          refine (HIr.out _).mono ?_
          rintro e w3 ⟨rfl, rfl⟩
          go_wp2_with fail
          refine ⟨⟨k + 1, by omega, by go_num, HJ2, by first | rfl | trivial⟩, ?_⟩
          simp [intOf]; omega
      · have hi6 : ¬ (k : Int) < 6 := by omega
        have HEnd := Lib.hid (right_end hk (by omega) HJ.out)
        clear HJ
        go_wp2_with fail
        go_ret
        exact ⟨by rw [HEnd.out, show decide (rs.length ≤ 5) = decide ((rs.length : Int) ≤ 5) from decide_eq_decide.2 (by omega)]; rfl, HB.out⟩
    · have hi0 : ¬ (k : Int) < (rs.length : Int) := by omega
      have HEnd := Lib.hid (right_end hk (by omega) HJ.out)
      clear HJ
      go_wp2_with fail
      go_ret
      exact ⟨by rw [HEnd.out, show decide (rs.length ≤ 5) = decide ((rs.length : Int) ≤ 5) from decide_eq_decide.2 (by omega)]; rfl, HB.out⟩
end Go.Proofs.YtkcbekebleodaaaGreat.Ed
end

/-
  Layer 15: edits.
-/
section
namespace Go.Proofs.YtkcbekebleodaaaGreat.Ed
set_option linter.unusedVariables false
open Go.RowKit V Go.Shelf Go.Sort D Nd Qs Wk Ix Jn Fo
attribute [local irreducible] Sch.heldN Sch.stepV Sch.stepE

theorem lit64r {z : Int} (h1 : 0 ≤ z) (h2 : z ≤ 4294967295) : (Lit.int .i64 z).wf = true := by
  simp only [Lit.wf, IntKind.min, IntKind.max, IntKind.signed, IntKind.bits]
  simp
  omega
theorem valid_fitD {d : Dt} (h : validR d = true ∨ rootR d = true) : fitD d := by
  rcases h with h | h
  · have := valid_iff.1 h
    exact ⟨lit64r (by omega) (by omega), lit64r (by omega) (by omega)⟩
  · have := root_iff.1 h
    rw [this]
    exact ⟨lit64r (by decide) (by decide), lit64r (by decide) (by decide)⟩
theorem valid_fit {l : List Nt} (hv : validS l = true) : ∀ x ∈ l, fitN x := fun x hx => by
  obtain ⟨h1, h2, -⟩ := valid_vn.1 ((validS_iff.1 hv).1 x hx)
  exact ⟨valid_fitD (.inl h1), valid_fitD h2⟩
theorem results_tmp4 {fn : Func} {t u v x : Tmp} (h : fn.results = #[.tmp t, .tmp u, .tmp v, .tmp x]) (tmps : Array Value) (P : Program) (w : World) :
    (results fn tmps).run P w = .ok (.tuple #[tmps.getD t undef, tmps.getD u undef, tmps.getD v undef, tmps.getD x undef]) w := by
  simp [results, h]
/-- The same box, as a class of worlds. -/
def Ex (g : Nat) (p n : Int) (a : Option Addr) (k c : Nat) (w : World) : Prop := Ax w g p n a k c
section
variable {g : Nat} {p n : Int} {a : Option Addr} {k c : Nat}
theorem Ex.keep {w w' : World} (h : Ex g p n a k c w) (hb : Below w.heap.size w w') : Ex g p n a k c w' := Ax.keep h hb
theorem Ex.l : ∀ w, Ex g p n a k c w → (Instr.loadAt 26 (.pointer (some ⟨g, 2, none⟩))).run Tryz.prog w = .ok (.slice a k c) w := fun w h => by
  have h2 := h.2.2
  go_simp
end
theorem del_none {l : List Nt} {d : Dt} {i n : Nat} (h : Ok l d i n []) (hn : n ≤ 10000) : delP l i n = (deltaS l d i n [], 0) := ok_rep (d := (1, 1)) ⟨h.w, by decide, h.i, (fun r hr => by cases hr), by decide, by have := h.t; simpa using this, (fun k hk => by cases hk)⟩ hn (by decide)
set_option maxRecDepth 100000 in
set_option maxHeartbeats 8000000 in
theorem edits_law (l : List Nt) (r t : Int) (P Q : Nat) (rs : List Int) (a b : Option Addr) (c e at' n : Nat) (w : World) (hx : Sl w a l.length c l) (hr : Ri w b e rs) (hlx : l.length ≤ 1000) (hrl : rs.length ≤ 5) (hP : P ≤ 255) (hQ : Q ≤ 255)
    (ha : at' = P % ((visS l).length + 1)) (hn : n = Q % ((visS l).length - at' + 1)) (ok : Ok l (r, t) at' n rs) :
    Calls Tryz.prog 34 #[.slice a l.length c, .int .i64 r, .int .i64 t, .agg #[.int .u8 (P : Int), .int .u8 (Q : Int), .slice b rs.length e]] w fun e w' => ∃ v u, e = .returned (.tuple #[v, u, .int .i64 (t + (rs.length : Int)), .bool true]) ∧ ON w' w.heap.size EN v (editS l (r, t) at' n rs) ∧ Below w.heap.size w w' := by
  have hv := ok.v
  have HFt := Lib.hid (valid_fit hv)
  have HRo := Lib.hid (fun w h => runes_ref l hv a c w h (by omega))
  have hvl : (runesS l).length = (visS l).length := by unfold runesS; rw [List.length_map]
  have hvl2 : (visS l).length ≤ 1000 := Nat.le_trans (vis_len hv) hlx
  have hb := bel_box w (.cells #[.int .u8 (P : Int), .int .u8 (Q : Int), .slice b rs.length e] 59)
  have HB := Lib.hid hb
  have HX := Lib.hid (hx.keep hb)
  have HR := Lib.hid (hr.keep hb)
  have HE : Hid (Ex w.heap.size (P : Int) (Q : Int) b rs.length e (w.alloc (.cells #[.int .u8 (P : Int), .int .u8 (Q : Int), .slice b rs.length e] 59))) := by
    refine ⟨?_, ?_, ?_⟩ <;> go_simp
  have hrl2 : (rs.length : Int) ≤ 5 := by omega
  generalize hV : (visS l).length = V at *
  have hV2 : (V : Int) ≤ 1000 := by omega
  have hPV : ((P : Int)).tmod ((V : Int) + 1) = (at' : Int) := by rw [ha]; rw [show ((V : Int) + 1) = ((V + 1 : Nat) : Int) by omega, Int.ofNat_tmod]
  have hat : at' ≤ V := by rw [ha]; have := Nat.mod_lt P (show 0 < V + 1 by omega); omega
  have hQV : ((Q : Int)).tmod ((V : Int) - (at' : Int) + 1) = (n : Int) := by rw [hn]; rw [show ((V : Int) - (at' : Int) + 1) = ((V - at' + 1 : Nat) : Int) by omega, Int.ofNat_tmod]
  have hnl : at' + n ≤ V := by rw [hn]; have := Nat.mod_lt Q (show 0 < V - at' + 1 by omega); omega
  have hP2 : (P : Int) ≤ 255 := by omega
  have hQ2 : (Q : Int) ≤ 255 := by omega
  have HLd : Hid ((deltaS l (r, t) at' n rs).length ≤ 2000) := by have := delta_len ok; show _ ≤ _; omega
  have HLn : Hid ((editS l (r, t) at' n rs).length ≤ 4000) := by
    have := joinL_len l (deltaS l (r, t) at' n rs)
    rw [ok.join.2] at this
    have := HLd.out
    show _ ≤ _
    omega
  have HAp := Lib.hid (fun (w : World) (aD : Option Addr) (cD : Nat) (h1 : Sl w a l.length c l) (h2 : Sl w aD (deltaS l (r, t) at' n rs).length cD (deltaS l (r, t) at' n rs)) => apply_any l (deltaS l (r, t) at' n rs) a aD c cD w h1.r h1.z h1.c h2.r h2.z h2.c (by omega) (by have := HLd.out; omega))
  rw [ok.app] at HAp
  have HCu := Lib.hid (fun (w : World) (aO : Option Addr) (cO : Nat) (h1 : Ri w aO cO (runesS l)) (h2 : Ri w b e rs) => cut_ref (runesS l) rs at' n aO b cO e w h1.r h1.z h1.c h2.r h2.z (by omega) (by omega) (by omega))
  rw [hvl] at HCu
  have HLw : Hid (((runesS l).take at' ++ rs ++ (runesS l).drop (at' + n)).length ≤ 10000) := by show _ ≤ _; rw [List.length_append, List.length_append, List.length_take, List.length_drop]; omega
  have HSr := Lib.hid (fun (w : World) (x z : Option Addr) (cx cz : Nat) (h1 : G.RowI .i32 w x ((runesS l).take at' ++ rs ++ (runesS l).drop (at' + n))) (h2 : G.RowI .i32 w z ((runesS l).take at' ++ rs ++ (runesS l).drop (at' + n))) => sameR_ref _ _ x z cx cz w h1 h2 (by have := HLw.out; omega) (by have := HLw.out; omega))
  rw [decide_eq_true rfl] at HSr
  have HRn := Lib.hid (fun (w : World) (x : Option Addr) (cx : Nat) (h : RowN w x (editS l (r, t) at' n rs)) => runes_ref (editS l (r, t) at' n rs) (well_valid ok.well) x cx w h (by have := HLn.out; omega))
  rw [ok.runes] at HRn
  have HWn := Lib.hid (fun (w : World) (x : Option Addr) (cx : Nat) (h : RowN w x (editS l (r, t) at' n rs)) => well_ref (editS l (r, t) at' n rs) x cx w h (by have := HLn.out; omega))
  rw [ok.well] at HWn
  generalize (runesS l).take at' ++ rs ++ (runesS l).drop (at' + n) = W at *
  have ht1 : -9223372036854775808 ≤ t := by have h : validR (r, t) = true := ok.dv; have := valid_iff.1 h; omega
  have ht2 : t ≤ 9223372036854775807 := by have h : validR (r, t) = true := ok.dv; have := valid_iff.1 h; omega
  have ht3 : t ≤ 4294967295 := by have h : validR (r, t) = true := ok.dv; have := valid_iff.1 h; omega
  have ht0 : 0 < t := by have h : validR (r, t) = true := ok.dv; have := valid_iff.1 h; omega
  have hai : (at' : Int) ≤ 1000 := by omega
  have hni : (n : Int) ≤ 1000 := by omega
  clear hb ha hn
  by_cases hn0 : n = 0
  · subst hn0
    have hdl : insP l (r, t) (at' : Int) rs = (deltaS l (r, t) at' 0 rs, 0) := ok_rep ok (by decide) (by omega)
    have HIs := Lib.hid (fun (w : World) (h1 : RowN w a l) (h2 : G.RowI .i32 w b rs) => insert_any l (r, t) (at' : Int) rs a b c e w HFt.out h1 h2 (by omega) (by omega) ht1 ht2)
    rw [hdl] at HIs
    generalize editS l (r, t) at' 0 rs = N at *
    have HD0 : Hid (rs.length = 0 → (deltaS l (r, t) at' 0 rs).length = 0) := fun h => by rw [List.eq_nil_of_length_eq_zero h, delta_nil]; rfl
    generalize deltaS l (r, t) at' 0 rs = D at *
    clear hx hr hlx hrl hP hQ ok hv hdl hvl2 hnl hni HFt
    have hz : ((0 : Nat) : Int) = 0 := rfl
    rw [hz] at hQV HCu
    go_enter Tryz.func34, Tryz.ntmps34
    go_wp2_with fail
    generalize w.alloc (.cells #[.int .u8 (P : Int), .int .u8 (Q : Int), .slice b rs.length e] 59) = w1 at *
    refine (HRo.out _ HX.out.r).mono ?_
    rintro e2 w2 ⟨v2, rfl, ho, hb⟩
    obtain ⟨a2, c2, rfl, hri⟩ := oi_ri ho
    have HO := Lib.hid hri
    replace HB := bel_tr HB hb
    replace HX := Lib.hid (HX.out.keep hb)
    replace HR := Lib.hid (HR.out.keep hb)
    replace HE := Lib.hid (HE.out.keep hb)
    rw [hvl]
    clear hb ho hri HRo
    obtain ⟨he0, he1, he2⟩ := HE.out
    have HGw : Hid (w.heap.size ≤ w2.heap.size) := HB.out.size
    go_wp2_with fail
    have hb := (Below.refl w2.heap.size w2).drew
    replace HB := Lib.hid (HB.out.trans (hb.mono HGw.out))
    replace HGw := Lib.hid (Nat.le_trans HGw.out hb.size)
    replace HX := Lib.hid (HX.out.keep hb)
    replace HR := Lib.hid (HR.out.keep hb)
    replace HO := Lib.hid (HO.out.keep hb)
    replace HE := Lib.hid (HE.out.keep hb)
    clear hb he0 he1 he2
    refine Sch.wp_region_tn (Ex w.heap.size (P : Int) (Q : Int) b rs.length e) (.val 0 (.val 1 (.val 2 (.val 4 (.val 5 (.val 6 (.one 3 (.one 7 (.val 8 (.val 9 (.val 10 (.val 11 (.val 12 .done))))))))))))) (by kernel_rfl) (by kernel_rfl) HE.out ?_
    repeat (first
      | (refine Sch.tn_q rfl rfl rfl (fun K hK => ?_); go_big_quiet_op; (first | refine hK _ ?_ | refine ⟨_, fun _ _ => rfl, hK _ ?_⟩); clear hK K)
      | (refine Sch.tn_chk _ _ _ rfl rfl rfl rfl rfl ?_; simp only [Act.put, List.setIfInBounds_toArray, List.set_cons_zero, List.set_cons_succ])
      | (refine Sch.tn_load _ _ _ _ _ rfl rfl rfl rfl (by first | exact Ex.l) rfl ?_; simp only [Act.put, List.setIfInBounds_toArray, List.set_cons_zero, List.set_cons_succ]))
    generalize w2.drew = w3 at *
    refine Sch.tn_e rfl rfl (fun K hK => ?_)
    go_wp2_with fail
    refine (dot_law r t _).mono ?_
    rintro e3 w4 ⟨rfl, hb⟩
    replace HB := Lib.hid (HB.out.trans (hb.mono HGw.out))
    replace HGw := Lib.hid (Nat.le_trans HGw.out hb.size)
    replace HX := Lib.hid (HX.out.keep hb)
    replace HR := Lib.hid (HR.out.keep hb)
    replace HO := Lib.hid (HO.out.keep hb)
    replace HE := Lib.hid (HE.out.keep hb)
    refine hK _ _ HE.out ?_
    clear hK K
    clear hb
    refine Sch.tn_e rfl rfl (fun K hK => ?_)
    go_wp2_with fail
    refine (HIs.out _ HX.out.r HR.out.r).mono ?_
    rintro e4 w5 ⟨v4, rfl, ho, hb⟩
    obtain ⟨aD, cD, rfl, hsl⟩ := on_sl ho
    have HD := Lib.hid hsl
    replace HB := Lib.hid (HB.out.trans (hb.mono HGw.out))
    replace HGw := Lib.hid (Nat.le_trans HGw.out hb.size)
    replace HX := Lib.hid (HX.out.keep hb)
    replace HR := Lib.hid (HR.out.keep hb)
    replace HO := Lib.hid (HO.out.keep hb)
    replace HE := Lib.hid (HE.out.keep hb)
    refine hK _ _ HE.out ?_
    clear hK K
    clear hb ho hsl HIs
    repeat (first
      | (refine Sch.tn_q rfl rfl rfl (fun K hK => ?_); go_big_quiet_op; (first | refine hK _ ?_ | refine ⟨_, fun _ _ => rfl, hK _ ?_⟩); clear hK K)
      | (refine Sch.tn_chk _ _ _ rfl rfl rfl rfl rfl ?_; simp only [Act.put, List.setIfInBounds_toArray, List.set_cons_zero, List.set_cons_succ]))
    refine Sch.tn_n ?_
    obtain ⟨he0, he1, he2⟩ := HE.out
    by_cases hrs : rs.length = 0
    · have HRt : Hid (t + (rs.length : Int) = t) := by show _ = _; omega
      have hr0 : (rs.length : Int) = 0 := by omega
      have hd0 : (D.length : Int) = 0 := by have := HD0.out hrs; omega
      clear hrs
      go_wp2_with fail
      refine (HAp.out _ _ _ HX.out HD.out).mono ?_
      rintro e5 w6 ⟨v6, u6, rfl, ho, hi, hb⟩
      obtain ⟨aU, cU, rfl, hri⟩ := oi_ri hi
      obtain ⟨aN, cN, rfl, hsn⟩ := on_sl ho
      have HN : Hid (ON w6 w.heap.size EN (.slice aN N.length cN) N) := ho.mono (fun y hy => Nat.le_trans HGw.out (ho.lt y hy).1)
      have HS := Lib.hid hsn
      have HU := Lib.hid hri
      replace HB := Lib.hid (HB.out.trans (hb.mono HGw.out))
      replace HGw := Lib.hid (Nat.le_trans HGw.out hb.size)
      replace HR := Lib.hid (HR.out.keep hb)
      replace HO := Lib.hid (HO.out.keep hb)
      replace HE := Lib.hid (HE.out.keep hb)
      clear hb ho hi hri hsn HAp HX HD he0 he1 he2
      obtain ⟨he0, he1, he2⟩ := HE.out
      go_wp2_with fail
      refine (HCu.out _ _ _ HO.out HR.out).mono ?_
      rintro e6 w7 ⟨v7, rfl, ho, hb⟩
      obtain ⟨aW, cW, rfl, hri⟩ := oi_ri ho
      have HT := Lib.hid hri
      replace HB := Lib.hid (HB.out.trans (hb.mono HGw.out))
      replace HGw := Lib.hid (Nat.le_trans HGw.out hb.size)
      replace HS := Lib.hid (HS.out.keep hb)
      replace HU := Lib.hid (HU.out.keep hb)
      replace HE := Lib.hid (HE.out.keep hb)
      replace HN := Lib.hid (HN.out.below hb)
      clear hb ho hri HCu HO HR he0 he1 he2
      go_wp2_with fail
      refine (HSr.out _ _ _ _ _ HU.out.r HT.out.r).mono ?_
      rintro e7 w8 ⟨rfl, hb⟩
      replace HB := Lib.hid (HB.out.trans (hb.mono HGw.out))
      replace HGw := Lib.hid (Nat.le_trans HGw.out hb.size)
      replace HS := Lib.hid (HS.out.keep hb)
      replace HT := Lib.hid (HT.out.keep hb)
      replace HE := Lib.hid (HE.out.keep hb)
      replace HN := Lib.hid (HN.out.below hb)
      clear hb HU
      go_wp2_with fail
      refine (HRn.out _ _ _ HS.out.r).mono ?_
      rintro e8 w9 ⟨v9, rfl, ho, hb⟩
      obtain ⟨aY, cY, rfl, hri⟩ := oi_ri ho
      have HY := Lib.hid hri
      replace HB := Lib.hid (HB.out.trans (hb.mono HGw.out))
      replace HGw := Lib.hid (Nat.le_trans HGw.out hb.size)
      replace HS := Lib.hid (HS.out.keep hb)
      replace HT := Lib.hid (HT.out.keep hb)
      replace HE := Lib.hid (HE.out.keep hb)
      replace HN := Lib.hid (HN.out.below hb)
      clear hb ho hri HRn
      go_wp2_with fail
      refine (HSr.out _ _ _ _ _ HY.out.r HT.out.r).mono ?_
      rintro e10 w10 ⟨rfl, hb⟩
      replace HB := Lib.hid (HB.out.trans (hb.mono HGw.out))
      replace HGw := Lib.hid (Nat.le_trans HGw.out hb.size)
      replace HS := Lib.hid (HS.out.keep hb)
      replace HE := Lib.hid (HE.out.keep hb)
      replace HN := Lib.hid (HN.out.below hb)
      clear hb HY HT HSr
      go_wp2_with fail
      refine (HWn.out _ _ _ HS.out.r).mono ?_
      rintro e11 w11 ⟨rfl, hb⟩
      replace HB := Lib.hid (HB.out.trans (hb.mono HGw.out))
      replace HGw := Lib.hid (Nat.le_trans HGw.out hb.size)
      replace HE := Lib.hid (HE.out.keep hb)
      replace HN := Lib.hid (HN.out.below hb)
      clear hb HS HWn
      obtain ⟨he0, he1, he2⟩ := HE.out
      go_wp2_with fail
      go_quiet (fail)
      go_wp2_with fail
      (try simp only [Exit.inBlock, Exit.then])
      refine bodyPost_ret (results_tmp4 rfl _ _ _) rfl ?_
      exact ⟨_, _, by first | rfl | (rw [HRt.out]; rfl), HN.out.below (bel_drewN (Below.refl _ _) _), bel_drewN HB.out _⟩
    · have hr0 : decide ((rs.length : Int) = 0) = false := decide_eq_false (by omega)
      have HRt : Hid True := trivial
      have hr1 : decide (rs.length = 0) = false := decide_eq_false hrs
      have hr2 : ¬ rs.length = 0 := hrs
      clear hrs
      go_wp2_with fail
      refine (HAp.out _ _ _ HX.out HD.out).mono ?_
      rintro e5 w6 ⟨v6, u6, rfl, ho, hi, hb⟩
      obtain ⟨aU, cU, rfl, hri⟩ := oi_ri hi
      obtain ⟨aN, cN, rfl, hsn⟩ := on_sl ho
      have HN : Hid (ON w6 w.heap.size EN (.slice aN N.length cN) N) := ho.mono (fun y hy => Nat.le_trans HGw.out (ho.lt y hy).1)
      have HS := Lib.hid hsn
      have HU := Lib.hid hri
      replace HB := Lib.hid (HB.out.trans (hb.mono HGw.out))
      replace HGw := Lib.hid (Nat.le_trans HGw.out hb.size)
      replace HR := Lib.hid (HR.out.keep hb)
      replace HO := Lib.hid (HO.out.keep hb)
      replace HE := Lib.hid (HE.out.keep hb)
      clear hb ho hi hri hsn HAp HX HD he0 he1 he2
      obtain ⟨he0, he1, he2⟩ := HE.out
      go_wp2_with fail
      refine (HCu.out _ _ _ HO.out HR.out).mono ?_
      rintro e6 w7 ⟨v7, rfl, ho, hb⟩
      obtain ⟨aW, cW, rfl, hri⟩ := oi_ri ho
      have HT := Lib.hid hri
      replace HB := Lib.hid (HB.out.trans (hb.mono HGw.out))
      replace HGw := Lib.hid (Nat.le_trans HGw.out hb.size)
      replace HS := Lib.hid (HS.out.keep hb)
      replace HU := Lib.hid (HU.out.keep hb)
      replace HE := Lib.hid (HE.out.keep hb)
      replace HN := Lib.hid (HN.out.below hb)
      clear hb ho hri HCu HO HR he0 he1 he2
      go_wp2_with fail
      refine (HSr.out _ _ _ _ _ HU.out.r HT.out.r).mono ?_
      rintro e7 w8 ⟨rfl, hb⟩
      replace HB := Lib.hid (HB.out.trans (hb.mono HGw.out))
      replace HGw := Lib.hid (Nat.le_trans HGw.out hb.size)
      replace HS := Lib.hid (HS.out.keep hb)
      replace HT := Lib.hid (HT.out.keep hb)
      replace HE := Lib.hid (HE.out.keep hb)
      replace HN := Lib.hid (HN.out.below hb)
      clear hb HU
      go_wp2_with fail
      refine (HRn.out _ _ _ HS.out.r).mono ?_
      rintro e8 w9 ⟨v9, rfl, ho, hb⟩
      obtain ⟨aY, cY, rfl, hri⟩ := oi_ri ho
      have HY := Lib.hid hri
      replace HB := Lib.hid (HB.out.trans (hb.mono HGw.out))
      replace HGw := Lib.hid (Nat.le_trans HGw.out hb.size)
      replace HS := Lib.hid (HS.out.keep hb)
      replace HT := Lib.hid (HT.out.keep hb)
      replace HE := Lib.hid (HE.out.keep hb)
      replace HN := Lib.hid (HN.out.below hb)
      clear hb ho hri HRn
      go_wp2_with fail
      refine (HSr.out _ _ _ _ _ HY.out.r HT.out.r).mono ?_
      rintro e10 w10 ⟨rfl, hb⟩
      replace HB := Lib.hid (HB.out.trans (hb.mono HGw.out))
      replace HGw := Lib.hid (Nat.le_trans HGw.out hb.size)
      replace HS := Lib.hid (HS.out.keep hb)
      replace HE := Lib.hid (HE.out.keep hb)
      replace HN := Lib.hid (HN.out.below hb)
      clear hb HY HT HSr
      go_wp2_with fail
      refine (HWn.out _ _ _ HS.out.r).mono ?_
      rintro e11 w11 ⟨rfl, hb⟩
      replace HB := Lib.hid (HB.out.trans (hb.mono HGw.out))
      replace HGw := Lib.hid (Nat.le_trans HGw.out hb.size)
      replace HE := Lib.hid (HE.out.keep hb)
      replace HN := Lib.hid (HN.out.below hb)
      clear hb HS HWn
      obtain ⟨he0, he1, he2⟩ := HE.out
      go_wp2_with fail
      go_quiet (fail)
      go_wp2_with fail
      (try simp only [Exit.inBlock, Exit.then])
      refine bodyPost_ret (results_tmp4 rfl _ _ _) rfl ?_
      exact ⟨_, _, by first | rfl | (rw [HRt.out]; rfl), HN.out.below (bel_drewN (Below.refl _ _) _), bel_drewN HB.out _⟩
  have hn1 : ¬ (n : Int) = 0 := by omega
  have hn2 : decide ((n : Int) = 0) = false := decide_eq_false hn1
  have hn3 : decide (n = 0) = false := decide_eq_false hn0
  by_cases hrs : rs.length = 0
  · have hdl : delP l (at' : Int) (n : Int) = (deltaS l (r, t) at' n rs, 0) := by
      obtain rfl := List.eq_nil_of_length_eq_zero hrs
      exact del_none ok (by omega)
    have HDl := Lib.hid (fun (w : World) (h1 : RowN w a l) => delete_any l (at' : Int) (n : Int) a c w HFt.out h1 (by omega) (by omega) (by omega) (by omega) (by omega))
    rw [hdl] at HDl
    generalize editS l (r, t) at' n rs = N at *
    generalize deltaS l (r, t) at' n rs = D at *
    have HRt : Hid (t + (rs.length : Int) = t) := by show _ = _; omega
    have hr0 : (rs.length : Int) = 0 := by omega
    clear hx hr hlx hrl hP hQ ok hv hdl hvl2 hnl HFt hrs
    go_enter Tryz.func34, Tryz.ntmps34
    go_wp2_with fail
    generalize w.alloc (.cells #[.int .u8 (P : Int), .int .u8 (Q : Int), .slice b rs.length e] 59) = w1 at *
    refine (HRo.out _ HX.out.r).mono ?_
    rintro e2 w2 ⟨v2, rfl, ho, hb⟩
    obtain ⟨a2, c2, rfl, hri⟩ := oi_ri ho
    have HO := Lib.hid hri
    replace HB := bel_tr HB hb
    replace HX := Lib.hid (HX.out.keep hb)
    replace HR := Lib.hid (HR.out.keep hb)
    replace HE := Lib.hid (HE.out.keep hb)
    rw [hvl]
    clear hb ho hri HRo
    obtain ⟨he0, he1, he2⟩ := HE.out
    have HGw : Hid (w.heap.size ≤ w2.heap.size) := HB.out.size
    go_wp2_with fail
    refine (HDl.out _ HX.out.r).mono ?_
    rintro e4 w5 ⟨v4, rfl, ho, hb⟩
    obtain ⟨aD, cD, rfl, hsl⟩ := on_sl ho
    have HD := Lib.hid hsl
    replace HB := Lib.hid (HB.out.trans (hb.mono HGw.out))
    replace HGw := Lib.hid (Nat.le_trans HGw.out hb.size)
    replace HX := Lib.hid (HX.out.keep hb)
    replace HR := Lib.hid (HR.out.keep hb)
    replace HO := Lib.hid (HO.out.keep hb)
    replace HE := Lib.hid (HE.out.keep hb)
    clear hb ho hsl HDl he0 he1 he2
    obtain ⟨he0, he1, he2⟩ := HE.out
    go_wp2_with fail
    refine (HAp.out _ _ _ HX.out HD.out).mono ?_
    rintro e5 w6 ⟨v6, u6, rfl, ho, hi, hb⟩
    obtain ⟨aU, cU, rfl, hri⟩ := oi_ri hi
    obtain ⟨aN, cN, rfl, hsn⟩ := on_sl ho
    have HN : Hid (ON w6 w.heap.size EN (.slice aN N.length cN) N) := ho.mono (fun y hy => Nat.le_trans HGw.out (ho.lt y hy).1)
    have HS := Lib.hid hsn
    have HU := Lib.hid hri
    replace HB := Lib.hid (HB.out.trans (hb.mono HGw.out))
    replace HGw := Lib.hid (Nat.le_trans HGw.out hb.size)
    replace HR := Lib.hid (HR.out.keep hb)
    replace HO := Lib.hid (HO.out.keep hb)
    replace HE := Lib.hid (HE.out.keep hb)
    clear hb ho hi hri hsn HAp HX HD he0 he1 he2
    obtain ⟨he0, he1, he2⟩ := HE.out
    go_wp2_with fail
    refine (HCu.out _ _ _ HO.out HR.out).mono ?_
    rintro e6 w7 ⟨v7, rfl, ho, hb⟩
    obtain ⟨aW, cW, rfl, hri⟩ := oi_ri ho
    have HT := Lib.hid hri
    replace HB := Lib.hid (HB.out.trans (hb.mono HGw.out))
    replace HGw := Lib.hid (Nat.le_trans HGw.out hb.size)
    replace HS := Lib.hid (HS.out.keep hb)
    replace HU := Lib.hid (HU.out.keep hb)
    replace HE := Lib.hid (HE.out.keep hb)
    replace HN := Lib.hid (HN.out.below hb)
    clear hb ho hri HCu HO HR he0 he1 he2
    go_wp2_with fail
    refine (HSr.out _ _ _ _ _ HU.out.r HT.out.r).mono ?_
    rintro e7 w8 ⟨rfl, hb⟩
    replace HB := Lib.hid (HB.out.trans (hb.mono HGw.out))
    replace HGw := Lib.hid (Nat.le_trans HGw.out hb.size)
    replace HS := Lib.hid (HS.out.keep hb)
    replace HT := Lib.hid (HT.out.keep hb)
    replace HE := Lib.hid (HE.out.keep hb)
    replace HN := Lib.hid (HN.out.below hb)
    clear hb HU
    go_wp2_with fail
    refine (HRn.out _ _ _ HS.out.r).mono ?_
    rintro e8 w9 ⟨v9, rfl, ho, hb⟩
    obtain ⟨aY, cY, rfl, hri⟩ := oi_ri ho
    have HY := Lib.hid hri
    replace HB := Lib.hid (HB.out.trans (hb.mono HGw.out))
    replace HGw := Lib.hid (Nat.le_trans HGw.out hb.size)
    replace HS := Lib.hid (HS.out.keep hb)
    replace HT := Lib.hid (HT.out.keep hb)
    replace HE := Lib.hid (HE.out.keep hb)
    replace HN := Lib.hid (HN.out.below hb)
    clear hb ho hri HRn
    go_wp2_with fail
    refine (HSr.out _ _ _ _ _ HY.out.r HT.out.r).mono ?_
    rintro e10 w10 ⟨rfl, hb⟩
    replace HB := Lib.hid (HB.out.trans (hb.mono HGw.out))
    replace HGw := Lib.hid (Nat.le_trans HGw.out hb.size)
    replace HS := Lib.hid (HS.out.keep hb)
    replace HE := Lib.hid (HE.out.keep hb)
    replace HN := Lib.hid (HN.out.below hb)
    clear hb HY HT HSr
    go_wp2_with fail
    refine (HWn.out _ _ _ HS.out.r).mono ?_
    rintro e11 w11 ⟨rfl, hb⟩
    replace HB := Lib.hid (HB.out.trans (hb.mono HGw.out))
    replace HGw := Lib.hid (Nat.le_trans HGw.out hb.size)
    replace HE := Lib.hid (HE.out.keep hb)
    replace HN := Lib.hid (HN.out.below hb)
    clear hb HS HWn
    obtain ⟨he0, he1, he2⟩ := HE.out
    go_wp2_with fail
    go_quiet (fail)
    go_wp2_with fail
    (try simp only [Exit.inBlock, Exit.then])
    refine bodyPost_ret (results_tmp4 rfl _ _ _) rfl ?_
    exact ⟨_, _, by first | rfl | (rw [HRt.out]; rfl), HN.out.below (bel_drewN (Below.refl _ _) _), bel_drewN HB.out _⟩
  · have hdl : repP l (r, t) (at' : Int) (n : Int) rs = (deltaS l (r, t) at' n rs, 0) := ok_rep ok (by omega) (by omega)
    have HRp := Lib.hid (fun (w : World) (h1 : RowN w a l) (h2 : G.RowI .i32 w b rs) => replace_any l (r, t) (at' : Int) (n : Int) rs a b c e w HFt.out h1 h2 (by omega) (by omega) ht1 ht2 (by omega) (by omega) (by omega) (by omega))
    rw [hdl] at HRp
    generalize editS l (r, t) at' n rs = N at *
    generalize deltaS l (r, t) at' n rs = D at *
    have hr0 : decide ((rs.length : Int) = 0) = false := decide_eq_false (by omega)
    have HRt : Hid True := trivial
    have hr1 : decide (rs.length = 0) = false := decide_eq_false hrs
    have hr2 : ¬ rs.length = 0 := hrs
    clear hx hr hlx hrl hP hQ ok hv hdl hvl2 hnl HFt hrs
    go_enter Tryz.func34, Tryz.ntmps34
    go_wp2_with fail
    generalize w.alloc (.cells #[.int .u8 (P : Int), .int .u8 (Q : Int), .slice b rs.length e] 59) = w1 at *
    refine (HRo.out _ HX.out.r).mono ?_
    rintro e2 w2 ⟨v2, rfl, ho, hb⟩
    obtain ⟨a2, c2, rfl, hri⟩ := oi_ri ho
    have HO := Lib.hid hri
    replace HB := bel_tr HB hb
    replace HX := Lib.hid (HX.out.keep hb)
    replace HR := Lib.hid (HR.out.keep hb)
    replace HE := Lib.hid (HE.out.keep hb)
    rw [hvl]
    clear hb ho hri HRo
    obtain ⟨he0, he1, he2⟩ := HE.out
    have HGw : Hid (w.heap.size ≤ w2.heap.size) := HB.out.size
    go_wp2_with fail
    have hb := (Below.refl w2.heap.size w2).drew
    replace HB := Lib.hid (HB.out.trans (hb.mono HGw.out))
    replace HGw := Lib.hid (Nat.le_trans HGw.out hb.size)
    replace HX := Lib.hid (HX.out.keep hb)
    replace HR := Lib.hid (HR.out.keep hb)
    replace HO := Lib.hid (HO.out.keep hb)
    replace HE := Lib.hid (HE.out.keep hb)
    clear hb he0 he1 he2
    refine Sch.wp_region_tn (Ex w.heap.size (P : Int) (Q : Int) b rs.length e) (.val 0 (.val 1 (.val 2 (.val 4 (.val 5 (.val 6 (.val 7 (.one 3 (.one 8 (.val 9 (.val 10 (.val 11 (.val 12 (.val 13 .done)))))))))))))) (by kernel_rfl) (by kernel_rfl) HE.out ?_
    repeat (first
      | (refine Sch.tn_q rfl rfl rfl (fun K hK => ?_); go_big_quiet_op; (first | refine hK _ ?_ | refine ⟨_, fun _ _ => rfl, hK _ ?_⟩); clear hK K)
      | (refine Sch.tn_chk _ _ _ rfl rfl rfl rfl rfl ?_; simp only [Act.put, List.setIfInBounds_toArray, List.set_cons_zero, List.set_cons_succ])
      | (refine Sch.tn_load _ _ _ _ _ rfl rfl rfl rfl (by first | exact Ex.l) rfl ?_; simp only [Act.put, List.setIfInBounds_toArray, List.set_cons_zero, List.set_cons_succ]))
    generalize w2.drew = w3 at *
    refine Sch.tn_e rfl rfl (fun K hK => ?_)
    go_wp2_with fail
    refine (dot_law r t _).mono ?_
    rintro e3 w4 ⟨rfl, hb⟩
    replace HB := Lib.hid (HB.out.trans (hb.mono HGw.out))
    replace HGw := Lib.hid (Nat.le_trans HGw.out hb.size)
    replace HX := Lib.hid (HX.out.keep hb)
    replace HR := Lib.hid (HR.out.keep hb)
    replace HO := Lib.hid (HO.out.keep hb)
    replace HE := Lib.hid (HE.out.keep hb)
    refine hK _ _ HE.out ?_
    clear hK K
    clear hb
    refine Sch.tn_e rfl rfl (fun K hK => ?_)
    go_wp2_with fail
    refine (HRp.out _ HX.out.r HR.out.r).mono ?_
    rintro e4 w5 ⟨v4, rfl, ho, hb⟩
    obtain ⟨aD, cD, rfl, hsl⟩ := on_sl ho
    have HD := Lib.hid hsl
    replace HB := Lib.hid (HB.out.trans (hb.mono HGw.out))
    replace HGw := Lib.hid (Nat.le_trans HGw.out hb.size)
    replace HX := Lib.hid (HX.out.keep hb)
    replace HR := Lib.hid (HR.out.keep hb)
    replace HO := Lib.hid (HO.out.keep hb)
    replace HE := Lib.hid (HE.out.keep hb)
    refine hK _ _ HE.out ?_
    clear hK K
    clear hb ho hsl HRp
    repeat (first
      | (refine Sch.tn_q rfl rfl rfl (fun K hK => ?_); go_big_quiet_op; (first | refine hK _ ?_ | refine ⟨_, fun _ _ => rfl, hK _ ?_⟩); clear hK K)
      | (refine Sch.tn_chk _ _ _ rfl rfl rfl rfl rfl ?_; simp only [Act.put, List.setIfInBounds_toArray, List.set_cons_zero, List.set_cons_succ]))
    refine Sch.tn_n ?_
    obtain ⟨he0, he1, he2⟩ := HE.out
    go_wp2_with fail
    refine (HAp.out _ _ _ HX.out HD.out).mono ?_
    rintro e5 w6 ⟨v6, u6, rfl, ho, hi, hb⟩
    obtain ⟨aU, cU, rfl, hri⟩ := oi_ri hi
    obtain ⟨aN, cN, rfl, hsn⟩ := on_sl ho
    have HN : Hid (ON w6 w.heap.size EN (.slice aN N.length cN) N) := ho.mono (fun y hy => Nat.le_trans HGw.out (ho.lt y hy).1)
    have HS := Lib.hid hsn
    have HU := Lib.hid hri
    replace HB := Lib.hid (HB.out.trans (hb.mono HGw.out))
    replace HGw := Lib.hid (Nat.le_trans HGw.out hb.size)
    replace HR := Lib.hid (HR.out.keep hb)
    replace HO := Lib.hid (HO.out.keep hb)
    replace HE := Lib.hid (HE.out.keep hb)
    clear hb ho hi hri hsn HAp HX HD he0 he1 he2
    obtain ⟨he0, he1, he2⟩ := HE.out
    go_wp2_with fail
    refine (HCu.out _ _ _ HO.out HR.out).mono ?_
    rintro e6 w7 ⟨v7, rfl, ho, hb⟩
    obtain ⟨aW, cW, rfl, hri⟩ := oi_ri ho
    have HT := Lib.hid hri
    replace HB := Lib.hid (HB.out.trans (hb.mono HGw.out))
    replace HGw := Lib.hid (Nat.le_trans HGw.out hb.size)
    replace HS := Lib.hid (HS.out.keep hb)
    replace HU := Lib.hid (HU.out.keep hb)
    replace HE := Lib.hid (HE.out.keep hb)
    replace HN := Lib.hid (HN.out.below hb)
    clear hb ho hri HCu HO HR he0 he1 he2
    go_wp2_with fail
    refine (HSr.out _ _ _ _ _ HU.out.r HT.out.r).mono ?_
    rintro e7 w8 ⟨rfl, hb⟩
    replace HB := Lib.hid (HB.out.trans (hb.mono HGw.out))
    replace HGw := Lib.hid (Nat.le_trans HGw.out hb.size)
    replace HS := Lib.hid (HS.out.keep hb)
    replace HT := Lib.hid (HT.out.keep hb)
    replace HE := Lib.hid (HE.out.keep hb)
    replace HN := Lib.hid (HN.out.below hb)
    clear hb HU
    go_wp2_with fail
    refine (HRn.out _ _ _ HS.out.r).mono ?_
    rintro e8 w9 ⟨v9, rfl, ho, hb⟩
    obtain ⟨aY, cY, rfl, hri⟩ := oi_ri ho
    have HY := Lib.hid hri
    replace HB := Lib.hid (HB.out.trans (hb.mono HGw.out))
    replace HGw := Lib.hid (Nat.le_trans HGw.out hb.size)
    replace HS := Lib.hid (HS.out.keep hb)
    replace HT := Lib.hid (HT.out.keep hb)
    replace HE := Lib.hid (HE.out.keep hb)
    replace HN := Lib.hid (HN.out.below hb)
    clear hb ho hri HRn
    go_wp2_with fail
    refine (HSr.out _ _ _ _ _ HY.out.r HT.out.r).mono ?_
    rintro e10 w10 ⟨rfl, hb⟩
    replace HB := Lib.hid (HB.out.trans (hb.mono HGw.out))
    replace HGw := Lib.hid (Nat.le_trans HGw.out hb.size)
    replace HS := Lib.hid (HS.out.keep hb)
    replace HE := Lib.hid (HE.out.keep hb)
    replace HN := Lib.hid (HN.out.below hb)
    clear hb HY HT HSr
    go_wp2_with fail
    refine (HWn.out _ _ _ HS.out.r).mono ?_
    rintro e11 w11 ⟨rfl, hb⟩
    replace HB := Lib.hid (HB.out.trans (hb.mono HGw.out))
    replace HGw := Lib.hid (Nat.le_trans HGw.out hb.size)
    replace HE := Lib.hid (HE.out.keep hb)
    replace HN := Lib.hid (HN.out.below hb)
    clear hb HS HWn
    obtain ⟨he0, he1, he2⟩ := HE.out
    go_wp2_with fail
    go_quiet (fail)
    go_wp2_with fail
    (try simp only [Exit.inBlock, Exit.then])
    refine bodyPost_ret (results_tmp4 rfl _ _ _) rfl ?_
    exact ⟨_, _, by first | rfl | (rw [HRt.out]; rfl), HN.out.below (bel_drewN (Below.refl _ _) _), bel_drewN HB.out _⟩
end Go.Proofs.YtkcbekebleodaaaGreat.Ed
end

/-
  Layer 15: the law EditHolds.
-/
section
namespace Go.Proofs.YtkcbekebleodaaaGreat.Ed
set_option linter.unusedVariables false
open Go.RowKit V Go.Shelf Go.Sort D Nd Qs Wk Ix Jn Fo
attribute [local irreducible] Sch.heldN Sch.stepV Sch.stepE

theorem edit_len {l : List Nt} {d : Dt} {i n : Nat} {rs : List Int} (h : Ok l d i n rs) : (editS l d i n rs).length ≤ l.length + (n + rs.length) := by
  have h1 := joinL_len l (deltaS l d i n rs)
  rw [h.join.2] at h1
  have := delta_len h
  omega
theorem mem_no {l : List Nt} {p : Nt → Prop} (h : ∀ j (hj : j < l.length), p l[j]) : ∀ x ∈ l, p x := fun x hx => by
  obtain ⟨j, hj, rfl⟩ := List.mem_iff_getElem.1 hx
  exact h j hj
set_option maxRecDepth 100000 in
set_option maxHeartbeats 8000000 in
theorem holds_law (l : List Nt) (a : Option Addr) (c : Nat) (P1 Q1 : Nat) (rs1 : List Int) (b1 : Option Addr) (e1 : Nat) (P2 Q2 : Nat) (rs2 : List Int) (b2 : Option Addr) (e2 : Nat) (w : World) (hx : Sl w a l.length c l)
    (hr1 : Ri w b1 e1 rs1) (hr2 : Ri w b2 e2 rs2) (hP1 : P1 ≤ 255) (hQ1 : Q1 ≤ 255) (hP2 : P2 ≤ 255) (hQ2 : Q2 ≤ 255) (hl1 : rs1.length ≤ 9223372036854775807) (hl2 : rs2.length ≤ 9223372036854775807) (hll : l.length ≤ 9223372036854775807) :
    Calls Tryz.prog 9 #[.slice a l.length c, .agg #[.int .u8 (P1 : Int), .int .u8 (Q1 : Int), .slice b1 rs1.length e1], .agg #[.int .u8 (P2 : Int), .int .u8 (Q2 : Int), .slice b2 rs2.length e2]] w fun e w' => e = .returned (.bool true) ∧ Below w.heap.size w w' := by
  have hb := bel_box w (.cells #[.int .u8 (P1 : Int), .int .u8 (Q1 : Int), .slice b1 rs1.length e1] 59)
  have HB := Lib.hid hb
  have HX := Lib.hid (hx.keep hb)
  have HR1 := Lib.hid (hr1.keep hb)
  have HR2 := Lib.hid (hr2.keep hb)
  have HE1 : Hid (Ex w.heap.size (P1 : Int) (Q1 : Int) b1 rs1.length e1 (w.alloc (.cells #[.int .u8 (P1 : Int), .int .u8 (Q1 : Int), .slice b1 rs1.length e1] 59))) := by
    refine ⟨?_, ?_, ?_⟩ <;> go_simp
  have hs : (w.alloc (.cells #[.int .u8 (P1 : Int), .int .u8 (Q1 : Int), .slice b1 rs1.length e1] 59)).heap.size = w.heap.size + 1 := by simp
  clear hb
  have hb := bel_box (w.alloc (.cells #[.int .u8 (P1 : Int), .int .u8 (Q1 : Int), .slice b1 rs1.length e1] 59)) (.cells #[.int .u8 (P2 : Int), .int .u8 (Q2 : Int), .slice b2 rs2.length e2] 59)
  have HE2 : Hid (Ex (w.heap.size + 1) (P2 : Int) (Q2 : Int) b2 rs2.length e2 ((w.alloc (.cells #[.int .u8 (P1 : Int), .int .u8 (Q1 : Int), .slice b1 rs1.length e1] 59)).alloc (.cells #[.int .u8 (P2 : Int), .int .u8 (Q2 : Int), .slice b2 rs2.length e2] 59))) := by
    rw [← hs]
    refine ⟨?_, ?_, ?_⟩ <;> go_simp
  replace HB := bel_tr HB hb
  replace HX := Lib.hid (HX.out.keep hb)
  replace HR1 := Lib.hid (HR1.out.keep hb)
  replace HR2 := Lib.hid (HR2.out.keep hb)
  replace HE1 := Lib.hid (HE1.out.keep hb)
  clear hb hs
  have HLl := Lib.hid hll
  have HL1 := Lib.hid hl1
  have HL2 := Lib.hid hl2
  have HPQ : Hid (P1 ≤ 255 ∧ Q1 ≤ 255 ∧ P2 ≤ 255 ∧ Q2 ≤ 255) := ⟨hP1, hQ1, hP2, hQ2⟩
  have hll2 : (l.length : Int) ≤ 9223372036854775807 := by omega
  clear hx hr1 hr2 hP1 hQ1 hP2 hQ2 hl1 hl2 hll
  by_cases hl : 30 < l.length
  · have hl3 : (30 : Int) < (l.length : Int) := by omega
    clear hl
    go_enter Tryz.func9, Tryz.ntmps9
    go_wp2_with fail
    refine (known_any _).mono ?_
    rintro e w99 ⟨rfl, hb⟩
    replace HB := bel_tr HB hb
    clear hb
    go_wp2_with fail
    go_ret
    exact ⟨rfl, HB.out⟩
  have hl3 : ¬ (30 : Int) < (l.length : Int) := by omega
  have HWe := Lib.hid (fun w h => well_ref l a c w h (by omega))
  have HR1c := Lib.hid (fun (w : World) (h : Ri w b1 e1 rs1) => right_law (P1 : Int) (Q1 : Int) rs1 b1 e1 w h.r HL1.out)
  have HR2c := Lib.hid (fun (w : World) (h : Ri w b2 e2 rs2) => right_law (P2 : Int) (Q2 : Int) rs2 b2 e2 w h.r HL2.out)
  have HLt := Lib.hid (fun w h => latest_ref l a c w h (by omega))
  have HLe : Hid (l.length ≤ 30) := by show _ ≤ _; omega
  clear hl
  go_enter Tryz.func9, Tryz.ntmps9
  go_wp2_with fail
  generalize (w.alloc (.cells #[.int .u8 (P1 : Int), .int .u8 (Q1 : Int), .slice b1 rs1.length e1] 59)).alloc (.cells #[.int .u8 (P2 : Int), .int .u8 (Q2 : Int), .slice b2 rs2.length e2] 59) = w1 at *
  refine (HWe.out _ HX.out.r).mono ?_
  rintro e w2 ⟨rfl, hb⟩
  replace HB := bel_tr HB hb
  replace HX := Lib.hid (HX.out.keep hb)
  replace HR1 := Lib.hid (HR1.out.keep hb)
  replace HR2 := Lib.hid (HR2.out.keep hb)
  replace HE1 := Lib.hid (HE1.out.keep hb)
  replace HE2 := Lib.hid (HE2.out.keep hb)
  clear hb HWe
  rcases hw : wellS l with _ | _
  · obtain ⟨he0, he1, he2⟩ := HE1.out
    clear hw
    go_wp2_with fail
    refine (known_any _).mono ?_
    rintro e w99 ⟨rfl, hb⟩
    replace HB := bel_tr HB hb
    clear hb
    go_wp2_with fail
    go_ret
    exact ⟨rfl, HB.out⟩
  have HW := Lib.hid hw
  clear hw
  obtain ⟨he0, he1, he2⟩ := HE1.out
  go_wp2_with fail
  clear he0 he1 he2
  refine (HR1c.out _ HR1.out).mono ?_
  rintro e w3 ⟨rfl, hb⟩
  replace HB := bel_tr HB hb
  replace HX := Lib.hid (HX.out.keep hb)
  replace HR1 := Lib.hid (HR1.out.keep hb)
  replace HR2 := Lib.hid (HR2.out.keep hb)
  replace HE1 := Lib.hid (HE1.out.keep hb)
  replace HE2 := Lib.hid (HE2.out.keep hb)
  clear hb HR1c
  rcases hw : rightR rs1 with _ | _
  · clear hw
    go_wp2_with fail
    refine (known_any _).mono ?_
    rintro e w99 ⟨rfl, hb⟩
    replace HB := bel_tr HB hb
    clear hb
    go_wp2_with fail
    go_ret
    exact ⟨rfl, HB.out⟩
  have HY1 := Lib.hid (right_yes hw)
  clear hw
  obtain ⟨he0, he1, he2⟩ := HE2.out
  go_wp2_with fail
  clear he0 he1 he2
  refine (HR2c.out _ HR2.out).mono ?_
  rintro e w4 ⟨rfl, hb⟩
  replace HB := bel_tr HB hb
  replace HX := Lib.hid (HX.out.keep hb)
  replace HR1 := Lib.hid (HR1.out.keep hb)
  replace HR2 := Lib.hid (HR2.out.keep hb)
  replace HE1 := Lib.hid (HE1.out.keep hb)
  replace HE2 := Lib.hid (HE2.out.keep hb)
  clear hb HR2c
  rcases hw : rightR rs2 with _ | _
  · clear hw
    go_wp2_with fail
    refine (known_any _).mono ?_
    rintro e w99 ⟨rfl, hb⟩
    replace HB := bel_tr HB hb
    clear hb
    go_wp2_with fail
    go_ret
    exact ⟨rfl, HB.out⟩
  have HY2 := Lib.hid (right_yes hw)
  clear hw
  go_wp2_with fail
  refine (HLt.out _ HX.out.r).mono ?_
  rintro e w5 ⟨rfl, hb⟩
  replace HB := bel_tr HB hb
  replace HX := Lib.hid (HX.out.keep hb)
  replace HR1 := Lib.hid (HR1.out.keep hb)
  replace HR2 := Lib.hid (HR2.out.keep hb)
  replace HE1 := Lib.hid (HE1.out.keep hb)
  replace HE2 := Lib.hid (HE2.out.keep hb)
  clear hb HLt
  obtain ⟨L, hL⟩ : ∃ L, L = lateP l := ⟨_, rfl⟩
  rw [← hL]
  have HLL := Lib.hid hL
  clear hL
  by_cases hlt : 4611686018427387884 < L
  · go_wp2_with fail
    refine (known_any _).mono ?_
    rintro e w99 ⟨rfl, hb⟩
    replace HB := bel_tr HB hb
    clear hb
    go_wp2_with fail
    go_ret
    exact ⟨rfl, HB.out⟩
  have HT : Hid (timeS l ≤ 4611686018427387884) := by
    have h := HLL.out
    unfold lateP at h
    rw [well_valid HW.out, if_pos rfl] at h
    show _ ≤ _
    omega
  go_wp2_with fail
  go_loopw [7] (fun u wr => ∃ k : Nat, k ≤ l.length ∧ u = .int .i64 (k : Int) ∧ Hid (∀ j (hj : j < l.length), j < k → ¬ (60 ≤ l[j].1.1 ∧ l[j].1.1 ≤ 61)) ∧ wr = w5) (fun u _ => l.length - (intOf u).toNat)
  case atStart => exact ⟨0, Nat.zero_le _, rfl, fun j hj h => absurd h (Nat.not_lt_zero _), rfl⟩
  case round =>
    obtain ⟨k, hk, rfl, HJ, rfl⟩ := hrel
    by_cases hkl : k < l.length
    · have hi0 : (k : Int) < (l.length : Int) := by omega
      obtain ⟨b, o, rfl, hn⟩ := na_of HX.out.r k hkl
      obtain ⟨p0, -, -, -, -, -⟩ := hn
      have hix := ixS b o l.length c k (k : Int) rfl hkl
      have HJ2 : Hid (¬ (60 ≤ l[k].1.1 ∧ l[k].1.1 ≤ 61) → ∀ j (hj : j < l.length), j < k + 1 → ¬ (60 ≤ l[j].1.1 ∧ l[j].1.1 ≤ 61)) := fun h0 j hj h => by
        by_cases e : j = k
        · subst e; exact h0
        · exact HJ.out j hj (by omega)
      generalize l[k].1.1 = q at p0 HJ2
      clear HJ
      by_cases q1 : 60 ≤ q
      · by_cases q2 : q ≤ 61
        · clear HJ2
          go_wp2_with fail
          refine (known_any _).mono ?_
          rintro e w99 ⟨rfl, hb⟩
          replace HB := bel_tr HB hb
          clear hb
          go_wp2_with fail
          go_ret
          exact ⟨rfl, HB.out⟩
        · have HJ3 := Lib.hid (HJ2.out (by omega))
          clear HJ2
          go_wp2_with fail
          refine ⟨⟨k + 1, by omega, by go_num, HJ3, by first | rfl | trivial⟩, ?_⟩
          simp [intOf]; omega
      · have HJ3 := Lib.hid (HJ2.out (by omega))
        clear HJ2
        go_wp2_with fail
        refine ⟨⟨k + 1, by omega, by go_num, HJ3, by first | rfl | trivial⟩, ?_⟩
        simp [intOf]; omega
    · obtain rfl : k = l.length := by omega
      have hend : ¬ (l.length : Int) < (l.length : Int) := by omega
      have HNo := Lib.hid (mem_no (p := fun x => ¬ (60 ≤ x.1.1 ∧ x.1.1 ≤ 61)) (fun j hj => HJ.out j hj hj))
      clear HJ hkl hk
      have hvl := vis_len (well_valid HW.out)
      have hl30 := HLe.out
      obtain ⟨at1, ha1⟩ : ∃ x, x = P1 % ((visS l).length + 1) := ⟨_, rfl⟩
      obtain ⟨n1, hn1⟩ : ∃ x, x = Q1 % ((visS l).length - at1 + 1) := ⟨_, rfl⟩
      obtain ⟨at2, ha2⟩ : ∃ x, x = P2 % ((visS l).length + 1) := ⟨_, rfl⟩
      obtain ⟨n2, hn2⟩ : ∃ x, x = Q2 % ((visS l).length - at2 + 1) := ⟨_, rfl⟩
      have hi1 : at1 + n1 ≤ (visS l).length := by
        have h1 := Nat.mod_lt P1 (show 0 < (visS l).length + 1 by omega)
        have h2 := Nat.mod_lt Q1 (show 0 < (visS l).length - at1 + 1 by omega)
        rw [← ha1] at h1
        rw [← hn1] at h2
        omega
      have hi2 : at2 + n2 ≤ (visS l).length := by
        have h1 := Nat.mod_lt P2 (show 0 < (visS l).length + 1 by omega)
        have h2 := Nat.mod_lt Q2 (show 0 < (visS l).length - at2 + 1 by omega)
        rw [← ha2] at h1
        rw [← hn2] at h2
        omega
      have ok1 : Ok l (60, 1) at1 n1 rs1 := ok_away HW.out (by decide) (by decide) (fun x hx => by have := HNo.out x hx; omega) HT.out hi1 HY1.out.2 (by have := HY1.out.1; omega)
      have ok2 : Ok l (61, 1) at2 n2 rs2 := ok_away HW.out (by decide) (by decide) (fun x hx => by have := HNo.out x hx; omega) HT.out hi2 HY2.out.2 (by have := HY2.out.1; omega)
      have HEd1 := Lib.hid (fun w h1 h2 => edits_law l 60 1 P1 Q1 rs1 a b1 c e1 at1 n1 w h1 h2 (by omega) HY1.out.1 HPQ.out.1 HPQ.out.2.1 ha1 hn1 ok1)
      have HEd2 := Lib.hid (fun w h1 h2 => edits_law l 61 1 P2 Q2 rs2 a b2 c e2 at2 n2 w h1 h2 (by omega) HY2.out.1 HPQ.out.2.2.1 HPQ.out.2.2.2 ha2 hn2 ok2)
      obtain ⟨ap1, ap2, hwj, hzz⟩ := apply_two ok1 ok2 (by decide) (fun x hx => by have := HNo.out x hx; constructor <;> show x.1.1 ≠ _ <;> omega)
      have hlX : (editS l (60, 1) at1 n1 rs1).length ≤ 100 := by have := edit_len ok1; have := HY1.out.1; omega
      have hlY : (editS l (61, 1) at2 n2 rs2).length ≤ 100 := by have := edit_len ok2; have := HY2.out.1; omega
      have hlJ := joinL_len (editS l (60, 1) at1 n1 rs1) (editS l (61, 1) at2 n2 rs2)
      generalize editS l (60, 1) at1 n1 rs1 = X at *
      generalize editS l (61, 1) at2 n2 rs2 = Y at *
      have HA1 := Lib.hid (fun (w : World) (aX aY : Option Addr) (cX cY : Nat) (h1 : Sl w aX X.length cX X) (h2 : Sl w aY Y.length cY Y) => apply_any X Y aX aY cX cY w h1.r h1.z h1.c h2.r h2.z h2.c (by omega) (by omega))
      have HA2 := Lib.hid (fun (w : World) (aX aY : Option Addr) (cX cY : Nat) (h1 : Sl w aX X.length cX X) (h2 : Sl w aY Y.length cY Y) => apply_any Y X aY aX cY cX w h2.r h2.z h2.c h1.r h1.z h1.c (by omega) (by omega))
      rw [ap1] at HA1
      rw [ap2] at HA2
      clear ap1 ap2
      generalize joinL X Y = J at *
      have hvJ := vis_len (well_valid hwj)
      have hlR : (runesS J).length ≤ 200 := by unfold runesS; rw [List.length_map]; omega
      have HSm := Lib.hid (fun (w : World) (x z : Option Addr) (cx cz : Nat) (h1 : RowN w x J) (h2 : RowN w z J) => same_ref J J x z cx cz w h1 h2 (by omega) (by omega))
      have HSr := Lib.hid (fun (w : World) (x z : Option Addr) (cx cz : Nat) (h1 : G.RowI .i32 w x (runesS J)) (h2 : G.RowI .i32 w z (runesS J)) => sameR_ref _ _ x z cx cz w h1 h2 (by omega) (by omega))
      rw [decide_eq_true rfl] at HSm HSr
      have HWj := Lib.hid (fun (w : World) (x : Option Addr) (cx : Nat) (h : RowN w x J) => well_ref J x cx w h (by omega))
      rw [hwj] at HWj
      have HZz : Hid (∀ z ∈ J, 60 ≤ z.1.1 → z.1.1 ≤ 61 → z.2.2.2 ≠ 0) := fun z hz h1 h2 => hzz z hz (by show z.1.1 = 60 ∨ z.1.1 = 61; omega)
      have hlJ2 : (J.length : Int) ≤ 200 := by omega
      generalize runesS J = RJ at *
      clear hvl hl30 ha1 hn1 ha2 hn2 hi1 hi2 ok1 ok2 hwj hzz hlX hlY hlJ hvJ hlR HNo HT HY1 HY2 HPQ HW HLe HL1 HL2 HLl
      obtain ⟨he0, he1, he2⟩ := HE1.out
      go_wp2_with fail
      clear he0 he1 he2
      refine (HEd1.out _ HX.out HR1.out).mono ?_
      rintro e w6 ⟨v6, u6, rfl, ho, hb⟩
      obtain ⟨aX, cX, rfl, hsl⟩ := on_sl ho
      have HP := Lib.hid hsl
      replace HB := bel_tr HB hb
      replace HX := Lib.hid (HX.out.keep hb)
      replace HR2 := Lib.hid (HR2.out.keep hb)
      replace HE2 := Lib.hid (HE2.out.keep hb)
      clear hb ho hsl HEd1 HE1 HR1
      obtain ⟨he0, he1, he2⟩ := HE2.out
      go_wp2_with fail
      clear he0 he1 he2
      refine (HEd2.out _ HX.out HR2.out).mono ?_
      rintro e w7 ⟨v7, u7, rfl, ho, hb⟩
      obtain ⟨aY, cY, rfl, hsl⟩ := on_sl ho
      have HQ := Lib.hid hsl
      replace HB := bel_tr HB hb
      replace HP := Lib.hid (HP.out.keep hb)
      clear hb ho hsl HEd2 HE2 HR2 HX
      go_wp2_with fail
      refine (HA1.out _ _ _ _ _ HP.out HQ.out).mono ?_
      rintro e w8 ⟨v8, u8, rfl, ho, hi, hb⟩
      obtain ⟨aJ, cJ, rfl, hsl⟩ := on_sl ho
      obtain ⟨aR, cR, rfl, hri⟩ := oi_ri hi
      have HJ := Lib.hid hsl
      have HR := Lib.hid hri
      replace HB := bel_tr HB hb
      replace HP := Lib.hid (HP.out.keep hb)
      replace HQ := Lib.hid (HQ.out.keep hb)
      clear hb ho hi hsl hri HA1
      go_wp2_with fail
      refine (HA2.out _ _ _ _ _ HP.out HQ.out).mono ?_
      rintro e w9 ⟨v9, u9, rfl, ho, hi, hb⟩
      obtain ⟨aK, cK, rfl, hsl⟩ := on_sl ho
      obtain ⟨aS, cS, rfl, hri⟩ := oi_ri hi
      have HK := Lib.hid hsl
      have HS := Lib.hid hri
      replace HB := bel_tr HB hb
      replace HJ := Lib.hid (HJ.out.keep hb)
      replace HR := Lib.hid (HR.out.keep hb)
      clear hb ho hi hsl hri HA2 HP HQ
      go_wp2_with fail
      refine (HSm.out _ _ _ _ _ HJ.out.r HK.out.r).mono ?_
      rintro e w10 ⟨rfl, hb⟩
      replace HB := bel_tr HB hb
      replace HJ := Lib.hid (HJ.out.keep hb)
      replace HR := Lib.hid (HR.out.keep hb)
      replace HS := Lib.hid (HS.out.keep hb)
      clear hb HSm HK
      go_wp2_with fail
      refine (HSr.out _ _ _ _ _ HR.out.r HS.out.r).mono ?_
      rintro e w11 ⟨rfl, hb⟩
      replace HB := bel_tr HB hb
      replace HJ := Lib.hid (HJ.out.keep hb)
      clear hb HSr HR HS
      go_wp2_with fail
      refine (HWj.out _ _ _ HJ.out.r).mono ?_
      rintro e w12 ⟨rfl, hb⟩
      replace HB := bel_tr HB hb
      replace HJ := Lib.hid (HJ.out.keep hb)
      clear hb HWj
      go_wp2_with fail
      go_loopw [22] (fun u wr => ∃ k : Nat, k ≤ J.length ∧ u = .int .i64 (k : Int) ∧ wr = w12) (fun u _ => J.length - (intOf u).toNat)
      case atStart => exact ⟨0, Nat.zero_le _, rfl, rfl⟩
      case round =>
        obtain ⟨k, hk, rfl, rfl⟩ := hrel
        by_cases hkl : k < J.length
        · have hi0 : (k : Int) < (J.length : Int) := by omega
          obtain ⟨b, o, rfl, hn⟩ := na_of HJ.out.r k hkl
          obtain ⟨p0, -, -, -, -, p5⟩ := hn
          have hix := ixS b o J.length cJ k (k : Int) rfl hkl
          have hz := HZz.out _ (List.getElem_mem hkl)
          generalize J[k].1.1 = q at p0 hz
          generalize J[k].2.2.2 = r at p5 hz
          by_cases q1 : 60 ≤ q
          · by_cases q2 : q ≤ 61
            · have hr0 : decide (r = 0) = false := decide_eq_false (hz q1 q2)
              have hr1 := hz q1 q2
              clear hz
              go_wp2_with fail
              refine ⟨⟨k + 1, by omega, by go_num, by first | rfl | trivial⟩, ?_⟩
              simp [intOf]; omega
            · clear hz
              go_wp2_with fail
              refine ⟨⟨k + 1, by omega, by go_num, by first | rfl | trivial⟩, ?_⟩
              simp [intOf]; omega
          · clear hz
            go_wp2_with fail
            refine ⟨⟨k + 1, by omega, by go_num, by first | rfl | trivial⟩, ?_⟩
            simp [intOf]; omega
        · obtain rfl : k = J.length := by omega
          have hend : ¬ (J.length : Int) < (J.length : Int) := by omega
          go_wp2_with fail
          refine (known_any _).mono ?_
          rintro e w99 ⟨rfl, hb⟩
          replace HB := bel_tr HB hb
          clear hb
          go_wp2_with fail
          go_ret
          exact ⟨rfl, HB.out⟩
end Go.Proofs.YtkcbekebleodaaaGreat.Ed
end

/-
  Layer 15: the law EditPlays.
-/
section
namespace Go.Proofs.YtkcbekebleodaaaGreat.Ed
set_option linter.unusedVariables false
open Go.RowKit V Go.Shelf Go.Sort D Nd Qs Wk Ix Jn Fo
attribute [local irreducible] Sch.heldN Sch.stepV Sch.stepE

/-- An edit in memory: where, how many, the runes, and where these lie. -/
abbrev Ac := Nat × Nat × List Int × Option Addr × Nat
def wfC (z : Ac) : Prop := z.1 ≤ 255 ∧ z.2.1 ≤ 255 ∧ z.2.2.1.length ≤ 9223372036854775807
def RowC (w : World) (a : Option Addr) (l : List Ac) : Prop :=
  l = [] ∨ ∃ b o, a = some ⟨b, o, none⟩ ∧ ∀ i (h : i < l.length), w.cell? ⟨b, o + i * 3, none⟩ = some (.int .u8 (l[i].1 : Int)) ∧ w.cell? ⟨b, o + i * 3 + 1, none⟩ = some (.int .u8 (l[i].2.1 : Int)) ∧ w.cell? ⟨b, o + i * 3 + 2, none⟩ = some (.slice l[i].2.2.2.1 l[i].2.2.1.length l[i].2.2.2.2)
def AllC (w : World) (l : List Ac) : Prop := ∀ z ∈ l, Ri w z.2.2.2.1 z.2.2.2.2 z.2.2.1
theorem RowC.keep {w w' : World} {a : Option Addr} {l : List Ac} (h : RowC w a l) (hb : Below w.heap.size w w') : RowC w' a l := by
  rcases h with h | ⟨b, o, rfl, h⟩
  · exact .inl h
  · refine .inr ⟨b, o, rfl, fun i hi => ?_⟩
    obtain ⟨h1, h2, h3⟩ := h i hi
    exact ⟨Un.keep_cell h1 hb, Un.keep_cell h2 hb, Un.keep_cell h3 hb⟩
theorem RowC.get {w : World} {a : Option Addr} {l : List Ac} (h : RowC w a l) (k : Nat) (hk : k < l.length) :
    ∃ b o, a = some ⟨b, o, none⟩ ∧ w.cell? ⟨b, o + k * 3, none⟩ = some (.int .u8 (l[k].1 : Int)) ∧ w.cell? ⟨b, o + k * 3 + 1, none⟩ = some (.int .u8 (l[k].2.1 : Int)) ∧ w.cell? ⟨b, o + k * 3 + 2, none⟩ = some (.slice l[k].2.2.2.1 l[k].2.2.1.length l[k].2.2.2.2) := by
  rcases h with rfl | ⟨b, o, rfl, hc⟩
  · simp at hk
  · exact ⟨b, o, rfl, hc k hk⟩
theorem ixC (b o n c k : Nat) (z : Int) (hz : z = (k : Int)) (hk : k < n) : ∀ w, (Instr.indexAt 55 (.slice (some ⟨b, o, none⟩) n c) (.int .i64 z)).run Tryz.prog w = .ok (.pointer (some ⟨b, o + k * 3, none⟩)) w := fun w => by
  subst hz
  have hk2 : (k : Int) < (n : Int) := by omega
  go_simp
theorem fold_len1 : ∀ (ns o : List Nt), (foldN ns o).length ≤ o.length + ns.length
  | [], o => by simp [foldN]
  | n :: t, o => by
    have h1 := fold_len1 t (putN o n).1
    have h2 := put_len1 o n
    have e : foldN (n :: t) o = foldN t (putN o n).1 := rfl
    rw [e, List.length_cons]
    omega
theorem edit_len2 {l : List Nt} {d : Dt} {i n : Nat} {rs : List Int} : (editS l d i n rs).length ≤ l.length + rs.length := by
  have h := fold_len1 (chainS l d i rs) (l.map (killAt (kdots l i n)))
  rw [List.length_map] at h
  unfold chainS at h
  rw [chain_len] at h
  exact h
/-- The two counters. -/
structure Cn (w : World) (g : Nat) (c1 c2 : Int) : Prop where
  a : w.cell? ⟨g, 0, none⟩ = some (.int .i64 c1)
  b : w.cell? ⟨g, 1, none⟩ = some (.int .i64 c2)
  f : ∀ o, w.frozen? ⟨g, o, none⟩ = false
theorem Cn.keep {w w' : World} {g : Nat} {c1 c2 : Int} (h : Cn w g c1 c2) (hb : Below w.heap.size w w') : Cn w' g c1 c2 := ⟨Un.keep_cell h.a hb, Un.keep_cell h.b hb, fun o => (hb.frozen (p := ⟨g, o, none⟩) (show g < w.heap.size from lt_of_cell h.a)).trans (h.f o)⟩
theorem Cn.put0 {w : World} {g : Nat} {c1 c2 : Int} (h : Cn w g c1 c2) (z : Int) : Cn (w.setCell ⟨g, 0, none⟩ (.int .i64 z)) g z c2 := by
  obtain ⟨h0, h1, hf⟩ := h
  refine ⟨?_, ?_, fun o => ?_⟩
  · go_simp
  · go_simp
  · simp only [World.frozen?_setCell]; exact hf o
theorem Cn.put1 {w : World} {g : Nat} {c1 c2 : Int} (h : Cn w g c1 c2) (z : Int) : Cn (w.setCell ⟨g, 1, none⟩ (.int .i64 z)) g c1 z := by
  obtain ⟨h0, h1, hf⟩ := h
  refine ⟨?_, ?_, fun o => ?_⟩
  · go_simp
  · go_simp
  · simp only [World.frozen?_setCell]; exact hf o
/-- What an edit's call reads. -/
def Px (g b o j : Nat) (t p q : Int) (a : Option Addr) (k c : Nat) (w : World) : Prop := w.cell? ⟨g, j, none⟩ = some (.int .i64 t) ∧ w.cell? ⟨b, o, none⟩ = some (.int .u8 p) ∧ w.cell? ⟨b, o + 1, none⟩ = some (.int .u8 q) ∧ w.cell? ⟨b, o + 2, none⟩ = some (.slice a k c)
section
variable {g b o j k c : Nat} {t p q : Int} {a : Option Addr}
theorem Px.keep {w w' : World} (h : Px g b o j t p q a k c w) (hb : Below w.heap.size w w') : Px g b o j t p q a k c w' := ⟨Un.keep_cell h.1 hb, Un.keep_cell h.2.1 hb, Un.keep_cell h.2.2.1 hb, Un.keep_cell h.2.2.2 hb⟩
theorem Px.lc : ∀ w, Px g b o j t p q a k c w → (Instr.loadAt 3 (.pointer (some ⟨g, j, none⟩))).run Tryz.prog w = .ok (.int .i64 t) w := fun w h => by
  have h0 := h.1
  go_simp
theorem Px.la : ∀ w, Px g b o j t p q a k c w → (Instr.loadAt 59 (.pointer (some ⟨b, o, none⟩))).run Tryz.prog w = .ok (.agg #[.int .u8 p, .int .u8 q, .slice a k c]) w := fun w h => by
  obtain ⟨-, h0, h1, h2⟩ := h
  go_simp
end
set_option maxRecDepth 100000 in
set_option maxHeartbeats 8000000 in
theorem plays_law (S : List Ac) (a : Option Addr) (c : Nat) (w : World) (hS : RowC w a S) (hA : AllC w S) (hw : ∀ z ∈ S, wfC z) (hl : S.length ≤ 9223372036854775807) :
    Calls Tryz.prog 8 #[.slice a S.length c] w fun e w' => e = .returned (.bool true) ∧ Below w.heap.size w w' := by
  have hll2 : (S.length : Int) ≤ 9223372036854775807 := by omega
  by_cases hl20 : 20 < S.length
  · have HB := Lib.hid (Below.refl w.heap.size w)
    have hl3 : (20 : Int) < (S.length : Int) := by omega
    clear hl20
    go_enter Tryz.func8, Tryz.ntmps8
    go_wp2_with fail
    refine (known_any _).mono ?_
    rintro e w99 ⟨rfl, hb⟩
    replace HB := bel_tr HB hb
    clear hb
    go_wp2_with fail
    go_ret
    exact ⟨rfl, HB.out⟩
  have hl3 : ¬ (20 : Int) < (S.length : Int) := by omega
  have HLs : Hid (S.length ≤ 20) := by show _ ≤ _; omega
  have HSr := Lib.hid hS
  have HSa := Lib.hid hA
  have HSw := Lib.hid hw
  have HB := Lib.hid (bel_box w (.cells #[.int .i64 1, .int .i64 1] 3))
  have HC : Hid (Cn (w.alloc (.cells #[.int .i64 1, .int .i64 1] 3)) w.heap.size 1 1) := by
    refine ⟨?_, ?_, fun o => ?_⟩ <;> go_simp
  have HG : Hid (w.heap.size + 1 ≤ (w.alloc (.cells #[.int .i64 1, .int .i64 1] 3)).heap.size) := by show _ ≤ _; simp
  clear hl20 hS hA hw hl
  go_enter Tryz.func8, Tryz.ntmps8
  go_wp2_with fail
  generalize w.alloc (.cells #[.int .i64 1, .int .i64 1] 3) = w1 at *
  go_loopw [3, 5, 6, 7, 8, 9] (fun s u _ _ _ _ wr => ∃ (k : Nat) (L : List Nt) (c1 c2 B : Int), k ≤ S.length ∧ u = .int .i64 (k : Int) ∧ Hid (Pl L c1 c2 B) ∧ Hid (B ≤ 5 * (k : Int)) ∧ Hid (L.length ≤ 5 * k) ∧ Hid (Cn wr w.heap.size c1 c2) ∧ Hid (ON wr (w.heap.size + 1) EN s L) ∧ Hid (Below w.heap.size w wr) ∧ Hid (w.heap.size + 1 ≤ wr.heap.size)) (fun _ u _ _ _ _ _ => S.length - (intOf u).toNat)
  case atStart => exact ⟨0, [], 1, 1, 0, Nat.zero_le _, rfl, Pl.start, (show (0 : Int) ≤ 5 * ((0 : Nat) : Int) by decide), (show 0 ≤ 5 * 0 by decide), HC, ON.nil _ _ _, HB, HG⟩
  case round =>
    clear HC HB HG
    obtain ⟨k, L, c1, c2, B, hk, rfl, HPl, HBb, HLl, HC, HO, HB, HGw⟩ := hrel
    by_cases hkl : k < S.length
    · have hi0 : (k : Int) < (S.length : Int) := by omega
      have hk20 : k < 20 := by have := HLs.out; omega
      have hki : (k : Int) < 20 := by omega
      have HRi := Lib.hid (HSa.out _ (List.getElem_mem hkl))
      have hwf := HSw.out _ (List.getElem_mem hkl)
      replace HRi := Lib.hid (HRi.out.keep HB.out)
      obtain ⟨b, o, rfl, p0, p1, p2⟩ := (HSr.out.keep HB.out).get k hkl
      have hix := ixC b o S.length c k (k : Int) rfl hkl
      generalize S[k] = z at *
      obtain ⟨P, Q, rs, ar, cr⟩ := z
      obtain ⟨hP, hQ, hrs⟩ := hwf
      simp only at p0 p1 p2 HRi hP hQ hrs
      have HRc := Lib.hid (fun (w : World) (h : Ri w ar cr rs) => right_law (P : Int) (Q : Int) rs ar cr w h.r hrs)
      have hPQ : P ≤ 255 ∧ Q ≤ 255 := ⟨hP, hQ⟩
      have HPQ := Lib.hid hPQ
      clear hP hQ hrs hPQ
      have HPp := Lib.hid (And.intro p0 (And.intro p1 p2))
      go_wp2_with fail
      clear p0 p1 p2
      refine (HRc.out _ HRi.out).mono ?_
      rintro e w3 ⟨rfl, hb⟩
      replace HB := bel_tr HB hb
      replace HRi := Lib.hid (HRi.out.keep hb)
      replace HC := Lib.hid (HC.out.keep hb)
      replace HO := Lib.hid (HO.out.below hb)
      replace HGw : Hid (w.heap.size + 1 ≤ w3.heap.size) := Nat.le_trans HGw.out hb.size
      have p0 := Un.keep_cell HPp.out.1 hb
      have p1 := Un.keep_cell HPp.out.2.1 hb
      have p2 := Un.keep_cell HPp.out.2.2 hb
      clear hb HRc HPp
      rcases hrt : rightR rs with _ | _
      · clear hrt p0 p1 p2
        go_wp2_with fail
        refine (known_any _).mono ?_
        rintro e w99 ⟨rfl, hb⟩
        replace HB := bel_tr HB hb
        clear hb
        go_wp2_with fail
        go_ret
        exact ⟨rfl, HB.out⟩
      obtain ⟨hr5, hrr⟩ := right_yes hrt
      clear hrt
      obtain ⟨at', ha⟩ : ∃ x, x = P % ((visS L).length + 1) := ⟨_, rfl⟩
      obtain ⟨n, hn⟩ : ∃ x, x = Q % ((visS L).length - at' + 1) := ⟨_, rfl⟩
      have hin : at' + n ≤ (visS L).length := by
        have h1 := Nat.mod_lt P (show 0 < (visS L).length + 1 by omega)
        have h2 := Nat.mod_lt Q (show 0 < (visS L).length - at' + 1 by omega)
        rw [← ha] at h1
        rw [← hn] at h2
        omega
      have hPQ := HPQ.out
      clear HPQ
      by_cases hpr : k % 2 = 0
      · have hpar : ((k : Int)).tmod 2 = 0 := by rw [show (2 : Int) = ((2 : Nat) : Int) from rfl, ← Int.ofNat_tmod]; omega
        clear hpr
        obtain ⟨ok, HPn⟩ := HPl.out.ok1 (by have := HBb.out; omega) (i := at') (n := n) (rs := rs) hin hrr (by omega)
        have HEd := Lib.hid (fun w aL cL h1 h2 => edits_law L 1 c1 P Q rs aL ar cL cr at' n w h1 h2 (by have := HLl.out; omega) hr5 hPQ.1 hPQ.2 ha hn ok)
        have HLn := Lib.hid (edit_len2 (l := L) (d := (1, c1)) (i := at') (n := n) (rs := rs))
        generalize editS L (1, c1) at' n rs = N at *
        have hcc : -9223372036854775808 ≤ c1 ∧ c1 ≤ 9223372036854775000 := by have := HPl.out.c; have := HBb.out; omega
        have hm1 := hcc.1
        have hm2 := hcc.2
        have hrl : (rs.length : Int) ≤ 5 := by omega
        have HPx : Hid (Px w.heap.size b (o + k * 3) 0 c1 (P : Int) (Q : Int) ar rs.length cr w3) := ⟨HC.out.a, p0, p1, p2⟩
        clear ha hn ok hin hrr hr5 hPQ hcc p0 p1 p2
        go_wp2_with fail
        have hb := (Below.refl w3.heap.size w3).drew
        have HBd := bel_tr HB hb
        have HOd := Lib.hid (HO.out.below hb)
        have HRd := Lib.hid (HRi.out.keep hb)
        have HCd := Lib.hid (HC.out.keep hb)
        have HPd := Lib.hid (HPx.out.keep hb)
        have HGd : Hid (w.heap.size + 1 ≤ w3.drew.heap.size) := Nat.le_trans HGw.out hb.size
        clear hb HB HO HRi HC HPx HGw
        refine Sch.wp_region_tn (Px w.heap.size b (o + k * 3) 0 c1 (P : Int) (Q : Int) ar rs.length cr) (.val 0 (.val 1 (.val 2 (.val 3 (.val 4 (.val 5 (.val 6 (.val 7 (.val 8 (.val 9 (.val 10 (.val 11 (.val 12 (.one 13 (.val 14 (.val 15 (.val 16 (.val 17 (.val 18 (.val 19 (.val 20 (.val 21 (.val 22 .done))))))))))))))))))))))) (by kernel_rfl) (by kernel_rfl) HPd.out ?_
        repeat (first
          | (refine Sch.tn_q rfl rfl rfl (fun K hK => ?_); go_big_quiet_op; (first | refine hK _ ?_ | refine ⟨_, fun _ _ => rfl, hK _ ?_⟩); clear hK K)
          | (refine Sch.tn_chk _ _ _ rfl rfl rfl rfl rfl ?_; simp only [Act.put, List.setIfInBounds_toArray, List.set_cons_zero, List.set_cons_succ])
          | (refine Sch.tn_load _ _ _ _ _ rfl rfl rfl rfl (by first | exact Px.lc | exact Px.la) rfl ?_; simp only [Act.put, List.setIfInBounds_toArray, List.set_cons_zero, List.set_cons_succ]))
        generalize w3.drew = w4 at *
        refine Sch.tn_e rfl rfl (fun K hK => ?_)
        go_wp2_with fail
        obtain ⟨aL, cL, rfl, hsl⟩ := on_sl HOd.out
        refine (HEd.out _ _ _ hsl HRd.out).mono ?_
        rintro e w5 ⟨v5, u5, rfl, ho, hb⟩
        have HB5 := bel_tr HBd hb
        have HC5 := Lib.hid (HCd.out.keep hb)
        have HO5 : Hid (ON w5 (w.heap.size + 1) EN v5 N) := ho.mono (fun y hy => Nat.le_trans HGd.out (ho.lt y hy).1)
        have HG5 : Hid (w.heap.size + 1 ≤ w5.heap.size) := Nat.le_trans HGd.out hb.size
        refine hK _ _ (HPd.out.keep hb) ?_
        clear hK K
        clear hb ho hsl HEd HOd HRd HCd HPd HBd HGd
        repeat (first
          | (refine Sch.tn_q rfl rfl rfl (fun K hK => ?_); go_big_quiet_op; (first | refine hK _ ?_ | refine ⟨_, fun _ _ => rfl, hK _ ?_⟩); clear hK K)
          | (refine Sch.tn_chk _ _ _ rfl rfl rfl rfl rfl ?_; simp only [Act.put, List.setIfInBounds_toArray, List.set_cons_zero, List.set_cons_succ]))
        refine Sch.tn_n ?_
        have HC6 := Lib.hid (HC5.out.put0 (c1 + (rs.length : Int)))
        obtain ⟨q0, q1, qf⟩ := HC5.out
        have qf0 := qf 0
        have HO6 := Lib.hid (HO5.out.keep (gb_setCell w5 w.heap.size 0 (.int .i64 (c1 + (rs.length : Int)))) (.inr (fun hy => by have := (HO5.out.lt _ hy).1; omega)))
        have HB6 := Lib.hid (HB5.out.setCell (p := ⟨w.heap.size, 0, none⟩) (Nat.le_refl _) (.int .i64 (c1 + (rs.length : Int))))
        have HG6 : Hid (w.heap.size + 1 ≤ (w5.setCell ⟨w.heap.size, 0, none⟩ (.int .i64 (c1 + (rs.length : Int)))).heap.size) := by show _ ≤ _; rw [size_setCell]; exact HG5.out
        have HBk : Hid (B + (rs.length : Int) ≤ 5 * ((k + 1 : Nat) : Int)) := by have := HBb.out; show _ ≤ _; omega
        have HLk : Hid (N.length ≤ 5 * (k + 1)) := by have := HLn.out; have := HLl.out; show _ ≤ _; omega
        clear HO5 HC5 HB5 HG5 qf
        go_wp2_with fail
        refine ⟨⟨k + 1, N, c1 + (rs.length : Int), c2, B + (rs.length : Int), by omega, by go_num, HPn, HBk, HLk, HC6, HO6, HB6, HG6⟩, ?_⟩
        simp [intOf]; omega
      · have hpar : ((k : Int)).tmod 2 = 1 := by rw [show (2 : Int) = ((2 : Nat) : Int) from rfl, ← Int.ofNat_tmod]; omega
        clear hpr
        obtain ⟨ok, HPn⟩ := HPl.out.ok2 (by have := HBb.out; omega) (i := at') (n := n) (rs := rs) hin hrr (by omega)
        have HEd := Lib.hid (fun w aL cL h1 h2 => edits_law L 2 c2 P Q rs aL ar cL cr at' n w h1 h2 (by have := HLl.out; omega) hr5 hPQ.1 hPQ.2 ha hn ok)
        have HLn := Lib.hid (edit_len2 (l := L) (d := (2, c2)) (i := at') (n := n) (rs := rs))
        generalize editS L (2, c2) at' n rs = N at *
        have hcc : -9223372036854775808 ≤ c2 ∧ c2 ≤ 9223372036854775000 := by have := HPl.out.c; have := HBb.out; omega
        have hm1 := hcc.1
        have hm2 := hcc.2
        have hrl : (rs.length : Int) ≤ 5 := by omega
        have HPx : Hid (Px w.heap.size b (o + k * 3) 1 c2 (P : Int) (Q : Int) ar rs.length cr w3) := ⟨HC.out.b, p0, p1, p2⟩
        clear ha hn ok hin hrr hr5 hPQ hcc p0 p1 p2
        go_wp2_with fail
        have hb := (Below.refl w3.heap.size w3).drew
        have HBd := bel_tr HB hb
        have HOd := Lib.hid (HO.out.below hb)
        have HRd := Lib.hid (HRi.out.keep hb)
        have HCd := Lib.hid (HC.out.keep hb)
        have HPd := Lib.hid (HPx.out.keep hb)
        have HGd : Hid (w.heap.size + 1 ≤ w3.drew.heap.size) := Nat.le_trans HGw.out hb.size
        clear hb HB HO HRi HC HPx HGw
        refine Sch.wp_region_tn (Px w.heap.size b (o + k * 3) 1 c2 (P : Int) (Q : Int) ar rs.length cr) (.val 0 (.val 1 (.val 2 (.val 3 (.val 4 (.val 5 (.val 6 (.val 7 (.val 8 (.val 9 (.val 10 (.val 11 (.val 12 (.one 13 (.val 14 (.val 15 (.val 16 (.val 17 (.val 18 (.val 19 (.val 20 (.val 21 (.val 22 .done))))))))))))))))))))))) (by kernel_rfl) (by kernel_rfl) HPd.out ?_
        repeat (first
          | (refine Sch.tn_q rfl rfl rfl (fun K hK => ?_); go_big_quiet_op; (first | refine hK _ ?_ | refine ⟨_, fun _ _ => rfl, hK _ ?_⟩); clear hK K)
          | (refine Sch.tn_chk _ _ _ rfl rfl rfl rfl rfl ?_; simp only [Act.put, List.setIfInBounds_toArray, List.set_cons_zero, List.set_cons_succ])
          | (refine Sch.tn_load _ _ _ _ _ rfl rfl rfl rfl (by first | exact Px.lc | exact Px.la) rfl ?_; simp only [Act.put, List.setIfInBounds_toArray, List.set_cons_zero, List.set_cons_succ]))
        generalize w3.drew = w4 at *
        refine Sch.tn_e rfl rfl (fun K hK => ?_)
        go_wp2_with fail
        obtain ⟨aL, cL, rfl, hsl⟩ := on_sl HOd.out
        refine (HEd.out _ _ _ hsl HRd.out).mono ?_
        rintro e w5 ⟨v5, u5, rfl, ho, hb⟩
        have HB5 := bel_tr HBd hb
        have HC5 := Lib.hid (HCd.out.keep hb)
        have HO5 : Hid (ON w5 (w.heap.size + 1) EN v5 N) := ho.mono (fun y hy => Nat.le_trans HGd.out (ho.lt y hy).1)
        have HG5 : Hid (w.heap.size + 1 ≤ w5.heap.size) := Nat.le_trans HGd.out hb.size
        refine hK _ _ (HPd.out.keep hb) ?_
        clear hK K
        clear hb ho hsl HEd HOd HRd HCd HPd HBd HGd
        repeat (first
          | (refine Sch.tn_q rfl rfl rfl (fun K hK => ?_); go_big_quiet_op; (first | refine hK _ ?_ | refine ⟨_, fun _ _ => rfl, hK _ ?_⟩); clear hK K)
          | (refine Sch.tn_chk _ _ _ rfl rfl rfl rfl rfl ?_; simp only [Act.put, List.setIfInBounds_toArray, List.set_cons_zero, List.set_cons_succ]))
        refine Sch.tn_n ?_
        have HC6 := Lib.hid (HC5.out.put1 (c2 + (rs.length : Int)))
        obtain ⟨q0, q1, qf⟩ := HC5.out
        have qf0 := qf 1
        have HO6 := Lib.hid (HO5.out.keep (gb_setCell w5 w.heap.size 1 (.int .i64 (c2 + (rs.length : Int)))) (.inr (fun hy => by have := (HO5.out.lt _ hy).1; omega)))
        have HB6 := Lib.hid (HB5.out.setCell (p := ⟨w.heap.size, 1, none⟩) (Nat.le_refl _) (.int .i64 (c2 + (rs.length : Int))))
        have HG6 : Hid (w.heap.size + 1 ≤ (w5.setCell ⟨w.heap.size, 1, none⟩ (.int .i64 (c2 + (rs.length : Int)))).heap.size) := by show _ ≤ _; rw [size_setCell]; exact HG5.out
        have HBk : Hid (B + (rs.length : Int) ≤ 5 * ((k + 1 : Nat) : Int)) := by have := HBb.out; show _ ≤ _; omega
        have HLk : Hid (N.length ≤ 5 * (k + 1)) := by have := HLn.out; have := HLl.out; show _ ≤ _; omega
        clear HO5 HC5 HB5 HG5 qf
        go_wp2_with fail
        refine ⟨⟨k + 1, N, c1, c2 + (rs.length : Int), B + (rs.length : Int), by omega, by go_num, HPn, HBk, HLk, HC6, HO6, HB6, HG6⟩, ?_⟩
        simp [intOf]; omega
    · obtain rfl : k = S.length := by omega
      have hend : ¬ (S.length : Int) < (S.length : Int) := by omega
      go_wp2_with fail
      refine (known_any _).mono ?_
      rintro e w99 ⟨rfl, hb⟩
      replace HB := bel_tr HB hb
      clear hb
      go_wp2_with fail
      go_ret
      exact ⟨rfl, HB.out⟩
end Go.Proofs.YtkcbekebleodaaaGreat.Ed
end
