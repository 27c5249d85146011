/-
  Package join: Join.
-/
import Derived.Test.YtmdebedkljpagaaJnG
namespace Go.Proofs.Ytmdebedkljpagaa.Jn
set_option linter.unusedVariables false
open Go.RowKit V Go.Sort D Nd Qs
attribute [local irreducible] Sch.heldN Sch.stepV Sch.stepE

/-- The join of two states, and its error. -/
def joinP (a b : List Nt) : List Nt × Int := if (validS a && validS b) = true then (if agS a b = true then (joinL a b, 0) else ([], 15)) else ([], 2)
theorem run_mkS (w : World) (c : Nat) (hc : c ≤ 1000000) :
    ∃ w', (Instr.makeSlice 23 (.int .i64 0) (.int .i64 (c : Int))).run Try.prog w = .ok (.slice (some ⟨w.heap.size, 0, none⟩) 0 c) w' ∧ ON w' w.heap.size 44 (.slice (some ⟨w.heap.size, 0, none⟩) 0 c) [] ∧ Below w.heap.size w w' := by
  obtain ⟨i, hi, hz0, hz1, hz2⟩ := G.info_of infoN
  obtain ⟨w', hr, ho, hg⟩ := run_make_own (P := Try.prog) w w.heap.size 23 44 i _ 6 Try.underlying23 hi hz0 hz1 .i64 .i64 c (by rw [hz2]; omega) (by unfold maxLen; omega) (Nat.le_refl _)
  exact ⟨w', hr, ho, (Below.refl _ _).grown hg (Nat.le_refl _) (fun k hk => by cases hk)⟩
/-- How long a slice is. -/
def lenV : Value → Nat
  | .slice _ n _ => n
  | _ => 0
/-- A slice with a list of nodes. -/
structure Sl (w : World) (a : Option Addr) (n c : Nat) (l : List Nt) : Prop where
  n : n = l.length
  r : RowN w a l
  z : a = none → c = 0
  c : l.length ≤ c
theorem Sl.keep {w w' : World} {a : Option Addr} {n c : Nat} {l : List Nt} (h : Sl w a n c l) (hb : Below w.heap.size w w') : Sl w' a n c l := ⟨h.n, h.r.keep hb, h.z, h.c⟩
theorem Sl.tail {w : World} {a : Option Addr} {n c : Nat} {x : Nt} {l : List Nt} (h : Sl w a n c (x :: l)) : Sl w (offN a c 1) (n - 1) (c - 1) l := by
  have h1 := offN_row h.r c 1 h.c (by simp)
  refine ⟨?_, ?_, fun e => ?_, ?_⟩
  · have := h.n; simp at this; omega
  · simpa using h1
  · have := h.z (offN_none e); omega
  · have := h.c; simp at this; omega
theorem Sl.head {w : World} {a : Option Addr} {n c : Nat} {x : Nt} {l : List Nt} (h : Sl w a n c (x :: l)) : ∃ b o, a = some ⟨b, o, none⟩ ∧ Na w b o x := by
  obtain ⟨b, o, e, hn⟩ := na_of h.r 0 (by simp)
  rw [Nat.zero_mul, Nat.add_zero] at hn
  exact ⟨b, o, e, hn⟩
/-- What remains to be zipped. -/
structure Zi (xs ys Z A B : List Nt) : Prop where
  j : Z ++ zipJ A B = zipJ xs ys
  g : zagB A B = zagB xs ys
  a : ∀ x ∈ A, validN x = true
  b : ∀ x ∈ B, validN x = true
  l : Z.length + (A.length + B.length) ≤ 400000
theorem Zi.end1 {xs ys Z A B : List Nt} (h : Zi xs ys Z A B) (e : A = [] ∨ B = []) : Z ++ A ++ B = zipJ xs ys ∧ zagB xs ys = true := by
  rw [← h.j, ← h.g]
  rcases e with rfl | rfl
  · rw [zipJ, zagB]; simp
  · rw [zip_nil, zag_nil]; simp
theorem Zi.left {xs ys Z A B : List Nt} {x y : Nt} (h : Zi xs ys Z (x :: A) (y :: B)) (e : less x.1 y.1 = true) : Zi xs ys (Z ++ [x]) A (y :: B) := by
  have h1 : zipJ (x :: A) (y :: B) = x :: zipJ A (y :: B) := by rw [zipJ, if_neg (less_ne e), if_pos e]
  have h2 : zagB (x :: A) (y :: B) = zagB A (y :: B) := by rw [zagB, if_neg (less_ne e), if_pos e]
  refine ⟨?_, by rw [← h2]; exact h.g, fun z hz => h.a z (by simp [hz]), h.b, ?_⟩
  · rw [← h.j, h1]; simp
  · have := h.l; simp at this ⊢; omega
theorem not_both {a b : Dt} (e : less b a = true) : ¬ less a b = true := fun h => by
  have := less_trans h e
  rw [less_irr] at this
  cases this
theorem Zi.right {xs ys Z A B : List Nt} {x y : Nt} (h : Zi xs ys Z (x :: A) (y :: B)) (e : less y.1 x.1 = true) : Zi xs ys (Z ++ [y]) (x :: A) B := by
  have h1 : zipJ (x :: A) (y :: B) = y :: zipJ (x :: A) B := by rw [zipJ, if_neg (less_ne e).symm, if_neg (not_both e)]
  have h2 : zagB (x :: A) (y :: B) = zagB (x :: A) B := by rw [zagB, if_neg (less_ne e).symm, if_neg (not_both e)]
  refine ⟨?_, by rw [← h2]; exact h.g, h.a, fun z hz => h.b z (by simp [hz]), ?_⟩
  · rw [← h.j, h1]; simp
  · have := h.l; simp at this ⊢; omega
theorem Zi.both {xs ys Z A B : List Nt} {x y : Nt} (h : Zi xs ys Z (x :: A) (y :: B)) (e : x.1 = y.1) : (agreeN x y = false → (mergeN x y).2 = 15 ∧ zagB xs ys = false) ∧ (agreeN x y = true → (mergeN x y).2 = 0 ∧ Zi xs ys (Z ++ [(mergeN x y).1]) A B) := by
  have hv : (validN x && validN y) = true := by rw [h.a x (by simp), h.b y (by simp)]; rfl
  have h2 : zagB (x :: A) (y :: B) = (agreeN x y && zagB A B) := by rw [zagB, if_pos e]
  constructor
  · intro hg
    refine ⟨?_, by rw [← h.g, h2, hg]; rfl⟩
    rw [merge_def, if_pos hv, if_neg (by rw [hg]; simp)]
  · intro hg
    have hm : mergeN x y = (if deadN y = true then y else x, 0) := by rw [merge_def, if_pos hv, if_pos hg]
    have h1 : zipJ (x :: A) (y :: B) = (mergeN x y).1 :: zipJ A B := by
      rw [zipJ, if_pos e, hm]
      simp only [deadN, decide_eq_true_eq]
    refine ⟨by rw [hm], ?_, ?_, fun z hz => h.a z (by simp [hz]), fun z hz => h.b z (by simp [hz]), ?_⟩
    · rw [← h.j, h1]; simp
    · rw [← h.g, h2, hg]; rfl
    · have := h.l; simp at this ⊢; omega
section
variable {b1 o1 b2 o2 : Nat} {n m : Nt}
theorem Vab.ld : ∀ w, Vab b1 o1 b2 o2 n m w → (Instr.loadAt 42 (.pointer (some ⟨b1, o1, none⟩))).run Try.prog w = .ok (dv n.1) w := fun w k => k.1.loadD
theorem Vab.lmd : ∀ w, Vab b1 o1 b2 o2 n m w → (Instr.loadAt 42 (.pointer (some ⟨b2, o2, none⟩))).run Try.prog w = .ok (dv m.1) w := fun w k => k.2.loadD
end
theorem nb_own {w w' : World} {v : Value} {g : Nat} {n : Nt} (h : Nb w g n) (hg : w.grownBy w' v.ownBlock) (hne : ∀ k, v.ownBlock = some k → k ≠ g) : Nb w' g n := by
  have e : w'.heap[g]? = w.heap[g]? := hg.block g h.lt (fun e => hne g e.symm rfl)
  obtain ⟨h0, h1, h2, h3, h4, h5⟩ := h
  exact ⟨(World.cell?_of_block (a := ⟨g, 0, none⟩) e).trans h0, (World.cell?_of_block (a := ⟨g, 1, none⟩) e).trans h1, (World.cell?_of_block (a := ⟨g, 2, none⟩) e).trans h2, (World.cell?_of_block (a := ⟨g, 3, none⟩) e).trans h3, (World.cell?_of_block (a := ⟨g, 4, none⟩) e).trans h4, (World.cell?_of_block (a := ⟨g, 5, none⟩) e).trans h5⟩
set_option maxRecDepth 100000 in
set_option maxHeartbeats 8000000 in
theorem join_any (xs ys : List Nt) (a b : Option Addr) (c d : Nat) (w : World) (hx : RowN w a xs) (hna : a = none → c = 0) (hlc : xs.length ≤ c) (hy : RowN w b ys) (hnb : b = none → d = 0) (hld : ys.length ≤ d) (hlx : xs.length ≤ 200000) (hly : ys.length ≤ 200000) :
    Calls Try.prog 19 #[.slice a xs.length c, .slice b ys.length d] w fun e w' => ∃ v, e = .returned (.tuple #[v, .int .i64 (joinP xs ys).2]) ∧ ON w' w.heap.size 44 v (joinP xs ys).1 ∧ Below w.heap.size w w' := by
  have HX := Lib.hid (show Sl w a xs.length c xs from ⟨rfl, hx, hna, hlc⟩)
  have HY := Lib.hid (show Sl w b ys.length d ys from ⟨rfl, hy, hnb, hld⟩)
  have HV := Lib.hid (fun w h => jvalid_any xs a c w h (by omega))
  have HU := Lib.hid (fun w h => jvalid_any ys b d w h (by omega))
  have HE : Hid ((validS xs = false → joinP xs ys = ([], 2)) ∧ (validS ys = false → joinP xs ys = ([], 2)) ∧ (validS xs = true → validS ys = true → (zagB xs ys = false → joinP xs ys = ([], 15)) ∧ (zagB xs ys = true → joinP xs ys = (zipJ xs ys, 0)) ∧ Zi xs ys [] xs ys)) := by
    unfold joinP
    refine ⟨fun h => by rw [h]; rfl, fun h => by rw [h, Bool.and_false]; rfl, fun h1 h2 => ?_⟩
    have hs1 := (validS_iff.1 h1).2
    have hs2 := (validS_iff.1 h2).2
    rw [h1, h2, zag_ag xs ys hs1 hs2]
    refine ⟨fun h => by rw [h]; rfl, fun h => ?_, ⟨rfl, rfl, (validS_iff.1 h1).1, (validS_iff.1 h2).1, by simp; omega⟩⟩
    rw [if_pos (show (true && true) = true from rfl), if_pos h, zip_join h1 h2 h]
  have hli : (xs.length : Int) ≤ 200000 := by omega
  have hli2 : (ys.length : Int) ≤ 200000 := by omega
  have HLx := Lib.hid hlx
  have HLy := Lib.hid hly
  clear hx hna hlc hy hnb hld hlx hly
  generalize joinP xs ys = R0 at *
  obtain ⟨vx, hvx⟩ : ∃ t, t = validS xs := ⟨_, rfl⟩
  obtain ⟨vy, hvy⟩ : ∃ t, t = validS ys := ⟨_, rfl⟩
  rw [← hvx] at HV HE
  rw [← hvy] at HU HE
  clear hvx hvy
  go_enter Try.func19, Try.ntmps19
  go_wp2_with fail
  refine (HV.out _ HX.out.r).mono ?_
  rintro e w2 ⟨rfl, hb⟩
  have HB := Lib.hid hb
  clear hb HV
  rcases vx with _ | _
  · have HN := Lib.hid (HE.out.1 rfl)
    clear HE
    go_wp2_with fail
    go_ret2
    exact ⟨.slice none 0 0, by rw [HN.out]; rfl, by rw [HN.out]; exact ON.nil _ _ _, HB.out⟩
  go_wp2_with fail
  refine (HU.out _ (HY.out.keep HB.out).r).mono ?_
  rintro e w3 ⟨rfl, hb⟩
  replace HB := bel_tr HB hb
  clear hb HU
  rcases vy with _ | _
  · have HN := Lib.hid (HE.out.2.1 rfl)
    clear HE
    go_wp2_with fail
    go_ret2
    exact ⟨.slice none 0 0, by rw [HN.out]; rfl, by rw [HN.out]; exact ON.nil _ _ _, HB.out⟩
  have HC := Lib.hid (HE.out.2.2 (by first | exact rfl | trivial) (by first | exact rfl | trivial)).1
  have HD := Lib.hid (HE.out.2.2 (by first | exact rfl | trivial) (by first | exact rfl | trivial)).2.1
  have HZ := Lib.hid (HE.out.2.2 (by first | exact rfl | trivial) (by first | exact rfl | trivial)).2.2
  clear HE
  obtain ⟨w4, hmk, hO, hB4⟩ := run_mkS w3 (xs.length + ys.length) (by have := HLx.out; have := HLy.out; omega)
  rw [Int.natCast_add] at hmk
  have HO : Hid (ON w4 w.heap.size 44 (.slice (some ⟨w3.heap.size, 0, none⟩) 0 (xs.length + ys.length)) []) := hO.mono fun x hx => Nat.le_trans HB.out.size (hO.lt x hx).1
  replace HB := bel_tr HB hB4
  clear hO hB4
  generalize w3.heap.size = g3 at *
  have hw2 := wrap_nat (show ((xs.length + ys.length : Nat) : Int) ≤ 140737488355328 by omega)
  rw [Int.natCast_add] at hw2
  obtain ⟨nx, hnx⟩ : ∃ nx, nx = xs.length := ⟨_, rfl⟩
  obtain ⟨ny, hny⟩ : ∃ ny, ny = ys.length := ⟨_, rfl⟩
  rw [← hnx] at HX hmk hw2 HO hli HLx ⊢
  rw [← hny] at HY hmk hw2 HO hli2 HLy ⊢
  clear hnx hny
  go_wp2_with fail
  go_loopw [0, 1, 6, 7, 8, 9, 62, 73] (fun av bv v _ _ _ _ _ wr => ∃ (A B Z : List Nt) (aa bb : Option Addr) (n m ca cb : Nat), av = .slice aa n ca ∧ bv = .slice bb m cb ∧ Hid (Sl w aa n ca A) ∧ Hid (Sl w bb m cb B) ∧ Hid (Below w.heap.size w wr) ∧ Hid (ON wr w.heap.size 44 v Z) ∧ Hid (Zi xs ys Z A B)) (fun av bv _ _ _ _ _ _ _ => lenV av + lenV bv)
  case atStart => exact ⟨xs, ys, [], a, b, nx, ny, c, d, rfl, rfl, HX, HY, HB, HO, HZ⟩
  case round =>
    clear HX HY HB HO HZ hmk hw2
    obtain ⟨A, B, Z, aa, bb, n, m, ca, cb, rfl, rfl, HX, HY, HB, HO, HZ⟩ := hrel
    have HNx := Lib.hid HX.out.n
    have HNy := Lib.hid HY.out.n
    by_cases hEnd : A = [] ∨ B = []
    · have HEn := Lib.hid (HZ.out.end1 hEnd)
      have HLn := Lib.hid HZ.out.l
      have HIs := Lib.hid (HD.out HEn.out.2)
      have HXr := Lib.hid (HX.out.keep HB.out)
      have HYr := Lib.hid HY.out
      rcases Nat.eq_zero_or_pos n with h0 | hn
      · subst h0
        clear hEnd HZ HC HD HX HY HNx HNy
        go_wp2_with (at_builtin; refine wpList_appN rfl _ _ _ rfl Try.underlying23 infoN _ Z rfl HO.out aa A ca _ HXr.out.n rfl HXr.out.r HXr.out.z (by have := HLn.out; omega) HB.out.size ?_)
        intro v8 w8 ho hg _
        have HB8 := Lib.hid (HB.out.grown hg HB.out.size (fun k hk => (HO.out.lt k hk).1))
        have HO8 := Lib.hid ho
        have HY8 := Lib.hid (HYr.out.keep HB8.out)
        clear ho hg HO HB HXr HYr
        go_wp2_with (at_builtin; refine wpList_appN rfl _ _ _ rfl Try.underlying23 infoN v8 (Z ++ A) rfl HO8.out bb B cb _ HY8.out.n rfl HY8.out.r HY8.out.z (by have := HLn.out; rw [List.length_append]; omega) HB8.out.size ?_)
        intro v9 w9 ho hg _
        have HB9 := Lib.hid (HB8.out.grown hg HB8.out.size (fun k hk => (HO8.out.lt k hk).1))
        have HO9 := Lib.hid ho
        clear ho hg HO8 HB8 HY8
        go_wp2_with fail
        go_ret2
        rw [HIs.out, ← HEn.out.1]
        exact ⟨v9, rfl, by rw [List.append_assoc]; exact HO9.out, HB9.out⟩
      · have hn0 : (0 : Int) < (n : Int) := by omega
        have hm0 : m = 0 := by
          rcases hEnd with h | h
          · have := HNx.out; rw [h] at this; simp at this; omega
          · have := HNy.out; rw [h] at this; simpa using this
        subst hm0
        clear hEnd HZ HC HD HX HY HNx HNy hn
        go_wp2_with (at_builtin; refine wpList_appN rfl _ _ _ rfl Try.underlying23 infoN _ Z rfl HO.out aa A ca _ HXr.out.n rfl HXr.out.r HXr.out.z (by have := HLn.out; omega) HB.out.size ?_)
        intro v8 w8 ho hg _
        have HB8 := Lib.hid (HB.out.grown hg HB.out.size (fun k hk => (HO.out.lt k hk).1))
        have HO8 := Lib.hid ho
        have HY8 := Lib.hid (HYr.out.keep HB8.out)
        clear ho hg HO HB HXr HYr
        go_wp2_with (at_builtin; refine wpList_appN rfl _ _ _ rfl Try.underlying23 infoN v8 (Z ++ A) rfl HO8.out bb B cb _ HY8.out.n rfl HY8.out.r HY8.out.z (by have := HLn.out; rw [List.length_append]; omega) HB8.out.size ?_)
        intro v9 w9 ho hg _
        have HB9 := Lib.hid (HB8.out.grown hg HB8.out.size (fun k hk => (HO8.out.lt k hk).1))
        have HO9 := Lib.hid ho
        clear ho hg HO8 HB8 HY8
        go_wp2_with fail
        go_ret2
        rw [HIs.out, ← HEn.out.1]
        exact ⟨v9, rfl, by rw [List.append_assoc]; exact HO9.out, HB9.out⟩
    have hEx : ∃ x A', A = x :: A' := by
      rcases A with _ | ⟨x, A'⟩
      · exact absurd (.inl rfl) hEnd
      · exact ⟨x, A', rfl⟩
    have hEy : ∃ y B', B = y :: B' := by
      rcases B with _ | ⟨y, B'⟩
      · exact absurd (.inr rfl) hEnd
      · exact ⟨y, B', rfl⟩
    obtain ⟨x, A, rfl⟩ := hEx
    obtain ⟨y, B, rfl⟩ := hEy
    clear hEnd
    have hn0 : (0 : Int) < (n : Int) := by have := HNx.out; simp at this; omega
    have hm0 : (0 : Int) < (m : Int) := by have := HNy.out; simp at this; omega
    obtain ⟨b1, o1, rfl, hnx⟩ := HX.out.head
    obtain ⟨b2, o2, rfl, hny⟩ := HY.out.head
    have hd := (Below.refl wr.heap.size wr).drew
    have HN1 := Lib.hid hnx
    have HN2 := Lib.hid hny
    have HLn := Lib.hid HZ.out.l
    have HK : Hid (Vab b1 o1 b2 o2 x y wr.drew) := ⟨(hnx.keep HB.out).keep hd, (hny.keep HB.out).keep hd⟩
    have HBd := bel_tr HB hd
    have HOd := Lib.hid (HO.out.below hd)
    have hix := ixN0 b1 o1 n ca (by omega)
    have hix2 := ixN0 b2 o2 m cb (by omega)
    have hs1 : ∀ wx : World, (Instr.slice 23 (.slice (some ⟨b1, o1, none⟩) n ca) (some (.int .i64 1)) none none).run Try.prog wx = .ok (.slice (offN (some ⟨b1, o1, none⟩) ca 1) (n - 1) (ca - 1)) wx := cut_hiN _ n ca 1 (n - 1) (by omega) (by have := HX.out.n; have := HX.out.c; omega)
    have hs2 : ∀ wx : World, (Instr.slice 23 (.slice (some ⟨b2, o2, none⟩) m cb) (some (.int .i64 1)) none none).run Try.prog wx = .ok (.slice (offN (some ⟨b2, o2, none⟩) cb 1) (m - 1) (cb - 1)) wx := cut_hiN _ m cb 1 (m - 1) (by omega) (by have := HY.out.n; have := HY.out.c; omega)
    have HCp := Lib.hid (fun w => compare_any x.1 y.1 w)
    have HLx1 : Hid (n - 1 < n) := by show _ < _; omega
    have HLy1 : Hid (m - 1 < m) := by show _ < _; omega
    have HX1 := Lib.hid HX.out.tail
    have HY1 := Lib.hid HY.out.tail
    clear hnx hny hd HB HO HNx HNy
    obtain ⟨r, hr⟩ : ∃ r, r = cmpR x.1 y.1 := ⟨_, rfl⟩
    rw [← hr] at HCp
    have HR := Lib.hid hr
    clear hr
    go_wp2_with fail
    refine Sch.wp_region_tn (Vab b1 o1 b2 o2 x y) (.val 0 (.val 1 (.val 2 (.val 3 (.val 4 (.val 5 (.val 6 (.val 7 (.one 8 (.val 9 .done)))))))))) (by kernel_rfl) (by kernel_rfl) HK.out ?_
    repeat (first
      | (refine Sch.tn_q rfl rfl rfl (fun K hK => ?_); go_big_quiet_op; (first | refine hK _ ?_ | refine ⟨_, fun _ _ => rfl, hK _ ?_⟩); clear hK K)
      | (refine Sch.tn_chk _ _ _ rfl rfl rfl rfl rfl ?_; simp only [Act.put, List.setIfInBounds_toArray, List.set_cons_zero, List.set_cons_succ])
      | (refine Sch.tn_load _ _ _ _ _ rfl rfl rfl rfl (by first | exact Vab.ld | exact Vab.lmd) rfl ?_; simp only [Act.put, List.setIfInBounds_toArray, List.set_cons_zero, List.set_cons_succ]))
    generalize wr.drew = w5 at *
    refine Sch.tn_e rfl rfl (fun K hK => ?_)
    go_wp2_with fail
    refine (HCp.out _).mono ?_
    rintro e w6 ⟨rfl, hl⟩
    have hb := hl.bel
    replace HK := Lib.hid (HK.out.keep hb)
    have HB := bel_tr HBd hb
    have HO := Lib.hid (HOd.out.below hb)
    clear hl hb HBd HOd HCp
    refine hK _ _ HK.out ?_
    clear hK K
    repeat (first
      | (refine Sch.tn_q rfl rfl rfl (fun K hK => ?_); go_big_quiet_op; (first | refine hK _ ?_ | refine ⟨_, fun _ _ => rfl, hK _ ?_⟩); clear hK K)
      | (refine Sch.tn_chk _ _ _ rfl rfl rfl rfl rfl ?_; simp only [Act.put, List.setIfInBounds_toArray, List.set_cons_zero, List.set_cons_succ])
      | (refine Sch.tn_load _ _ _ _ _ rfl rfl rfl rfl (by first | exact Vab.ld | exact Vab.lmd) rfl ?_; simp only [Act.put, List.setIfInBounds_toArray, List.set_cons_zero, List.set_cons_succ]))
    refine Sch.tn_n ?_
    rcases hc : less x.1 y.1 with _ | _
    · rcases hc2 : less y.1 x.1 with _ | _
      · have he : x.1 = y.1 := less_tri hc hc2
        have hr0 : r = 0 := by rw [HR.out]; exact cmp_zero.2 he
        subst hr0
        have HEb := Lib.hid (HZ.out.both he)
        clear hc hc2 he HR HZ
        have HMg := Lib.hid (fun w => merge_any x y w)
        obtain ⟨M, hM⟩ : ∃ M, M = mergeN x y := ⟨_, rfl⟩
        rw [← hM] at HMg HEb
        clear hM
        obtain ⟨M1, M2⟩ := M
        obtain ⟨ag, hag⟩ : ∃ ag, ag = agreeN x y := ⟨_, rfl⟩
        rw [← hag] at HEb
        clear hag
        rcases ag with _ | _
        · have h15 : M2 = 15 := (HEb.out.1 rfl).1
          have HN := Lib.hid (HC.out (HEb.out.1 rfl).2)
          subst h15
          clear HEb
          have hd := (Below.refl w6.heap.size w6).drew
          have HK7 := Lib.hid (HK.out.keep hd)
          have HB7 := bel_tr HB hd
          have HO7 := Lib.hid (HO.out.below hd)
          clear hd HK HB HO
          go_wp2_with fail
          refine Sch.wp_region_tn (Vab b1 o1 b2 o2 x y) (.val 0 (.val 1 (.val 2 (.val 3 (.val 4 (.val 5 (.two 6 (.val 7 (.val 8 (.val 9 (.one 10 (.one 11 (.val 12 .done)))))) 10 (.one 6 (.val 7 (.val 8 (.val 9 (.one 11 (.val 12 .done))))))))))))) (by kernel_rfl) (by kernel_rfl) HK7.out ?_
          repeat (first
            | (refine Sch.tn_q rfl rfl rfl (fun K hK => ?_); go_big_quiet_op; (first | refine hK _ ?_ | refine ⟨_, fun _ _ => rfl, hK _ ?_⟩); clear hK K)
            | (refine Sch.tn_chk _ _ _ rfl rfl rfl rfl rfl ?_; simp only [Act.put, List.setIfInBounds_toArray, List.set_cons_zero, List.set_cons_succ])
            | (refine Sch.tn_load _ _ _ _ _ rfl rfl rfl rfl (by first | exact Vab.ln | exact Vab.lm) rfl ?_; simp only [Act.put, List.setIfInBounds_toArray, List.set_cons_zero, List.set_cons_succ]))
          generalize w6.drew = w7 at *
          refine Sch.tn_two ?_ ?_
          · skip
            refine Sch.tn_e rfl rfl (fun K hK => ?_)
            go_wp2_with fail
            refine (HMg.out _).mono ?_
            rintro e w8 ⟨rfl, hb⟩
            have HB8 := bel_tr HB7 hb
            have HO8 := Lib.hid (HO7.out.below hb)
            have HK8 := Lib.hid (HK7.out.keep hb)
            clear hb
            refine hK _ _ HK8.out ?_
            clear hK K
            repeat (first
              | (refine Sch.tn_q rfl rfl rfl (fun K hK => ?_); go_big_quiet_op; (first | refine hK _ ?_ | refine ⟨_, fun _ _ => rfl, hK _ ?_⟩); clear hK K)
              | (refine Sch.tn_chk _ _ _ rfl rfl rfl rfl rfl ?_; simp only [Act.put, List.setIfInBounds_toArray, List.set_cons_zero, List.set_cons_succ])
              | (refine Sch.tn_load _ _ _ _ _ rfl rfl rfl rfl (by first | exact Vab.ln | exact Vab.lm) rfl ?_; simp only [Act.put, List.setIfInBounds_toArray, List.set_cons_zero, List.set_cons_succ]))
            have hz := Zb.new w8
            have hb := bel_box w8 (.cells #[.int .i64 0, .int .i64 0, .int .i64 0, .int .i64 0, .int .i64 0, .int .i32 0] 44)
            have HB9 := bel_tr HB8 hb
            have HO9 := Lib.hid (HO8.out.below hb)
            have HK9 := Lib.hid (HK8.out.keep hb)
            have HLt : Hid (b1 < w8.heap.size ∧ b2 < w8.heap.size) := HK8.out.lt
            have HGe : Hid (w.heap.size ≤ w8.heap.size) := HB8.out.size
            have HOl : Hid (∀ k, Value.ownBlock u6 = some k → k ≠ w8.heap.size) := fun k hk e => by have := (HO8.out.lt k hk).2; omega
            refine Sch.tn_e rfl rfl (fun K hK => ?_)
            go_wp2_with fail
            refine hK _ (w8.alloc (.cells #[.int .i64 0, .int .i64 0, .int .i64 0, .int .i64 0, .int .i64 0, .int .i32 0] 44)) HK9.out ?_
            clear hK K hb
            have HZ9 := Lib.hid hz
            clear hz
            generalize w8.alloc (.cells #[.int .i64 0, .int .i64 0, .int .i64 0, .int .i64 0, .int .i64 0, .int .i32 0] 44) = w9 at *
            generalize w8.heap.size = g at *
            obtain ⟨⟨z0, z1, z2, z3, z4, z5⟩, hf⟩ := HZ9.out
            have f0 := hf 0
            have f1 := hf 1
            have f2 := hf 2
            have f3 := hf 3
            have f4 := hf 4
            have f5 := hf 5
            clear hf
            refine Sch.tn_e rfl rfl (fun K hK => ?_)
            go_wp2_with fail
            refine hK _ (Nd.putN w9 g M1) (HK9.out.put HLt.out.1 HLt.out.2 M1) ?_
            clear hK K z0 z1 z2 z3 z4 z5 f0 f1 f2 f3 f4 f5
            have HB14 := Lib.hid (Nd.putN_below HB9.out HGe.out M1)
            have HO14 := Lib.hid (HO9.out.keep (Jn.gb_putN w9 g M1) (by rcases hob : Value.ownBlock u6 with _ | k; exact .inl rfl; exact .inr (by have := HOl.out k hob; simp; omega)))
            have HX14 := Lib.hid (Qs.put_nb HZ9.out M1)
            generalize Nd.putN w9 g M1 = w14 at *
            repeat (first
              | (refine Sch.tn_q rfl rfl rfl (fun K hK => ?_); go_big_quiet_op; (first | refine hK _ ?_ | refine ⟨_, fun _ _ => rfl, hK _ ?_⟩); clear hK K)
              | (refine Sch.tn_chk _ _ _ rfl rfl rfl rfl rfl ?_; simp only [Act.put, List.setIfInBounds_toArray, List.set_cons_zero, List.set_cons_succ])
              | (refine Sch.tn_load _ _ _ _ _ rfl rfl rfl rfl (by first | exact Vab.ln | exact Vab.lm) rfl ?_; simp only [Act.put, List.setIfInBounds_toArray, List.set_cons_zero, List.set_cons_succ]))
            refine Sch.tn_n ?_
            go_wp2_with fail
            go_ret2
            exact ⟨.slice none 0 0, by rw [HN.out]; rfl, by rw [HN.out]; exact ON.nil _ _ _, HB14.out⟩
          · skip
            have hz := Zb.new w7
            have hb := bel_box w7 (.cells #[.int .i64 0, .int .i64 0, .int .i64 0, .int .i64 0, .int .i64 0, .int .i32 0] 44)
            have HB8 := bel_tr HB7 hb
            have HO8 := Lib.hid (HO7.out.below hb)
            have HK8 := Lib.hid (HK7.out.keep hb)
            have HLt : Hid (b1 < w7.heap.size ∧ b2 < w7.heap.size) := HK7.out.lt
            have HGe : Hid (w.heap.size ≤ w7.heap.size) := HB7.out.size
            have HOl : Hid (∀ k, Value.ownBlock u6 = some k → k ≠ w7.heap.size) := fun k hk e => by have := (HO7.out.lt k hk).2; omega
            refine Sch.tn_e rfl rfl (fun K hK => ?_)
            go_wp2_with fail
            refine hK _ (w7.alloc (.cells #[.int .i64 0, .int .i64 0, .int .i64 0, .int .i64 0, .int .i64 0, .int .i32 0] 44)) HK8.out ?_
            clear hK K hb
            have HZ8 := Lib.hid hz
            clear hz
            generalize w7.alloc (.cells #[.int .i64 0, .int .i64 0, .int .i64 0, .int .i64 0, .int .i64 0, .int .i32 0] 44) = w8 at *
            generalize w7.heap.size = g at *
            refine Sch.tn_e rfl rfl (fun K hK => ?_)
            go_wp2_with fail
            refine (HMg.out _).mono ?_
            rintro e w9 ⟨rfl, hb⟩
            have HB9 := bel_tr HB8 hb
            have HO9 := Lib.hid (HO8.out.below hb)
            have HK9 := Lib.hid (HK8.out.keep hb)
            have HZ9 := Lib.hid (HZ8.out.keep hb)
            clear hb
            refine hK _ _ HK9.out ?_
            clear hK K
            repeat (first
              | (refine Sch.tn_q rfl rfl rfl (fun K hK => ?_); go_big_quiet_op; (first | refine hK _ ?_ | refine ⟨_, fun _ _ => rfl, hK _ ?_⟩); clear hK K)
              | (refine Sch.tn_chk _ _ _ rfl rfl rfl rfl rfl ?_; simp only [Act.put, List.setIfInBounds_toArray, List.set_cons_zero, List.set_cons_succ])
              | (refine Sch.tn_load _ _ _ _ _ rfl rfl rfl rfl (by first | exact Vab.ln | exact Vab.lm) rfl ?_; simp only [Act.put, List.setIfInBounds_toArray, List.set_cons_zero, List.set_cons_succ]))
            obtain ⟨⟨z0, z1, z2, z3, z4, z5⟩, hf⟩ := HZ9.out
            have f0 := hf 0
            have f1 := hf 1
            have f2 := hf 2
            have f3 := hf 3
            have f4 := hf 4
            have f5 := hf 5
            clear hf
            refine Sch.tn_e rfl rfl (fun K hK => ?_)
            go_wp2_with fail
            refine hK _ (Nd.putN w9 g M1) (HK9.out.put HLt.out.1 HLt.out.2 M1) ?_
            clear hK K z0 z1 z2 z3 z4 z5 f0 f1 f2 f3 f4 f5
            have HB14 := Lib.hid (Nd.putN_below HB9.out HGe.out M1)
            have HO14 := Lib.hid (HO9.out.keep (Jn.gb_putN w9 g M1) (by rcases hob : Value.ownBlock u6 with _ | k; exact .inl rfl; exact .inr (by have := HOl.out k hob; simp; omega)))
            have HX14 := Lib.hid (Qs.put_nb HZ9.out M1)
            generalize Nd.putN w9 g M1 = w14 at *
            repeat (first
              | (refine Sch.tn_q rfl rfl rfl (fun K hK => ?_); go_big_quiet_op; (first | refine hK _ ?_ | refine ⟨_, fun _ _ => rfl, hK _ ?_⟩); clear hK K)
              | (refine Sch.tn_chk _ _ _ rfl rfl rfl rfl rfl ?_; simp only [Act.put, List.setIfInBounds_toArray, List.set_cons_zero, List.set_cons_succ])
              | (refine Sch.tn_load _ _ _ _ _ rfl rfl rfl rfl (by first | exact Vab.ln | exact Vab.lm) rfl ?_; simp only [Act.put, List.setIfInBounds_toArray, List.set_cons_zero, List.set_cons_succ]))
            refine Sch.tn_n ?_
            go_wp2_with fail
            go_ret2
            exact ⟨.slice none 0 0, by rw [HN.out]; rfl, by rw [HN.out]; exact ON.nil _ _ _, HB14.out⟩
        · have h15 : M2 = 0 := (HEb.out.2 rfl).1
          have HN := Lib.hid (HEb.out.2 rfl).2
          subst h15
          clear HEb
          have hd := (Below.refl w6.heap.size w6).drew
          have HK7 := Lib.hid (HK.out.keep hd)
          have HB7 := bel_tr HB hd
          have HO7 := Lib.hid (HO.out.below hd)
          clear hd HK HB HO
          go_wp2_with fail
          refine Sch.wp_region_tn (Vab b1 o1 b2 o2 x y) (.val 0 (.val 1 (.val 2 (.val 3 (.val 4 (.val 5 (.two 6 (.val 7 (.val 8 (.val 9 (.one 10 (.one 11 (.val 12 .done)))))) 10 (.one 6 (.val 7 (.val 8 (.val 9 (.one 11 (.val 12 .done))))))))))))) (by kernel_rfl) (by kernel_rfl) HK7.out ?_
          repeat (first
            | (refine Sch.tn_q rfl rfl rfl (fun K hK => ?_); go_big_quiet_op; (first | refine hK _ ?_ | refine ⟨_, fun _ _ => rfl, hK _ ?_⟩); clear hK K)
            | (refine Sch.tn_chk _ _ _ rfl rfl rfl rfl rfl ?_; simp only [Act.put, List.setIfInBounds_toArray, List.set_cons_zero, List.set_cons_succ])
            | (refine Sch.tn_load _ _ _ _ _ rfl rfl rfl rfl (by first | exact Vab.ln | exact Vab.lm) rfl ?_; simp only [Act.put, List.setIfInBounds_toArray, List.set_cons_zero, List.set_cons_succ]))
          generalize w6.drew = w7 at *
          refine Sch.tn_two ?_ ?_
          · skip
            refine Sch.tn_e rfl rfl (fun K hK => ?_)
            go_wp2_with fail
            refine (HMg.out _).mono ?_
            rintro e w8 ⟨rfl, hb⟩
            have HB8 := bel_tr HB7 hb
            have HO8 := Lib.hid (HO7.out.below hb)
            have HK8 := Lib.hid (HK7.out.keep hb)
            clear hb
            refine hK _ _ HK8.out ?_
            clear hK K
            repeat (first
              | (refine Sch.tn_q rfl rfl rfl (fun K hK => ?_); go_big_quiet_op; (first | refine hK _ ?_ | refine ⟨_, fun _ _ => rfl, hK _ ?_⟩); clear hK K)
              | (refine Sch.tn_chk _ _ _ rfl rfl rfl rfl rfl ?_; simp only [Act.put, List.setIfInBounds_toArray, List.set_cons_zero, List.set_cons_succ])
              | (refine Sch.tn_load _ _ _ _ _ rfl rfl rfl rfl (by first | exact Vab.ln | exact Vab.lm) rfl ?_; simp only [Act.put, List.setIfInBounds_toArray, List.set_cons_zero, List.set_cons_succ]))
            have hz := Zb.new w8
            have hb := bel_box w8 (.cells #[.int .i64 0, .int .i64 0, .int .i64 0, .int .i64 0, .int .i64 0, .int .i32 0] 44)
            have HB9 := bel_tr HB8 hb
            have HO9 := Lib.hid (HO8.out.below hb)
            have HK9 := Lib.hid (HK8.out.keep hb)
            have HLt : Hid (b1 < w8.heap.size ∧ b2 < w8.heap.size) := HK8.out.lt
            have HGe : Hid (w.heap.size ≤ w8.heap.size) := HB8.out.size
            have HOl : Hid (∀ k, Value.ownBlock u6 = some k → k ≠ w8.heap.size) := fun k hk e => by have := (HO8.out.lt k hk).2; omega
            refine Sch.tn_e rfl rfl (fun K hK => ?_)
            go_wp2_with fail
            refine hK _ (w8.alloc (.cells #[.int .i64 0, .int .i64 0, .int .i64 0, .int .i64 0, .int .i64 0, .int .i32 0] 44)) HK9.out ?_
            clear hK K hb
            have HZ9 := Lib.hid hz
            clear hz
            generalize w8.alloc (.cells #[.int .i64 0, .int .i64 0, .int .i64 0, .int .i64 0, .int .i64 0, .int .i32 0] 44) = w9 at *
            generalize w8.heap.size = g at *
            obtain ⟨⟨z0, z1, z2, z3, z4, z5⟩, hf⟩ := HZ9.out
            have f0 := hf 0
            have f1 := hf 1
            have f2 := hf 2
            have f3 := hf 3
            have f4 := hf 4
            have f5 := hf 5
            clear hf
            refine Sch.tn_e rfl rfl (fun K hK => ?_)
            go_wp2_with fail
            refine hK _ (Nd.putN w9 g M1) (HK9.out.put HLt.out.1 HLt.out.2 M1) ?_
            clear hK K z0 z1 z2 z3 z4 z5 f0 f1 f2 f3 f4 f5
            have HB14 := Lib.hid (Nd.putN_below HB9.out HGe.out M1)
            have HO14 := Lib.hid (HO9.out.keep (Jn.gb_putN w9 g M1) (by rcases hob : Value.ownBlock u6 with _ | k; exact .inl rfl; exact .inr (by have := HOl.out k hob; simp; omega)))
            have HX14 := Lib.hid (Qs.put_nb HZ9.out M1)
            generalize Nd.putN w9 g M1 = w14 at *
            repeat (first
              | (refine Sch.tn_q rfl rfl rfl (fun K hK => ?_); go_big_quiet_op; (first | refine hK _ ?_ | refine ⟨_, fun _ _ => rfl, hK _ ?_⟩); clear hK K)
              | (refine Sch.tn_chk _ _ _ rfl rfl rfl rfl rfl ?_; simp only [Act.put, List.setIfInBounds_toArray, List.set_cons_zero, List.set_cons_succ])
              | (refine Sch.tn_load _ _ _ _ _ rfl rfl rfl rfl (by first | exact Vab.ln | exact Vab.lm) rfl ?_; simp only [Act.put, List.setIfInBounds_toArray, List.set_cons_zero, List.set_cons_succ]))
            refine Sch.tn_n ?_
            have hd := (Below.refl w14.heap.size w14).drew
            have HKs : Hid (Kb6 g M1 w14.drew) := Nb.keep HX14.out hd
            have HXs := Lib.hid (Nb.keep HX14.out hd)
            have HBs := bel_tr HB14 hd
            have HOs := Lib.hid (HO14.out.below hd)
            clear hd HB14 HO14 HX14
            go_wp2_with fail
            refine Sch.wp_region_tn (Kb6 g M1) (.val 0 (.val 1 (.val 4 (.val 5 (.val 6 (.val 7 (.one 2 (.one 3 (.val 8 (.val 9 (.val 10 .done))))))))))) (by kernel_rfl) (by kernel_rfl) HKs.out ?_
            repeat (first
              | (refine Sch.tn_q rfl rfl rfl (fun K hK => ?_); go_big_quiet_op; (first | refine hK _ ?_ | refine ⟨_, fun _ _ => rfl, hK _ ?_⟩); clear hK K)
              | (refine Sch.tn_chk _ _ _ rfl rfl rfl rfl rfl ?_; simp only [Act.put, List.setIfInBounds_toArray, List.set_cons_zero, List.set_cons_succ])
              | (refine Sch.tn_load _ _ _ _ _ rfl rfl rfl rfl (by first | exact Kb6.l) rfl ?_; simp only [Act.put, List.setIfInBounds_toArray, List.set_cons_zero, List.set_cons_succ]))
            generalize w14.drew = w15 at *
            refine Sch.tn_e rfl rfl (fun K hK => ?_)
            go_wp2_with fail
            have hb := bel_box w15 (.cells (nc M1) 44)
            have HL8 : Hid (RowN (w15.alloc (.cells (nc M1) 44)) (some ⟨w15.heap.size, 0, none⟩) [M1]) := RowN.lit w15 [M1] _ _ _ rfl
            have HK8 : Hid (Kb6 g M1 (w15.alloc (.cells (nc M1) 44))) := Nb.keep HXs.out hb
            have HB8 := bel_tr HBs hb
            have HO8 := Lib.hid (HOs.out.below hb)
            clear hb HKs HBs HOs
            refine hK _ _ HK8.out ?_
            clear hK K
            generalize (w15.alloc (.cells (nc M1) 44)) = w16 at *
            refine Sch.tn_e rfl rfl (fun K hK => ?_)
            refine wp_appN _ _ _ rfl Try.underlying23 infoN _ Z rfl HO8.out (some ⟨w15.heap.size, 0, none⟩) [M1] 1 1 rfl rfl HL8.out (fun h => by cases h) (by have := HLn.out; simp at this ⊢; omega) HB8.out.size ?_
            intro v17 w17 ho hg _
            have HB17 := Lib.hid (HB8.out.grown hg HB8.out.size (fun k hk => (HO8.out.lt k hk).1))
            have HO17 := Lib.hid ho
            have HK17 : Hid (Kb6 g M1 w17) := nb_own HK8.out hg HOl.out
            clear ho hg HB8 HO8 HL8 HK8
            refine hK _ _ HK17.out ?_
            clear hK K
            simp only [Act.put, List.setIfInBounds_toArray, List.set_cons_zero, List.set_cons_succ]
            repeat (first
              | (refine Sch.tn_q rfl rfl rfl (fun K hK => ?_); go_big_quiet_op; (first | refine hK _ ?_ | refine ⟨_, fun _ _ => rfl, hK _ ?_⟩); clear hK K)
              | (refine Sch.tn_chk _ _ _ rfl rfl rfl rfl rfl ?_; simp only [Act.put, List.setIfInBounds_toArray, List.set_cons_zero, List.set_cons_succ])
              | (refine Sch.tn_load _ _ _ _ _ rfl rfl rfl rfl (by first | exact Kb6.l) rfl ?_; simp only [Act.put, List.setIfInBounds_toArray, List.set_cons_zero, List.set_cons_succ]))
            refine Sch.tn_n ?_
            go_wp2_with fail
            go_roundw
            case rel => exact ⟨A, B, Z ++ [M1], _, _, _, _, _, _, rfl, rfl, HX1, HY1, HB17, HO17, HN⟩
            case measure => have := HLx1.out; have := HLy1.out; simp [lenV]; omega
          · skip
            have hz := Zb.new w7
            have hb := bel_box w7 (.cells #[.int .i64 0, .int .i64 0, .int .i64 0, .int .i64 0, .int .i64 0, .int .i32 0] 44)
            have HB8 := bel_tr HB7 hb
            have HO8 := Lib.hid (HO7.out.below hb)
            have HK8 := Lib.hid (HK7.out.keep hb)
            have HLt : Hid (b1 < w7.heap.size ∧ b2 < w7.heap.size) := HK7.out.lt
            have HGe : Hid (w.heap.size ≤ w7.heap.size) := HB7.out.size
            have HOl : Hid (∀ k, Value.ownBlock u6 = some k → k ≠ w7.heap.size) := fun k hk e => by have := (HO7.out.lt k hk).2; omega
            refine Sch.tn_e rfl rfl (fun K hK => ?_)
            go_wp2_with fail
            refine hK _ (w7.alloc (.cells #[.int .i64 0, .int .i64 0, .int .i64 0, .int .i64 0, .int .i64 0, .int .i32 0] 44)) HK8.out ?_
            clear hK K hb
            have HZ8 := Lib.hid hz
            clear hz
            generalize w7.alloc (.cells #[.int .i64 0, .int .i64 0, .int .i64 0, .int .i64 0, .int .i64 0, .int .i32 0] 44) = w8 at *
            generalize w7.heap.size = g at *
            refine Sch.tn_e rfl rfl (fun K hK => ?_)
            go_wp2_with fail
            refine (HMg.out _).mono ?_
            rintro e w9 ⟨rfl, hb⟩
            have HB9 := bel_tr HB8 hb
            have HO9 := Lib.hid (HO8.out.below hb)
            have HK9 := Lib.hid (HK8.out.keep hb)
            have HZ9 := Lib.hid (HZ8.out.keep hb)
            clear hb
            refine hK _ _ HK9.out ?_
            clear hK K
            repeat (first
              | (refine Sch.tn_q rfl rfl rfl (fun K hK => ?_); go_big_quiet_op; (first | refine hK _ ?_ | refine ⟨_, fun _ _ => rfl, hK _ ?_⟩); clear hK K)
              | (refine Sch.tn_chk _ _ _ rfl rfl rfl rfl rfl ?_; simp only [Act.put, List.setIfInBounds_toArray, List.set_cons_zero, List.set_cons_succ])
              | (refine Sch.tn_load _ _ _ _ _ rfl rfl rfl rfl (by first | exact Vab.ln | exact Vab.lm) rfl ?_; simp only [Act.put, List.setIfInBounds_toArray, List.set_cons_zero, List.set_cons_succ]))
            obtain ⟨⟨z0, z1, z2, z3, z4, z5⟩, hf⟩ := HZ9.out
            have f0 := hf 0
            have f1 := hf 1
            have f2 := hf 2
            have f3 := hf 3
            have f4 := hf 4
            have f5 := hf 5
            clear hf
            refine Sch.tn_e rfl rfl (fun K hK => ?_)
            go_wp2_with fail
            refine hK _ (Nd.putN w9 g M1) (HK9.out.put HLt.out.1 HLt.out.2 M1) ?_
            clear hK K z0 z1 z2 z3 z4 z5 f0 f1 f2 f3 f4 f5
            have HB14 := Lib.hid (Nd.putN_below HB9.out HGe.out M1)
            have HO14 := Lib.hid (HO9.out.keep (Jn.gb_putN w9 g M1) (by rcases hob : Value.ownBlock u6 with _ | k; exact .inl rfl; exact .inr (by have := HOl.out k hob; simp; omega)))
            have HX14 := Lib.hid (Qs.put_nb HZ9.out M1)
            generalize Nd.putN w9 g M1 = w14 at *
            repeat (first
              | (refine Sch.tn_q rfl rfl rfl (fun K hK => ?_); go_big_quiet_op; (first | refine hK _ ?_ | refine ⟨_, fun _ _ => rfl, hK _ ?_⟩); clear hK K)
              | (refine Sch.tn_chk _ _ _ rfl rfl rfl rfl rfl ?_; simp only [Act.put, List.setIfInBounds_toArray, List.set_cons_zero, List.set_cons_succ])
              | (refine Sch.tn_load _ _ _ _ _ rfl rfl rfl rfl (by first | exact Vab.ln | exact Vab.lm) rfl ?_; simp only [Act.put, List.setIfInBounds_toArray, List.set_cons_zero, List.set_cons_succ]))
            refine Sch.tn_n ?_
            have hd := (Below.refl w14.heap.size w14).drew
            have HKs : Hid (Kb6 g M1 w14.drew) := Nb.keep HX14.out hd
            have HXs := Lib.hid (Nb.keep HX14.out hd)
            have HBs := bel_tr HB14 hd
            have HOs := Lib.hid (HO14.out.below hd)
            clear hd HB14 HO14 HX14
            go_wp2_with fail
            refine Sch.wp_region_tn (Kb6 g M1) (.val 0 (.val 1 (.val 4 (.val 5 (.val 6 (.val 7 (.one 2 (.one 3 (.val 8 (.val 9 (.val 10 .done))))))))))) (by kernel_rfl) (by kernel_rfl) HKs.out ?_
            repeat (first
              | (refine Sch.tn_q rfl rfl rfl (fun K hK => ?_); go_big_quiet_op; (first | refine hK _ ?_ | refine ⟨_, fun _ _ => rfl, hK _ ?_⟩); clear hK K)
              | (refine Sch.tn_chk _ _ _ rfl rfl rfl rfl rfl ?_; simp only [Act.put, List.setIfInBounds_toArray, List.set_cons_zero, List.set_cons_succ])
              | (refine Sch.tn_load _ _ _ _ _ rfl rfl rfl rfl (by first | exact Kb6.l) rfl ?_; simp only [Act.put, List.setIfInBounds_toArray, List.set_cons_zero, List.set_cons_succ]))
            generalize w14.drew = w15 at *
            refine Sch.tn_e rfl rfl (fun K hK => ?_)
            go_wp2_with fail
            have hb := bel_box w15 (.cells (nc M1) 44)
            have HL8 : Hid (RowN (w15.alloc (.cells (nc M1) 44)) (some ⟨w15.heap.size, 0, none⟩) [M1]) := RowN.lit w15 [M1] _ _ _ rfl
            have HK8 : Hid (Kb6 g M1 (w15.alloc (.cells (nc M1) 44))) := Nb.keep HXs.out hb
            have HB8 := bel_tr HBs hb
            have HO8 := Lib.hid (HOs.out.below hb)
            clear hb HKs HBs HOs
            refine hK _ _ HK8.out ?_
            clear hK K
            generalize (w15.alloc (.cells (nc M1) 44)) = w16 at *
            refine Sch.tn_e rfl rfl (fun K hK => ?_)
            refine wp_appN _ _ _ rfl Try.underlying23 infoN _ Z rfl HO8.out (some ⟨w15.heap.size, 0, none⟩) [M1] 1 1 rfl rfl HL8.out (fun h => by cases h) (by have := HLn.out; simp at this ⊢; omega) HB8.out.size ?_
            intro v17 w17 ho hg _
            have HB17 := Lib.hid (HB8.out.grown hg HB8.out.size (fun k hk => (HO8.out.lt k hk).1))
            have HO17 := Lib.hid ho
            have HK17 : Hid (Kb6 g M1 w17) := nb_own HK8.out hg HOl.out
            clear ho hg HB8 HO8 HL8 HK8
            refine hK _ _ HK17.out ?_
            clear hK K
            simp only [Act.put, List.setIfInBounds_toArray, List.set_cons_zero, List.set_cons_succ]
            repeat (first
              | (refine Sch.tn_q rfl rfl rfl (fun K hK => ?_); go_big_quiet_op; (first | refine hK _ ?_ | refine ⟨_, fun _ _ => rfl, hK _ ?_⟩); clear hK K)
              | (refine Sch.tn_chk _ _ _ rfl rfl rfl rfl rfl ?_; simp only [Act.put, List.setIfInBounds_toArray, List.set_cons_zero, List.set_cons_succ])
              | (refine Sch.tn_load _ _ _ _ _ rfl rfl rfl rfl (by first | exact Kb6.l) rfl ?_; simp only [Act.put, List.setIfInBounds_toArray, List.set_cons_zero, List.set_cons_succ]))
            refine Sch.tn_n ?_
            go_wp2_with fail
            go_roundw
            case rel => exact ⟨A, B, Z ++ [M1], _, _, _, _, _, _, rfl, rfl, HX1, HY1, HB17, HO17, HN⟩
            case measure => have := HLx1.out; have := HLy1.out; simp [lenV]; omega
      · have hr0 : 0 < r := by rw [HR.out]; exact cmp_pos.2 hc2
        have hr1 : ¬ r < 0 := by omega
        have HZ1 := Lib.hid (HZ.out.right hc2)
        clear hc hc2 HR HZ
        have hd := (Below.refl w6.heap.size w6).drew
        have HKs : Hid (Kq b2 o2 y w6.drew) := (HN2.out.keep HB.out).keep hd
        have HBs := bel_tr HB hd
        have HOs := Lib.hid (HO.out.below hd)
        clear hd HK HB HO
        go_wp2_with fail
        refine Sch.wp_region_tn (Kq b2 o2 y) (.val 0 (.val 1 (.val 2 (.val 3 (.val 6 (.val 7 (.one 4 (.one 5 (.val 8 (.val 9 .done)))))))))) (by kernel_rfl) (by kernel_rfl) HKs.out ?_
        repeat (first
          | (refine Sch.tn_q rfl rfl rfl (fun K hK => ?_); go_big_quiet_op; (first | refine hK _ ?_ | refine ⟨_, fun _ _ => rfl, hK _ ?_⟩); clear hK K)
          | (refine Sch.tn_chk _ _ _ rfl rfl rfl rfl rfl ?_; simp only [Act.put, List.setIfInBounds_toArray, List.set_cons_zero, List.set_cons_succ])
          | (refine Sch.tn_load _ _ _ _ _ rfl rfl rfl rfl (by first | exact Kq.l) rfl ?_; simp only [Act.put, List.setIfInBounds_toArray, List.set_cons_zero, List.set_cons_succ]))
        generalize w6.drew = w7 at *
        refine Sch.tn_e rfl rfl (fun K hK => ?_)
        go_wp2_with fail
        have hb := bel_box w7 (.cells (nc y) 44)
        have HL8 : Hid (RowN (w7.alloc (.cells (nc y) 44)) (some ⟨w7.heap.size, 0, none⟩) [y]) := RowN.lit w7 [y] _ _ _ rfl
        have HK8 := Lib.hid (HKs.out.keep hb)
        have HB8 := bel_tr HBs hb
        have HO8 := Lib.hid (HOs.out.below hb)
        clear hb HKs HBs HOs
        refine hK _ _ HK8.out ?_
        clear hK K
        generalize (w7.alloc (.cells (nc y) 44)) = w8 at *
        refine Sch.tn_e rfl rfl (fun K hK => ?_)
        refine wp_appN _ _ _ rfl Try.underlying23 infoN _ Z rfl HO8.out (some ⟨w7.heap.size, 0, none⟩) [y] 1 1 rfl rfl HL8.out (fun h => by cases h) (by have := HLn.out; simp at this ⊢; omega) HB8.out.size ?_
        intro v9 w9 ho hg _
        have HB9 := Lib.hid (HB8.out.grown hg HB8.out.size (fun k hk => (HO8.out.lt k hk).1))
        have HO9 := Lib.hid ho
        have HK9 : Hid (Kq b2 o2 y w9) := HN2.out.keep HB9.out
        clear ho hg HB8 HO8 HL8 HK8
        refine hK _ _ HK9.out ?_
        clear hK K
        simp only [Act.put, List.setIfInBounds_toArray, List.set_cons_zero, List.set_cons_succ]
        repeat (first
          | (refine Sch.tn_q rfl rfl rfl (fun K hK => ?_); go_big_quiet_op; (first | refine hK _ ?_ | refine ⟨_, fun _ _ => rfl, hK _ ?_⟩); clear hK K)
          | (refine Sch.tn_chk _ _ _ rfl rfl rfl rfl rfl ?_; simp only [Act.put, List.setIfInBounds_toArray, List.set_cons_zero, List.set_cons_succ])
          | (refine Sch.tn_load _ _ _ _ _ rfl rfl rfl rfl (by first | exact Kq.l) rfl ?_; simp only [Act.put, List.setIfInBounds_toArray, List.set_cons_zero, List.set_cons_succ]))
        refine Sch.tn_n ?_
        go_wp2_with fail
        go_roundw
        case rel => exact ⟨x :: A, B, Z ++ [y], _, _, _, _, _, _, rfl, rfl, HX, HY1, HB9, HO9, HZ1⟩
        case measure => have := HLx1.out; have := HLy1.out; simp [lenV]; omega
    · have hr0 : r < 0 := by rw [HR.out]; exact cmp_neg.2 hc
      have HZ1 := Lib.hid (HZ.out.left hc)
      clear hc HR HZ
      have hd := (Below.refl w6.heap.size w6).drew
      have HKs : Hid (Kq b1 o1 x w6.drew) := (HN1.out.keep HB.out).keep hd
      have HBs := bel_tr HB hd
      have HOs := Lib.hid (HO.out.below hd)
      clear hd HK HB HO
      go_wp2_with fail
      refine Sch.wp_region_tn (Kq b1 o1 x) (.val 0 (.val 1 (.val 2 (.val 3 (.val 6 (.val 7 (.one 4 (.one 5 (.val 8 (.val 9 .done)))))))))) (by kernel_rfl) (by kernel_rfl) HKs.out ?_
      repeat (first
        | (refine Sch.tn_q rfl rfl rfl (fun K hK => ?_); go_big_quiet_op; (first | refine hK _ ?_ | refine ⟨_, fun _ _ => rfl, hK _ ?_⟩); clear hK K)
        | (refine Sch.tn_chk _ _ _ rfl rfl rfl rfl rfl ?_; simp only [Act.put, List.setIfInBounds_toArray, List.set_cons_zero, List.set_cons_succ])
        | (refine Sch.tn_load _ _ _ _ _ rfl rfl rfl rfl (by first | exact Kq.l) rfl ?_; simp only [Act.put, List.setIfInBounds_toArray, List.set_cons_zero, List.set_cons_succ]))
      generalize w6.drew = w7 at *
      refine Sch.tn_e rfl rfl (fun K hK => ?_)
      go_wp2_with fail
      have hb := bel_box w7 (.cells (nc x) 44)
      have HL8 : Hid (RowN (w7.alloc (.cells (nc x) 44)) (some ⟨w7.heap.size, 0, none⟩) [x]) := RowN.lit w7 [x] _ _ _ rfl
      have HK8 := Lib.hid (HKs.out.keep hb)
      have HB8 := bel_tr HBs hb
      have HO8 := Lib.hid (HOs.out.below hb)
      clear hb HKs HBs HOs
      refine hK _ _ HK8.out ?_
      clear hK K
      generalize (w7.alloc (.cells (nc x) 44)) = w8 at *
      refine Sch.tn_e rfl rfl (fun K hK => ?_)
      refine wp_appN _ _ _ rfl Try.underlying23 infoN _ Z rfl HO8.out (some ⟨w7.heap.size, 0, none⟩) [x] 1 1 rfl rfl HL8.out (fun h => by cases h) (by have := HLn.out; simp at this ⊢; omega) HB8.out.size ?_
      intro v9 w9 ho hg _
      have HB9 := Lib.hid (HB8.out.grown hg HB8.out.size (fun k hk => (HO8.out.lt k hk).1))
      have HO9 := Lib.hid ho
      have HK9 : Hid (Kq b1 o1 x w9) := HN1.out.keep HB9.out
      clear ho hg HB8 HO8 HL8 HK8
      refine hK _ _ HK9.out ?_
      clear hK K
      simp only [Act.put, List.setIfInBounds_toArray, List.set_cons_zero, List.set_cons_succ]
      repeat (first
        | (refine Sch.tn_q rfl rfl rfl (fun K hK => ?_); go_big_quiet_op; (first | refine hK _ ?_ | refine ⟨_, fun _ _ => rfl, hK _ ?_⟩); clear hK K)
        | (refine Sch.tn_chk _ _ _ rfl rfl rfl rfl rfl ?_; simp only [Act.put, List.setIfInBounds_toArray, List.set_cons_zero, List.set_cons_succ])
        | (refine Sch.tn_load _ _ _ _ _ rfl rfl rfl rfl (by first | exact Kq.l) rfl ?_; simp only [Act.put, List.setIfInBounds_toArray, List.set_cons_zero, List.set_cons_succ]))
      refine Sch.tn_n ?_
      go_wp2_with fail
      go_roundw
      case rel => exact ⟨A, y :: B, Z ++ [x], _, _, _, _, _, _, rfl, rfl, HX1, HY, HB9, HO9, HZ1⟩
      case measure => have := HLx1.out; have := HLy1.out; simp [lenV]; omega
end Go.Proofs.Ytmdebedkljpagaa.Jn
