/-
  The program's Parse.
-/
import Derived.Test.YtmmcnpcijeahcabGreatDoorNTxt
import Derived.Test.YtmmcnpcijeahcabGreatDoorNSpl
import Derived.Test.YtmmcnpcijeahcabGreatDoorNMrg
namespace Go.Proofs.YtmmcnpcijeahcabGreatDoor.Nd
set_option linter.unusedVariables false
open Go.RowKit V Go.Sort D

/-- The node with a text, or none. -/
def PrsP (l : List UInt8) (ok bad : Value) (e : Ending) : Prop := (∃ n, VN n ∧ l = txtN n ∧ e = .returned (.tuple #[nv n, ok])) ∨ ((∀ n, VN n → l ≠ txtN n) ∧ e = .returned (.tuple #[nv zeroN, bad]))
theorem words_le : ∀ (l : List UInt8) (x : List UInt8), x ∈ wordsL l → x.length ≤ l.length
  | [], x, h => by simp [wordsL] at h; subst h; simp
  | c :: t, x, h => by
    rw [wordsL] at h
    split at h
    · rcases List.mem_cons.1 h with rfl | h
      · simp
      · have := words_le t x h; simp; omega
    · split at h
      · rename_i hw; exact absurd hw (words_ne t)
      · rename_i y r hw
        rcases List.mem_cons.1 h with rfl | h
        · have := words_le t y (by rw [hw]; simp); simp; omega
        · have := words_le t x (by rw [hw]; simp [h]); simp; omega
theorem four {α : Type} {l : List α} (h : l.length = 4) : ∃ a b c d, l = [a, b, c, d] := by
  match l, h with
  | [a, b, c, d], _ => exact ⟨a, b, c, d, rfl⟩
theorem not_four {l : List UInt8} (h : (wordsL l).length ≠ 4) : ∀ n, VN n → l ≠ txtN n := by
  rintro n _ rfl
  rw [words_txt] at h
  exact h rfl
/-- A part that is read as a number. -/
def numOk (l : List UInt8) (z : Int) : Prop := ∀ a : Nat, a ≤ 4611686018427387904 → l = Lib.decDigits a → z = (a : Int)
/-- A part that is read as a rune. -/
def runeOk (l : List UInt8) (r : Int) : Prop := (∃ m : Nat, R.vld (m : Int) = true ∧ l = R.nm m ∧ r = (m : Int)) ∨ ((∀ m : Nat, R.vld (m : Int) = true → l ≠ R.nm m) ∧ r = 0)
theorem rune_ok {l : List UInt8} {r : Int} (h : runeOk l r) {s : Int} (hs : s = 0 ∨ R.vld s = true) (hl : l = runeT s) : r = s := by
  rcases hs with rfl | hs
  · rcases h with ⟨m, hv, hm, rfl⟩ | ⟨_, rfl⟩
    · obtain ⟨_, _, _, hm2, _⟩ := vld_nat hv
      rw [show runeT 0 = [45] from rfl, hm] at hl
      exact absurd hl (nm_ne_dash (by omega))
    · rfl
  · obtain ⟨n, rfl, hv, hn, h0⟩ := vld_nat hs
    rw [show runeT (n : Int) = R.nm n by unfold runeT; rw [if_neg (by omega), Int.toNat_natCast]] at hl
    rcases h with ⟨m, hv2, hm, rfl⟩ | ⟨hno, _⟩
    · obtain ⟨_, _, _, hm2, _⟩ := vld_nat hv2
      rw [nm_inj (by omega) hn (hm.symm.trans hl)]
    · exact absurd hl (hno n hv)
theorem i32_ok {l : List UInt8} {r : Int} (h : runeOk l r) : -2147483648 ≤ r ∧ r ≤ 2147483647 := by
  rcases h with ⟨m, hv, -, rfl⟩ | ⟨-, rfl⟩
  · have := R.vld_iff.1 hv; omega
  · omega
theorem prsR_named {l : List UInt8} {d : Dt} (h : named d) (hl : l = txtD d) : (prsR l).1 = d := by
  unfold prsR
  rw [hl, prs_txt h]
/-- What is read from the parts of a node's text is the node. -/
theorem parse_same {l p0 p1 p2 p3 : List UInt8} (hw : wordsL l = [p0, p1, p2, p3]) {z r : Int} (hz : numOk p2 z) (hr : runeOk p3 r) {m : Nt} (hm : VN m) (hl : l = txtN m) : ((prsR p0).1, (prsR p1).1, z, r) = m := by
  rw [hl, words_txt] at hw
  simp only [List.cons.injEq, and_true] at hw
  obtain ⟨e0, e1, e2, e3⟩ := hw
  obtain ⟨m1, m2, m3, m4, m5, m6⟩ := hm
  have h2 := hz m.2.2.1.toNat (by omega) e2.symm
  refine node_ext (prsR_named (.inl m1) e0.symm) (prsR_named m2 e1.symm) ?_ (rune_ok hr m6 e3.symm)
  show z = m.2.2.1
  omega
theorem parse_no {l p0 p1 p2 p3 : List UInt8} (hw : wordsL l = [p0, p1, p2, p3]) {z r : Int} (hz : numOk p2 z) (hr : runeOk p3 r) (h : ¬ (validN ((prsR p0).1, (prsR p1).1, z, r) = true ∧ txtN ((prsR p0).1, (prsR p1).1, z, r) = l)) : ∀ m, VN m → l ≠ txtN m := by
  intro m hm hl
  have e := parse_same hw hz hr hm hl
  rw [e] at h
  exact h ⟨valid_vn.2 hm, hl.symm⟩

/-! ### The library's Atoi, whatever it says -/
theorem parse_big (t : List UInt8) : ∀ a : Nat, a ≤ 4611686018427387904 → Lib.parseUint10 0 (Lib.decDigits a ++ t) = Lib.parseUint10 a t := by
  intro a
  induction a using Nat.strongRecOn generalizing t with
  | _ a ih =>
    intro ha
    by_cases h : a < 10
    · rw [dig_small h, List.singleton_append, Lib.parseUint10, dig_nat h, if_pos (by omega), if_neg (by omega), if_neg (by omega)]
      congr 1
      omega
    · rw [dig_big h, List.append_assoc, ih (a / 10) (by omega) _ (by omega), List.singleton_append, Lib.parseUint10, dig_nat (Nat.mod_lt _ (by omega)), if_pos (by omega), if_neg (by omega), if_neg (by omega)]
      congr 1
      omega
theorem num_big (a : Nat) (ha : a ≤ 4611686018427387904) : Lib.atoiAll (Lib.decDigits a) = .ok (a : Int) := by
  have hp : Lib.parseUint10 0 (Lib.decDigits a) = .ok a := by
    have := parse_big [] a ha
    rw [List.append_nil] at this
    rw [this]; rfl
  obtain ⟨c, t, he, h1, h2⟩ := dig_first a
  unfold Lib.atoiAll
  rw [he] at hp ⊢
  simp only
  rw [if_neg (show ¬ (c.toNat = 43 ∨ c.toNat = 45) by omega)]
  unfold Lib.parseMag
  rw [if_neg (by simp), hp]
  simp only
  rw [if_neg (by omega), if_neg (by omega), if_neg (by omega)]
set_option maxRecDepth 100000 in
theorem atoi_any (l : List UInt8) (w : World) (hL : Ln w) (hlen : l.length ≤ 1000000) :
    Calls Tryz.prog 55 #[.string ⟨l.toArray⟩] w fun e w' => ∃ (z : Int) (er : Value), e = .returned (.tuple #[.int .i64 z, er]) ∧ numOk l z ∧ Below w.heap.size w w' := by
  obtain ⟨⟨-, ⟨ev, hv, hev⟩, ⟨ev2, hv2, hev2⟩⟩, -⟩ := hL
  have hsz := ba_size l
  have hnum : ∀ a : Nat, a ≤ 4611686018427387904 → l = Lib.decDigits a → Lib.atoiAll l = .ok (a : Int) := fun a ha e => by rw [e]; exact num_big a ha
  rcases h : Lib.atoiAll l with v | _ | _
  · rw [h] at hnum
    refine (Tryz.strconv_Atoi_ok ⟨l.toArray⟩ (by omega) v h w).mono ?_
    rintro e w2 ⟨rfl, hw⟩
    refine ⟨v, _, rfl, fun a ha e => by have := hnum a ha e; cases this; rfl, ?_⟩
    rcases hw with rfl | ⟨t, rfl⟩
    · exact Below.refl _ _
    · exact bel_bytesWorld w _ t
  · rw [h] at hnum
    refine (Any.strconv_Atoi_syntax Tryz.laysC172 ⟨l.toArray⟩ (by omega) h ev w hv hev).mono ?_
    rintro e w2 ⟨N, rfl, -, -, hb⟩
    exact ⟨0, _, rfl, fun a ha e => by (have := hnum a ha e; cases this), hb⟩
  · rw [h] at hnum
    refine (Tryz.strconv_Atoi_range ⟨l.toArray⟩ (by omega) h ev2 w hv2 hev2).mono ?_
    rintro e w2 ⟨N, rfl, -, -, hb⟩
    exact ⟨_, _, rfl, fun a ha e => by (have := hnum a ha e; cases this), hb⟩
theorem byname_any (l : List UInt8) (w : World) (hL : Ln w) (hlen : l.length ≤ 1000000) :
    Calls Tryz.prog 56 #[.string ⟨l.toArray⟩] w fun e w' => ∃ r q, e = .returned (.tuple #[.int .i32 r, .int .i64 q]) ∧ runeOk l r ∧ Below w.heap.size w w' := by
  by_cases h : ∃ m : Nat, R.vld (m : Int) = true ∧ l = R.nm m
  · obtain ⟨m, hv, rfl⟩ := h
    exact (R.byname_yes m hv w hL.2).mono fun e w' ⟨h1, h2⟩ => ⟨_, _, h1, .inl ⟨m, hv, rfl, rfl⟩, h2⟩
  · have hn : ∀ m : Nat, R.vld (m : Int) = true → l ≠ R.nm m := fun m hv e => h ⟨m, hv, e⟩
    exact (R.byname_not l hn (by omega) w hL.2).mono fun e w' ⟨h1, h2⟩ => ⟨_, _, h1, .inr ⟨hn, rfl⟩, h2⟩

/-- Two numbers in a box. -/
def Db (w : World) (g : Nat) (d : Dt) : Prop := w.cell? ⟨g, 0, none⟩ = some (.int .i64 d.1) ∧ w.cell? ⟨g, 1, none⟩ = some (.int .i64 d.2)
theorem Db.keep {w w' : World} {g : Nat} {d : Dt} (h : Db w g d) (hb : Below w.heap.size w w') : Db w' g d :=
  ⟨(hb.cell (p := ⟨g, 0, none⟩) (lt_of_cell h.1)).trans h.1, (hb.cell (p := ⟨g, 1, none⟩) (lt_of_cell h.2)).trans h.2⟩
theorem Db.new (w : World) (d : Dt) : Db (w.alloc (.cells #[.int .i64 d.1, .int .i64 d.2] 23)) w.heap.size d := ⟨by go_simp, by go_simp⟩
/-- Four strings in memory. -/
def R4 (w : World) (g : Nat) (p0 p1 p2 p3 : List UInt8) : Prop :=
  w.cell? ⟨g, 0, none⟩ = some (.string ⟨p0.toArray⟩) ∧ w.cell? ⟨g, 1, none⟩ = some (.string ⟨p1.toArray⟩) ∧ w.cell? ⟨g, 2, none⟩ = some (.string ⟨p2.toArray⟩) ∧ w.cell? ⟨g, 3, none⟩ = some (.string ⟨p3.toArray⟩)
theorem R4.keep {w w' : World} {g : Nat} {p0 p1 p2 p3 : List UInt8} (h : R4 w g p0 p1 p2 p3) (hb : Below w.heap.size w w') : R4 w' g p0 p1 p2 p3 := by
  have hl := lt_of_cell h.1
  exact ⟨(hb.cell (p := ⟨g, 0, none⟩) hl).trans h.1, (hb.cell (p := ⟨g, 1, none⟩) hl).trans h.2.1, (hb.cell (p := ⟨g, 2, none⟩) hl).trans h.2.2.1, (hb.cell (p := ⟨g, 3, none⟩) hl).trans h.2.2.2⟩
theorem R4.of {w : World} {g : Nat} {p0 p1 p2 p3 : List UInt8} (h : RowW w g [p0, p1, p2, p3]) : R4 w g p0 p1 p2 p3 := ⟨h 0 (by simp), h 1 (by simp), h 2 (by simp), h 3 (by simp)⟩

set_option maxRecDepth 100000 in
set_option maxHeartbeats 8000000 in
theorem parseN_any (l : List UInt8) (w : World) (hL : Ln w) (hlen : l.length ≤ 1000000) :
    Calls Tryz.prog 43 #[.string ⟨l.toArray⟩] w fun e w' => PrsP l (.int .i64 0) (.int .i64 6) e ∧ Below w.heap.size w w' := by
  have HL := Lib.hid hL
  have HLe := Lib.hid hlen
  have HZ := Lib.hid (Zb.new w)
  have HB := Lib.hid (bel_box w (.cells #[.int .i64 0, .int .i64 0, .int .i64 0, .int .i64 0, .int .i64 0, .int .i32 0] 25))
  have HSp := Lib.hid (fun w => splitN_any l w hlen)
  clear hL hlen
  go_enter Tryz.func43, Tryz.ntmps43
  go_wp2_with fail
  generalize w.alloc (.cells #[.int .i64 0, .int .i64 0, .int .i64 0, .int .i64 0, .int .i64 0, .int .i32 0] 25) = w0 at *
  refine (HSp.out _).mono ?_
  rintro e w1 ⟨ps, c, rfl, hc, hrow, hpt, hlt, hb⟩
  replace HZ := Lib.hid (HZ.out.keep hb)
  replace HB := bel_tr HB hb
  clear hb
  by_cases h4 : ps.length = 4
  · have hw : wordsL l = ps := by
      rcases hpt with h | ⟨h, _⟩
      · exact h.symm
      · omega
    rw [h4] at hc
    obtain ⟨p0, p1, p2, p3, rfl⟩ := four h4
    have HR := Lib.hid (R4.of hrow)
    have HW := Lib.hid hw
    have HP0 : Hid (p0.length ≤ 1000000) := Nat.le_trans (words_le l p0 (by rw [hw]; simp)) HLe.out
    have HP1 : Hid (p1.length ≤ 1000000) := Nat.le_trans (words_le l p1 (by rw [hw]; simp)) HLe.out
    have HP2 : Hid (p2.length ≤ 1000000) := Nat.le_trans (words_le l p2 (by rw [hw]; simp)) HLe.out
    have HP3 : Hid (p3.length ≤ 1000000) := Nat.le_trans (words_le l p3 (by rw [hw]; simp)) HLe.out
    clear hw hrow hpt hlt h4
    generalize w0.heap.size = g at *
    obtain ⟨s0, s1, s2, s3⟩ := HR.out
    go_wp2_with fail
    refine (parse_any p0 _ (HL.out.below HB.out).1 HP0.out).mono ?_
    rintro e w2 ⟨rfl, hb⟩
    replace HZ := Lib.hid (HZ.out.keep hb)
    replace HR := Lib.hid (HR.out.keep hb)
    replace HB := bel_tr HB hb
    clear hb
    have HX := Lib.hid (fun h1 h2 => @parse_no l p0 p1 p2 p3 HW.out h1 h2)
    generalize hd0 : (prsR p0).1 = d0 at *
    generalize (prsR p0).2 = q0 at *
    clear hd0
    obtain ⟨d01, d02⟩ := d0
    clear s0 s1 s2 s3
    have HD0 := Lib.hid (Db.new w2 (d01, d02))
    have hb := bel_box w2 (.cells #[.int .i64 d01, .int .i64 d02] 23)
    replace HZ := Lib.hid (HZ.out.keep hb)
    replace HR := Lib.hid (HR.out.keep hb)
    replace HB := bel_tr HB hb
    clear hb
    obtain ⟨s0, s1, s2, s3⟩ := HR.out
    go_wp2_with fail
    generalize w2.alloc (.cells #[.int .i64 d01, .int .i64 d02] 23) = w3 at *
    generalize w2.heap.size = g0 at *
    refine (parse_any p1 _ (HL.out.below HB.out).1 HP1.out).mono ?_
    rintro e w4 ⟨rfl, hb⟩
    replace HZ := Lib.hid (HZ.out.keep hb)
    replace HR := Lib.hid (HR.out.keep hb)
    replace HD0 := Lib.hid (HD0.out.keep hb)
    replace HB := bel_tr HB hb
    clear hb
    generalize hd1 : (prsR p1).1 = d1 at *
    generalize (prsR p1).2 = q1 at *
    clear hd1
    obtain ⟨d11, d12⟩ := d1
    clear s0 s1 s2 s3
    have HD1 := Lib.hid (Db.new w4 (d11, d12))
    have hb := bel_box w4 (.cells #[.int .i64 d11, .int .i64 d12] 23)
    replace HZ := Lib.hid (HZ.out.keep hb)
    replace HR := Lib.hid (HR.out.keep hb)
    replace HD0 := Lib.hid (HD0.out.keep hb)
    replace HB := bel_tr HB hb
    clear hb
    obtain ⟨s0, s1, s2, s3⟩ := HR.out
    go_wp2_with fail
    generalize w4.alloc (.cells #[.int .i64 d11, .int .i64 d12] 23) = w5 at *
    generalize w4.heap.size = g1 at *
    refine (atoi_any p2 _ (HL.out.below HB.out) HP2.out).mono ?_
    rintro e w6 ⟨z, er, rfl, hz, hb⟩
    have HNu := Lib.hid hz
    clear hz s0 s1 s2 s3
    replace HZ := Lib.hid (HZ.out.keep hb)
    replace HR := Lib.hid (HR.out.keep hb)
    replace HD0 := Lib.hid (HD0.out.keep hb)
    replace HD1 := Lib.hid (HD1.out.keep hb)
    replace HB := bel_tr HB hb
    clear hb
    obtain ⟨s0, s1, s2, s3⟩ := HR.out
    go_wp2_with fail
    refine (byname_any p3 _ (HL.out.below HB.out) HP3.out).mono ?_
    rintro e w7 ⟨r, q, rfl, hr, hb⟩
    have HRu := Lib.hid hr
    clear hr s0 s1 s2 s3
    replace HZ := Lib.hid (HZ.out.keep hb)
    replace HR := Lib.hid (HR.out.keep hb)
    replace HD0 := Lib.hid (HD0.out.keep hb)
    replace HD1 := Lib.hid (HD1.out.keep hb)
    replace HB := bel_tr HB hb
    clear hb
    have HX2 := Lib.hid (HX.out z r HNu.out HRu.out)
    have HNb := Lib.hid (Nb.new w7 ((d01, d02), (d11, d12), z, r))
    have hb := bel_box w7 (.cells #[.int .i64 d01, .int .i64 d02, .int .i64 d11, .int .i64 d12, .int .i64 z, .int .i32 r] 25)
    obtain ⟨a0, a1⟩ := HD0.out
    obtain ⟨b0, b1⟩ := HD1.out
    clear HX HNu HRu HD0 HD1 HR HP0 HP1 HP2 HP3 HSp HW hc
    replace HZ := Lib.hid (HZ.out.keep hb)
    replace HB := bel_tr HB hb
    clear hb
    have HT := Lib.hid (fun w hL => textN_any ((d01, d02), (d11, d12), z, r) w hL)
    go_wp2_with fail
    generalize w7.alloc (.cells #[.int .i64 d01, .int .i64 d02, .int .i64 d11, .int .i64 d12, .int .i64 z, .int .i32 r] 25) = w8 at *
    generalize w7.heap.size = g2 at *
    clear a0 a1 b0 b1
    refine (HT.out _ (HL.out.below HB.out)).mono ?_
    rintro e w9 ⟨rfl, hb⟩
    replace HZ := Lib.hid (HZ.out.keep hb)
    replace HNb := Lib.hid (HNb.out.keep hb)
    replace HB := bel_tr HB hb
    clear hb
    obtain ⟨N, hN⟩ : ∃ N : Nt, N = ((d01, d02), (d11, d12), z, r) := ⟨_, rfl⟩
    rcases hv : validN ((d01, d02), (d11, d12), z, r) with _ | _
    · rw [show txtB ((d01, d02), (d11, d12), z, r) = ([], 2) by unfold txtB; rw [hv]; rfl]
      have HN : Hid (∀ m, VN m → l ≠ txtN m) := HX2.out (fun h => by rw [hv] at h; cases h.1)
      clear hv HX2 HT HNb hN
      generalize (⟨l.toArray⟩ : ByteArray) = S at *
      obtain ⟨⟨z0, z1, z2, z3, z4, z5⟩, hf⟩ := HZ.out
      have f0 := hf 0
      have f1 := hf 1
      have f2 := hf 2
      have f3 := hf 3
      have f4 := hf 4
      have f5 := hf 5
      clear hf
      go_wp2_with fail
      (try simp only [Exit.inBlock, Exit.then])
      refine bodyPost_ret (v := .tuple #[.agg #[.int .i64 0, .int .i64 0, .int .i64 0, .int .i64 0, .int .i64 0, .int .i32 0], .int .i64 6]) (by rw [results_cell_tmp (fn := Tryz.f43) (p := 2) (u := 3) (ty := 25) rfl]; go_simp) rfl ?_
      exact ⟨.inr ⟨HN.out, rfl⟩, putN_below HB.out (Nat.le_refl _) zeroN⟩
    · rw [show txtB ((d01, d02), (d11, d12), z, r) = (txtN ((d01, d02), (d11, d12), z, r), 0) by unfold txtB; rw [hv]; rfl]
      by_cases hs : txtN ((d01, d02), (d11, d12), z, r) = l
      · have HO : Hid (∃ n, VN n ∧ l = txtN n ∧ nv n = .agg #[.int .i64 d01, .int .i64 d02, .int .i64 d11, .int .i64 d12, .int .i64 z, .int .i32 r]) := ⟨_, valid_vn.1 hv, hs.symm, rfl⟩
        rw [hs]
        clear hv hs HX2 HT hN
        obtain ⟨n0, n1, n2, n3, n4, n5⟩ := HNb.out
        generalize (⟨l.toArray⟩ : ByteArray) = S at *
        obtain ⟨⟨z0, z1, z2, z3, z4, z5⟩, hf⟩ := HZ.out
        have f0 := hf 0
        have f1 := hf 1
        have f2 := hf 2
        have f3 := hf 3
        have f4 := hf 4
        have f5 := hf 5
        clear hf
        go_wp2_with fail
        (try simp only [Exit.inBlock, Exit.then])
        refine bodyPost_ret (v := .tuple #[nv ((d01, d02), (d11, d12), z, r), .int .i64 0]) (by rw [results_cell_tmp (fn := Tryz.f43) (p := 2) (u := 3) (ty := 25) rfl]; go_simp) rfl ?_
        exact ⟨by obtain ⟨n, h1, h2, h3⟩ := HO.out; exact .inl ⟨n, h1, h2, by rw [h3]⟩, putN_below HB.out (Nat.le_refl _) ((d01, d02), (d11, d12), z, r)⟩
      · have hne : ((⟨(txtN ((d01, d02), (d11, d12), z, r)).toArray⟩ : ByteArray).toList == (⟨l.toArray⟩ : ByteArray).toList) = false := by
          rw [beq_eq_false_iff_ne]
          intro h
          exact hs (by simpa using h)
        have HN : Hid (∀ m, VN m → l ≠ txtN m) := HX2.out (fun h => hs h.2)
        clear hv hs HX2 HT HNb hN
        generalize (⟨(txtN ((d01, d02), (d11, d12), z, r)).toArray⟩ : ByteArray) = S2 at *
        generalize (⟨l.toArray⟩ : ByteArray) = S at *
        obtain ⟨⟨z0, z1, z2, z3, z4, z5⟩, hf⟩ := HZ.out
        have f0 := hf 0
        have f1 := hf 1
        have f2 := hf 2
        have f3 := hf 3
        have f4 := hf 4
        have f5 := hf 5
        clear hf
        go_wp2_with fail
        (try simp only [Exit.inBlock, Exit.then])
        refine bodyPost_ret (v := .tuple #[.agg #[.int .i64 0, .int .i64 0, .int .i64 0, .int .i64 0, .int .i64 0, .int .i32 0], .int .i64 6]) (by rw [results_cell_tmp (fn := Tryz.f43) (p := 2) (u := 3) (ty := 25) rfl]; go_simp) rfl ?_
        exact ⟨.inr ⟨HN.out, rfl⟩, putN_below HB.out (Nat.le_refl _) zeroN⟩
  · have hne : ((ps.length : Int) != 4) = true := by rw [bne_iff_ne]; omega
    have HN : Hid (∀ n, VN n → l ≠ txtN n) := by
      refine not_four fun h => ?_
      rcases hpt with hh | ⟨hh, hh2⟩
      · rw [hh] at h4; exact h4 h
      · omega
    clear h4 hpt hrow hlt
    obtain ⟨⟨z0, z1, z2, z3, z4, z5⟩, hf⟩ := HZ.out
    have f0 := hf 0
    have f1 := hf 1
    have f2 := hf 2
    have f3 := hf 3
    have f4 := hf 4
    have f5 := hf 5
    clear hf
    go_wp2_with fail
    (try simp only [Exit.inBlock, Exit.then])
    refine bodyPost_ret (v := .tuple #[.agg #[.int .i64 0, .int .i64 0, .int .i64 0, .int .i64 0, .int .i64 0, .int .i32 0], .int .i64 6]) (by rw [results_cell_tmp (fn := Tryz.f43) (p := 2) (u := 3) (ty := 25) rfl]; go_simp) rfl ?_
    exact ⟨.inr ⟨HN.out, rfl⟩, putN_below HB.out (Nat.le_refl _) zeroN⟩
end Go.Proofs.YtmmcnpcijeahcabGreatDoor.Nd
