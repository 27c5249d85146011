/-
  The program's Parse.
-/
import Derived.Test.YtmmcnpcijeahcabGreatDoorDDig
namespace Go.Proofs.YtmmcnpcijeahcabGreatDoor.D
set_option linter.unusedVariables false
open Go.RowKit V Go.Sort

theorem parse_dig (t : List UInt8) : ∀ a : Nat, a < 1000000000000000000 → Lib.parseUint10 0 (Lib.decDigits a ++ t) = Lib.parseUint10 a t := by
  intro a
  induction a using Nat.strongRecOn generalizing t with
  | _ a ih =>
    intro ha
    by_cases h : a < 10
    · rw [dig_small h, List.singleton_append, Lib.parseUint10, dig_nat h, if_pos (by omega), if_neg (by omega), if_neg (by omega)]
      congr 1
      omega
    · rw [dig_big h, List.append_assoc, ih (a / 10) (by omega) _ (by omega), List.singleton_append, Lib.parseUint10, dig_nat (Nat.mod_lt _ (by omega)), if_pos (by omega), if_neg (by omega), if_neg (by omega)]
      congr 1
      omega
theorem dig_all : ∀ (a : Nat), ∀ x ∈ Lib.decDigits a, 48 ≤ x.toNat ∧ x.toNat ≤ 57 := by
  intro a
  induction a using Nat.strongRecOn with
  | _ a ih =>
    intro x hx
    by_cases h : a < 10
    · rw [dig_small h, List.mem_singleton] at hx
      subst hx
      rw [dig_nat h]; omega
    · rw [dig_big h, List.mem_append, List.mem_singleton] at hx
      rcases hx with hx | rfl
      · exact ih (a / 10) (by omega) x hx
      · rw [dig_nat (Nat.mod_lt _ (by omega))]; omega
theorem dig_no (a : Nat) : (46 : UInt8) ∉ Lib.decDigits a := fun h => by
  have := (dig_all a _ h).1
  exact absurd this (by decide)
theorem num_dig (a : Nat) (ha : a ≤ 4294967295) : numD (Lib.decDigits a) = (a : Int) := by
  have hp : Lib.parseUint10 0 (Lib.decDigits a) = .ok a := by
    have := parse_dig [] a (by omega)
    rw [List.append_nil] at this
    rw [this]; rfl
  obtain ⟨c, t, he, h1, h2⟩ := dig_first a
  have hc := dig_all a c (by rw [he]; simp)
  unfold numD Lib.atoiAll
  rw [he] at hp ⊢
  simp only
  rw [if_neg (show ¬ (c.toNat = 43 ∨ c.toNat = 45) by omega)]
  unfold Lib.parseMag
  rw [if_neg (by simp), hp]
  simp only
  rw [if_neg (by omega), if_neg (by omega), if_neg (by omega)]
theorem num_root : numD rootT = 0 := rfl
theorem num_nil : numD [] = 0 := rfl
theorem cut_same : ∀ {x y x' y' : List UInt8}, x ++ 46 :: y = x' ++ 46 :: y' → (46 : UInt8) ∉ x → (46 : UInt8) ∉ x' → x = x' ∧ y = y'
  | [], y, [], y', h, _, _ => ⟨rfl, by simpa using h⟩
  | [], y, b :: x', y', h, _, h2 => by
    simp at h
    exact absurd (by rw [← h.1]; simp) h2
  | a :: x, y, [], y', h, h1, _ => by
    simp at h
    exact absurd (by rw [h.1]; simp) h1
  | a :: x, y, b :: x', y', h, h1, h2 => by
    simp at h
    obtain ⟨e1, e2⟩ := cut_same h.2 (fun h => h1 (by simp [h])) (fun h => h2 (by simp [h]))
    exact ⟨by rw [h.1, e1], e2⟩
/-- What is read back is just what has been written. -/
theorem parse_back {l x y : List UInt8} (hc : Cuts l x y) {d : Dt} (hd : named d) (hl : l = txtD d) : (numD x, numD y) = d := by
  rcases named_cases hd with rfl | ⟨a, b, rfl, ha, hb, -, -, ht⟩
  · rw [show txtD (0, 0) = rootT from rfl] at hl
    subst hl
    rcases hc with ⟨-, rfl, rfl⟩ | ⟨h, -⟩
    · rw [num_root, num_nil]
    · exact absurd (show (46 : UInt8) ∈ rootT by rw [h]; simp) (by decide)
  · rw [ht] at hl
    rcases hc with ⟨h, -, -⟩ | ⟨h, hx⟩
    · exact absurd (by rw [hl]; simp) h
    · rw [hl, List.append_assoc, List.singleton_append] at h
      obtain ⟨rfl, rfl⟩ := cut_same h (dig_no a) hx
      rw [num_dig a (by omega), num_dig b hb]
/-- What Parse says. -/
def prsR (l : List UInt8) : Dt × Int := match prsD l with | some d => (d, 0) | none => ((0, 0), 6)
theorem named_of_txtR {d : Dt} (h : (txtR d).2 = 0) : named d ∧ (txtR d).1 = txtD d := by
  unfold txtR at h ⊢
  split at h
  · rename_i hh
    rw [if_pos hh]
    rw [Bool.or_eq_true] at hh
    exact ⟨hh.symm, rfl⟩
  · cases h
theorem prsR_ok {l : List UInt8} {d : Dt} (h : (txtR d).2 = 0) (he : (txtR d).1 = l) : prsR l = (d, 0) := by
  obtain ⟨hn, ht⟩ := named_of_txtR h
  unfold prsR
  rw [← he, ht, prs_txt hn]
theorem prsR_no {l x y : List UInt8} (hc : Cuts l x y) (h : ¬ ((txtR (numD x, numD y)).2 = 0 ∧ (txtR (numD x, numD y)).1 = l)) : prsR l = ((0, 0), 6) := by
  unfold prsR
  rcases hp : prsD l with _ | d
  · rfl
  · exfalso
    obtain ⟨hn, ht⟩ := prs_back hp
    have e := parse_back hc hn ht
    rw [e] at h
    apply h
    have hb : (rootR d || validR d) = true := by rw [Bool.or_eq_true]; exact hn.symm
    unfold txtR
    rw [if_pos hb]
    exact ⟨rfl, ht.symm⟩

set_option maxRecDepth 100000 in
set_option maxHeartbeats 1000000 in
theorem parse_any (l : List UInt8) (w : World) (hL : Ld w) (hlen : l.length ≤ 1000000) :
    Calls Tryz.prog 54 #[.string ⟨l.toArray⟩] w fun e w' => e = .returned (.tuple #[dv (prsR l).1, .int .i64 (prsR l).2]) ∧ Below w.heap.size w w' := by
  have HCu := Lib.hid (fun (w : World) => cut_any l w hlen)
  have HLn := Lib.hid hlen
  have HLd := Lib.hid hL
  have HNu := Lib.hid (fun (x : List UInt8) (h : x.length ≤ 1000000) (wx : World) (hL : Ld wx) => number_any x wx hL h)
  have HTx := Lib.hid (fun (d : Dt) (wx : World) (hL : Ld wx) => text_any d wx hL)
  clear hL hlen
  go_enter Tryz.func54, Tryz.ntmps54
  go_wp2_with fail
  refine (HCu.out _).mono ?_
  rintro e w1 ⟨x, y, b, rfl, hc, n, rfl⟩
  have hl := cuts_len hc
  have HC := Lib.hid hc
  have HX : Hid (x.length ≤ 1000000) := Nat.le_trans hl.1 HLn.out
  have HY : Hid (y.length ≤ 1000000) := Nat.le_trans hl.2 HLn.out
  clear hc hl HCu
  go_wp2_with fail
  have z0 : ((w.alloc (Obj.cells #[Value.int IntKind.i64 0, Value.int IntKind.i64 0] 23)).drewN n).cell? ⟨w.heap.size, 0, none⟩ = some (.int .i64 0) := by go_simp
  have z1 : ((w.alloc (Obj.cells #[Value.int IntKind.i64 0, Value.int IntKind.i64 0] 23)).drewN n).cell? ⟨w.heap.size, 1, none⟩ = some (.int .i64 0) := by go_simp
  have f0 : ((w.alloc (Obj.cells #[Value.int IntKind.i64 0, Value.int IntKind.i64 0] 23)).drewN n).frozen? ⟨w.heap.size, 0, none⟩ = false := by go_simp
  have f1 : ((w.alloc (Obj.cells #[Value.int IntKind.i64 0, Value.int IntKind.i64 0] 23)).drewN n).frozen? ⟨w.heap.size, 1, none⟩ = false := by go_simp
  have hB : Below w.heap.size w ((w.alloc (Obj.cells #[Value.int IntKind.i64 0, Value.int IntKind.i64 0] 23)).drewN n) := bel_drewN (bel_box w _) n
  generalize (w.alloc (Obj.cells #[Value.int IntKind.i64 0, Value.int IntKind.i64 0] 23)).drewN n = w1 at *
  have HB := Lib.hid hB
  clear hB
  refine (HNu.out x HX.out w1 (HLd.out.below HB.out)).mono ?_
  rintro e w2 ⟨rfl, hb⟩
  have h2 : w.heap.size < w1.heap.size := lt_of_cell z0
  replace z0 := (hb.cell (p := ⟨w.heap.size, 0, none⟩) h2).trans z0
  replace z1 := (hb.cell (p := ⟨w.heap.size, 1, none⟩) h2).trans z1
  replace f0 := (hb.frozen (p := ⟨w.heap.size, 0, none⟩) h2).trans f0
  replace f1 := (hb.frozen (p := ⟨w.heap.size, 1, none⟩) h2).trans f1
  replace HB := bel_tr HB hb
  clear hb h2
  go_wp2_with fail
  refine (HNu.out y HY.out w2 (HLd.out.below HB.out)).mono ?_
  rintro e w3 ⟨rfl, hb⟩
  have h2 : w.heap.size < w2.heap.size := lt_of_cell z0
  replace z0 := (hb.cell (p := ⟨w.heap.size, 0, none⟩) h2).trans z0
  replace z1 := (hb.cell (p := ⟨w.heap.size, 1, none⟩) h2).trans z1
  replace f0 := (hb.frozen (p := ⟨w.heap.size, 0, none⟩) h2).trans f0
  replace f1 := (hb.frozen (p := ⟨w.heap.size, 1, none⟩) h2).trans f1
  replace HB := bel_tr HB hb
  clear hb h2 HNu HX HY
  have HNo := Lib.hid (fun h => prsR_no HC.out h)
  have HOk := Lib.hid (fun h1 h2 => prsR_ok (l := l) (d := (numD x, numD y)) h1 h2)
  have HT2 : Hid ((txtR (numD x, numD y)).2 = 0 ∨ (txtR (numD x, numD y)).2 = 2) := by
    show _ ∨ _
    unfold txtR
    split
    · exact .inl rfl
    · exact .inr rfl
  generalize numD x = a at *
  generalize numD y = c at *
  clear HC
  go_wp2_with fail
  have hB4 : Below w3.heap.size w3 (w3.alloc (Obj.cells #[Value.int IntKind.i64 a, Value.int IntKind.i64 c] 23)) := bel_box w3 _
  refine (HTx.out (a, c) _ (HLd.out.below (HB.out.trans (hB4.mono HB.out.size)))).mono ?_
  rintro e w5 ⟨rfl, hb⟩
  have h3 : w3.heap.size < (w3.alloc (Obj.cells #[Value.int IntKind.i64 a, Value.int IntKind.i64 c] 23)).heap.size := by simp
  have k0 : w5.cell? ⟨w3.heap.size, 0, none⟩ = some (.int .i64 a) := (hb.cell (p := ⟨_, _, none⟩) h3).trans (by go_simp)
  have k1 : w5.cell? ⟨w3.heap.size, 1, none⟩ = some (.int .i64 c) := (hb.cell (p := ⟨_, _, none⟩) h3).trans (by go_simp)
  have hB5 : Below w3.heap.size w3 w5 := hB4.trans (hb.mono (Nat.le_of_lt h3))
  have h2 : w.heap.size < w3.heap.size := lt_of_cell z0
  replace z0 := (hB5.cell (p := ⟨w.heap.size, 0, none⟩) h2).trans z0
  replace z1 := (hB5.cell (p := ⟨w.heap.size, 1, none⟩) h2).trans z1
  replace f0 := (hB5.frozen (p := ⟨w.heap.size, 0, none⟩) h2).trans f0
  replace f1 := (hB5.frozen (p := ⟨w.heap.size, 1, none⟩) h2).trans f1
  replace HB := bel_tr HB hB5
  clear hb h2 h3 hB5 hB4 HTx HLd
  generalize (txtR (a, c)).2 = q at *
  generalize (txtR (a, c)).1 = s at *
  rcases HT2.out with rfl | rfl
  · by_cases hs : s = l
    · subst hs
      have HE := Lib.hid (HOk.out rfl rfl)
      clear HOk HNo HT2
      generalize (⟨s.toArray⟩ : ByteArray) = S at *
      go_wp2_with fail
      (try simp only [Exit.inBlock, Exit.then])
      refine bodyPost_ret (v := .tuple #[dv (a, c), .int .i64 0]) (by rw [results_cell_tmp (fn := Tryz.f54) (p := 2) (u := 3) (ty := 23) rfl]; go_simp) rfl ?_
      rw [HE.out]
      exact ⟨rfl, (HB.out.setCell (p := ⟨w.heap.size, 0, none⟩) (Nat.le_refl _) _).setCell (p := ⟨w.heap.size, 1, none⟩) (Nat.le_refl _) _⟩
    · have hb : ((⟨s.toArray⟩ : ByteArray).toList == (⟨l.toArray⟩ : ByteArray).toList) = false := by
        rw [beq_eq_false_iff_ne]
        intro h
        exact hs (by simpa using h)
      have HE := Lib.hid (HNo.out (fun h => hs h.2))
      clear HOk HNo HT2 hs
      generalize (⟨s.toArray⟩ : ByteArray) = S at *
      generalize (⟨l.toArray⟩ : ByteArray) = S2 at *
      go_wp2_with fail
      (try simp only [Exit.inBlock, Exit.then])
      refine bodyPost_ret (v := .tuple #[dv (0, 0), .int .i64 6]) (by rw [results_cell_tmp (fn := Tryz.f54) (p := 2) (u := 3) (ty := 23) rfl]; go_simp) rfl ?_
      rw [HE.out]
      exact ⟨rfl, (HB.out.setCell (p := ⟨w.heap.size, 0, none⟩) (Nat.le_refl _) _).setCell (p := ⟨w.heap.size, 1, none⟩) (Nat.le_refl _) _⟩
  · have HE := Lib.hid (HNo.out (fun h => by cases h.1))
    clear HOk HNo HT2
    generalize (⟨s.toArray⟩ : ByteArray) = S at *
    generalize (⟨l.toArray⟩ : ByteArray) = S2 at *
    go_wp2_with fail
    (try simp only [Exit.inBlock, Exit.then])
    refine bodyPost_ret (v := .tuple #[dv (0, 0), .int .i64 6]) (by rw [results_cell_tmp (fn := Tryz.f54) (p := 2) (u := 3) (ty := 23) rfl]; go_simp) rfl ?_
    rw [HE.out]
    exact ⟨rfl, (HB.out.setCell (p := ⟨w.heap.size, 0, none⟩) (Nat.le_refl _) _).setCell (p := ⟨w.heap.size, 1, none⟩) (Nat.le_refl _) _⟩
end Go.Proofs.YtmmcnpcijeahcabGreatDoor.D
