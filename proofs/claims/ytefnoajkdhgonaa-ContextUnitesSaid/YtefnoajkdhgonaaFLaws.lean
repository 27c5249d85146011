/-
  What the laws call, the examples one by one, and the classes of worlds.
-/
import Derived.Test.YtefnoajkdhgonaaFRefs
import Derived.Test.YtefnoajkdhgonaaFVals

/-
  The law's helpers.
-/
section
namespace Go.Proofs.Ytefnoajkdhgonaa.F
set_option linter.unusedVariables false
open Go.RowKit V Go.Sort D
open E (SV SV.nil SV.keep SV.of_od)

set_option maxRecDepth 100000 in
theorem light_any (xs ys : List Dt) (a b : Option Addr) (n m : Nat) (w : World) :
    Calls Try.prog 9 #[cv (.slice a xs.length n) (.slice b ys.length m)] w fun e w' => e = .returned (.bool (decide (xs.length ≤ 40 ∧ ys.length ≤ 40))) ∧ Below w.heap.size w w' := by
  have HB := Lib.hid (bel_box w (cbox (.slice a xs.length n) (.slice b ys.length m)))
  by_cases h1 : xs.length ≤ 40
  · have e1 : (xs.length : Int) ≤ 40 := by omega
    by_cases h2 : ys.length ≤ 40
    · have e2 : (ys.length : Int) ≤ 40 := by omega
      have hR : decide (xs.length ≤ 40 ∧ ys.length ≤ 40) = true := by simp [h1, h2]
      rw [hR]
      clear hR h1 h2
      go_enter Try.func9, Try.ntmps9
      go_wp2_with fail
      go_ret
      exact ⟨rfl, HB.out⟩
    · have e2 : ¬ (ys.length : Int) ≤ 40 := by omega
      have hR : decide (xs.length ≤ 40 ∧ ys.length ≤ 40) = false := by simp [h2]
      rw [hR]
      clear hR h1 h2
      go_enter Try.func9, Try.ntmps9
      go_wp2_with fail
      go_ret
      exact ⟨rfl, HB.out⟩
  · have e1 : ¬ (xs.length : Int) ≤ 40 := by omega
    have hR : decide (xs.length ≤ 40 ∧ ys.length ≤ 40) = false := by simp [h1]
    rw [hR]
    clear hR h1
    go_enter Try.func9, Try.ntmps9
    go_wp2_with fail
    go_ret
    exact ⟨rfl, HB.out⟩

/-- Two boxes, one behind the other. -/
theorem two_boxes (w : World) (x y u v : Value) : Bc ((w.alloc (cbox x y)).alloc (cbox u v)) w.heap.size x y ∧ Bc ((w.alloc (cbox x y)).alloc (cbox u v)) (w.heap.size + 1) u v ∧ Below w.heap.size w ((w.alloc (cbox x y)).alloc (cbox u v)) := by
  have hsz : (w.alloc (cbox x y)).heap.size = w.heap.size + 1 := by simp
  have hb := bel_box (w.alloc (cbox x y)) (cbox u v)
  have h2 := two_new (w.alloc (cbox x y)) u v
  rw [hsz] at h2
  exact ⟨(two_new w x y).keep hb, h2, (bel_tr (Lib.hid (bel_box w (cbox x y))) hb).out⟩

set_option maxRecDepth 100000 in
theorem gives_true (c : Ct) (x y u v : Value) (q : Int) (w : World) (hx : SV w x c.1) (hy : SV w y c.2) (hu : SV w u c.1) (hv : SV w v c.2) (hl : c.1.length ≤ 1000000 ∧ c.2.length ≤ 1000000) :
    Calls Try.prog 21 #[cv x y, .int .i64 q, cv u v, .int .i64 q] w fun e w' => e = .returned (.bool true) ∧ Below w.heap.size w w' := by
  obtain ⟨h0, h1, hb⟩ := two_boxes w x y u v
  have HB := Lib.hid hb
  have HX := Lib.hid (hx.keep hb)
  have HY := Lib.hid (hy.keep hb)
  have HU := Lib.hid (hu.keep hb)
  have HV := Lib.hid (hv.keep hb)
  have HL := Lib.hid hl
  have k0 := h0.1
  have k1 := h0.2
  have k2 := h1.1
  have k3 := h1.2
  clear hx hy hu hv hl hb h0 h1
  go_enter Try.func21, Try.ntmps21
  go_wp2_with fail
  generalize (w.alloc (cbox x y)).alloc (cbox u v) = w1 at *
  obtain ⟨a1, n1, rfl, r1, -⟩ := HX.out
  obtain ⟨a2, n2, rfl, r2, -⟩ := HY.out
  obtain ⟨a3, n3, rfl, r3, -⟩ := HU.out
  obtain ⟨a4, n4, rfl, r4, -⟩ := HV.out
  have HE := Lib.hid (equal_ref c.1 c.2 c.1 c.2 a1 a2 a3 a4 n1 n2 n3 n4 w1 r1 r2 r3 r4 HL.out.1 HL.out.2 HL.out.1 HL.out.2)
  rw [show decide ((c.1, c.2) = (c.1, c.2)) = true by simp] at HE
  clear r1 r2 r3 r4
  refine HE.out.mono ?_
  rintro e w2 ⟨rfl, hb⟩
  replace HB := bel_tr HB hb
  clear hb HE k0 k1 k2 k3
  go_wp2_with fail
  go_ret
  exact ⟨rfl, HB.out⟩

set_option maxRecDepth 100000 in
set_option maxHeartbeats 1000000 in
theorem compacts_true (xs ys : List Dt) (a b : Option Addr) (n m : Nat) (u v : Value) (C : Ct) (z : Int) (w : World) (hx : RowD w a xs) (hy : RowD w b ys) (hna : a = none → n = 0) (hlx : xs.length ≤ 900000) (hly : ys.length ≤ 900000) (hu : SV w u C.1) (hv : SV w v C.2) (hl : C.1.length ≤ 1000000 ∧ C.2.length ≤ 1000000) (h : compB (xs, ys) = (C, z)) :
    Calls Try.prog 17 #[cv (.slice a xs.length n) (.slice b ys.length m), cv u v, .int .i64 z] w fun e w' => e = .returned (.bool true) ∧ Below w.heap.size w w' := by
  obtain ⟨h0, h1, hb⟩ := two_boxes w (.slice a xs.length n) (.slice b ys.length m) u v
  have HB := Lib.hid hb
  have Hhx := Lib.hid (hx.keep hb)
  have Hhy := Lib.hid (hy.keep hb)
  have HU := Lib.hid (hu.keep hb)
  have HV := Lib.hid (hv.keep hb)
  have HL := Lib.hid hl
  have HT := Lib.hid h1
  have HC := Lib.hid (fun w h1 h2 => compact_any xs ys a b n m w h1 h2 hna hlx hly)
  rw [h] at HC
  have k0 := h0.1
  have k1 := h0.2
  clear hu hv hl hb h h0 h1 hx hy hna hlx hly
  go_enter Try.func17, Try.ntmps17
  go_wp2_with fail
  generalize (w.alloc (cbox (.slice a xs.length n) (.slice b ys.length m))).alloc (cbox u v) = w1 at *
  refine (HC.out _ Hhx.out Hhy.out).mono ?_
  rintro e w2 ⟨x, y, rfl, ho, hb⟩
  have HO := Lib.hid ho
  replace HU := Lib.hid (HU.out.keep hb)
  replace HV := Lib.hid (HV.out.keep hb)
  replace HT := Lib.hid (HT.out.keep hb)
  replace HB := bel_tr HB hb
  clear ho hb HC
  obtain ⟨a3, n3, b3, m3, rfl, rfl⟩ := HO.out.shape
  have hb := bel_box w2 (cbox (.slice a3 C.1.length n3) (.slice b3 C.2.length m3))
  have HZ := Lib.hid (two_new w2 (.slice a3 C.1.length n3) (.slice b3 C.2.length m3))
  replace HO := Lib.hid (HO.out.below hb)
  replace HU := Lib.hid (HU.out.keep hb)
  replace HV := Lib.hid (HV.out.keep hb)
  replace HT := Lib.hid (HT.out.keep hb)
  replace HB := bel_tr HB hb
  clear hb
  try clear k0
  try clear k1
  have k2 := HT.out.1
  have k3 := HT.out.2
  have k4 := HZ.out.1
  have k5 := HZ.out.2
  go_wp2_with fail
  generalize w2.alloc (cbox (.slice a3 C.1.length n3) (.slice b3 C.2.length m3)) = w3 at *
  refine (gives_true C _ _ u v z w3 (SV.of_od HO.out.1) (SV.of_od HO.out.2) HU.out HV.out HL.out).mono ?_
  rintro e w4 ⟨rfl, hb⟩
  replace HB := bel_tr HB hb
  clear hb k2 k3 k4 k5
  go_wp2_with fail
  go_ret
  exact ⟨rfl, HB.out⟩

set_option maxRecDepth 100000 in
set_option maxHeartbeats 1000000 in
theorem made_true (l : List Dt) (p : Option Addr) (j : Nat) (u v : Value) (C : Ct) (z : Int) (w : World) (hx : RowD w p l) (hlx : l.length ≤ 400000) (hu : SV w u C.1) (hv : SV w v C.2) (hl : C.1.length ≤ 1000000 ∧ C.2.length ≤ 1000000) (h : madeB l = (C, z)) :
    Calls Try.prog 30 #[.slice p l.length j, cv u v, .int .i64 z] w fun e w' => e = .returned (.bool true) ∧ Below w.heap.size w w' := by
  have hb := bel_box w (cbox u v)
  have h1 := two_new w u v
  have HB := Lib.hid hb
  have Hhx := Lib.hid (hx.keep hb)
  have HU := Lib.hid (hu.keep hb)
  have HV := Lib.hid (hv.keep hb)
  have HL := Lib.hid hl
  have HT := Lib.hid h1
  have HC := Lib.hid (fun w h1 => of_any6 l p j w h1 hlx)
  rw [h] at HC
  clear hu hv hl hb h h1 hx hlx
  go_enter Try.func30, Try.ntmps30
  go_wp2_with fail
  generalize w.alloc (cbox u v) = w1 at *
  refine (HC.out _ Hhx.out).mono ?_
  rintro e w2 ⟨x, y, rfl, ho, hb⟩
  have HO := Lib.hid ho
  replace HU := Lib.hid (HU.out.keep hb)
  replace HV := Lib.hid (HV.out.keep hb)
  replace HT := Lib.hid (HT.out.keep hb)
  replace HB := bel_tr HB hb
  clear ho hb HC
  obtain ⟨a3, n3, b3, m3, rfl, rfl⟩ := HO.out.shape
  have hb := bel_box w2 (cbox (.slice a3 C.1.length n3) (.slice b3 C.2.length m3))
  have HZ := Lib.hid (two_new w2 (.slice a3 C.1.length n3) (.slice b3 C.2.length m3))
  replace HO := Lib.hid (HO.out.below hb)
  replace HU := Lib.hid (HU.out.keep hb)
  replace HV := Lib.hid (HV.out.keep hb)
  replace HT := Lib.hid (HT.out.keep hb)
  replace HB := bel_tr HB hb
  clear hb
  try clear k0
  try clear k1
  have k2 := HT.out.1
  have k3 := HT.out.2
  have k4 := HZ.out.1
  have k5 := HZ.out.2
  go_wp2_with fail
  generalize w2.alloc (cbox (.slice a3 C.1.length n3) (.slice b3 C.2.length m3)) = w3 at *
  refine (gives_true C _ _ u v z w3 (SV.of_od HO.out.1) (SV.of_od HO.out.2) HU.out HV.out HL.out).mono ?_
  rintro e w4 ⟨rfl, hb⟩
  replace HB := bel_tr HB hb
  clear hb k2 k3 k4 k5
  go_wp2_with fail
  go_ret
  exact ⟨rfl, HB.out⟩

set_option maxRecDepth 100000 in
set_option maxHeartbeats 1000000 in
theorem added_true (xs ys : List Dt) (a b : Option Addr) (n m : Nat) (l : List Dt) (p : Option Addr) (j : Nat) (u v : Value) (C : Ct) (z : Int) (w : World) (hx : RowD w a xs) (hy : RowD w b ys) (hl0 : RowD w p l) (hna : a = none → n = 0) (hnb : b = none → m = 0) (hlx : xs.length ≤ 400000) (hly : ys.length ≤ 400000) (hll : l.length ≤ 400000) (hu : SV w u C.1) (hv : SV w v C.2) (hl : C.1.length ≤ 1000000 ∧ C.2.length ≤ 1000000) (h : addB (xs, ys) l = (C, z)) :
    Calls Try.prog 31 #[cv (.slice a xs.length n) (.slice b ys.length m), .slice p l.length j, cv u v, .int .i64 z] w fun e w' => e = .returned (.bool true) ∧ Below w.heap.size w w' := by
  obtain ⟨h0, h1, hb⟩ := two_boxes w (.slice a xs.length n) (.slice b ys.length m) u v
  have HB := Lib.hid hb
  have Hhx := Lib.hid (hx.keep hb)
  have Hhy := Lib.hid (hy.keep hb)
  have Hhl0 := Lib.hid (hl0.keep hb)
  have HU := Lib.hid (hu.keep hb)
  have HV := Lib.hid (hv.keep hb)
  have HL := Lib.hid hl
  have HT := Lib.hid h1
  have HC := Lib.hid (fun w h1 h2 h3 => add_any6 xs ys l a b p n m j w h1 h2 h3 hna hnb hlx hly hll)
  rw [h] at HC
  have k0 := h0.1
  have k1 := h0.2
  clear hu hv hl hb h h0 h1 hx hy hl0 hna hnb hlx hly hll
  go_enter Try.func31, Try.ntmps31
  go_wp2_with fail
  generalize (w.alloc (cbox (.slice a xs.length n) (.slice b ys.length m))).alloc (cbox u v) = w1 at *
  refine (HC.out _ Hhx.out Hhy.out Hhl0.out).mono ?_
  rintro e w2 ⟨x, y, rfl, ho, hb⟩
  have HO := Lib.hid ho
  replace HU := Lib.hid (HU.out.keep hb)
  replace HV := Lib.hid (HV.out.keep hb)
  replace HT := Lib.hid (HT.out.keep hb)
  replace HB := bel_tr HB hb
  clear ho hb HC
  obtain ⟨a3, n3, b3, m3, rfl, rfl⟩ := HO.out.shape
  have hb := bel_box w2 (cbox (.slice a3 C.1.length n3) (.slice b3 C.2.length m3))
  have HZ := Lib.hid (two_new w2 (.slice a3 C.1.length n3) (.slice b3 C.2.length m3))
  replace HO := Lib.hid (HO.out.below hb)
  replace HU := Lib.hid (HU.out.keep hb)
  replace HV := Lib.hid (HV.out.keep hb)
  replace HT := Lib.hid (HT.out.keep hb)
  replace HB := bel_tr HB hb
  clear hb
  try clear k0
  try clear k1
  have k2 := HT.out.1
  have k3 := HT.out.2
  have k4 := HZ.out.1
  have k5 := HZ.out.2
  go_wp2_with fail
  generalize w2.alloc (cbox (.slice a3 C.1.length n3) (.slice b3 C.2.length m3)) = w3 at *
  refine (gives_true C _ _ u v z w3 (SV.of_od HO.out.1) (SV.of_od HO.out.2) HU.out HV.out HL.out).mono ?_
  rintro e w4 ⟨rfl, hb⟩
  replace HB := bel_tr HB hb
  clear hb k2 k3 k4 k5
  go_wp2_with fail
  go_ret
  exact ⟨rfl, HB.out⟩

/-- Three boxes. -/
theorem three_boxes (w : World) (x y u v s t : Value) : Bc (((w.alloc (cbox x y)).alloc (cbox u v)).alloc (cbox s t)) w.heap.size x y ∧ Bc (((w.alloc (cbox x y)).alloc (cbox u v)).alloc (cbox s t)) (w.heap.size + 1) u v ∧ Bc (((w.alloc (cbox x y)).alloc (cbox u v)).alloc (cbox s t)) (w.heap.size + 1 + 1) s t ∧ Below w.heap.size w (((w.alloc (cbox x y)).alloc (cbox u v)).alloc (cbox s t)) := by
  obtain ⟨h0, h1, hb⟩ := two_boxes w x y u v
  have hsz : ((w.alloc (cbox x y)).alloc (cbox u v)).heap.size = w.heap.size + 1 + 1 := by simp
  have hb2 := bel_box ((w.alloc (cbox x y)).alloc (cbox u v)) (cbox s t)
  have h2 := two_new ((w.alloc (cbox x y)).alloc (cbox u v)) s t
  rw [hsz] at h2
  exact ⟨h0.keep hb2, h1.keep hb2, h2, (bel_tr (Lib.hid hb) hb2).out⟩

set_option maxRecDepth 100000 in
set_option maxHeartbeats 1000000 in
theorem united_true (xs ys : List Dt) (a b : Option Addr) (n m : Nat) (us vs : List Dt) (p q : Option Addr) (j k : Nat) (u v : Value) (C : Ct) (z : Int) (w : World) (hx : RowD w a xs) (hy : RowD w b ys) (hp : RowD w p us) (hq : RowD w q vs) (hna : a = none → n = 0) (hnb : b = none → m = 0) (hnp : p = none → j = 0) (hnq : q = none → k = 0) (hlx : xs.length ≤ 400000) (hly : ys.length ≤ 400000) (hlu : us.length ≤ 400000) (hlv : vs.length ≤ 400000) (hu : SV w u C.1) (hv : SV w v C.2) (hl : C.1.length ≤ 1000000 ∧ C.2.length ≤ 1000000) (h : unionB (xs, ys) (us, vs) = (C, z)) :
    Calls Try.prog 33 #[cv (.slice a xs.length n) (.slice b ys.length m), cv (.slice p us.length j) (.slice q vs.length k), cv u v, .int .i64 z] w fun e w' => e = .returned (.bool true) ∧ Below w.heap.size w w' := by
  obtain ⟨h0, h1, h2, hb⟩ := three_boxes w (.slice a xs.length n) (.slice b ys.length m) (.slice p us.length j) (.slice q vs.length k) u v
  have HB := Lib.hid hb
  have Hhx := Lib.hid (hx.keep hb)
  have Hhy := Lib.hid (hy.keep hb)
  have Hhp := Lib.hid (hp.keep hb)
  have Hhq := Lib.hid (hq.keep hb)
  have HU := Lib.hid (hu.keep hb)
  have HV := Lib.hid (hv.keep hb)
  have HL := Lib.hid hl
  have HT := Lib.hid h2
  have HC := Lib.hid (fun w h1 h2 h3 h4 => union_any6 xs ys us vs a b p q n m j k w h1 h2 h3 h4 hna hnb hnp hnq hlx hly hlu hlv)
  rw [h] at HC
  have k0 := h0.1
  have k1 := h0.2
  have k2 := h1.1
  have k3 := h1.2
  clear hu hv hl hb h h0 h1 h2 hx hy hp hq hna hnb hnp hnq hlx hly hlu hlv
  go_enter Try.func33, Try.ntmps33
  go_wp2_with fail
  generalize ((w.alloc (cbox (.slice a xs.length n) (.slice b ys.length m))).alloc (cbox (.slice p us.length j) (.slice q vs.length k))).alloc (cbox u v) = w1 at *
  refine (HC.out _ Hhx.out Hhy.out Hhp.out Hhq.out).mono ?_
  rintro e w2 ⟨x, y, rfl, ho, hb⟩
  have HO := Lib.hid ho
  replace HU := Lib.hid (HU.out.keep hb)
  replace HV := Lib.hid (HV.out.keep hb)
  replace HT := Lib.hid (HT.out.keep hb)
  replace HB := bel_tr HB hb
  clear ho hb HC k0 k1 k2 k3
  obtain ⟨a3, n3, b3, m3, rfl, rfl⟩ := HO.out.shape
  have hb := bel_box w2 (cbox (.slice a3 C.1.length n3) (.slice b3 C.2.length m3))
  have HZ := Lib.hid (two_new w2 (.slice a3 C.1.length n3) (.slice b3 C.2.length m3))
  replace HO := Lib.hid (HO.out.below hb)
  replace HU := Lib.hid (HU.out.keep hb)
  replace HV := Lib.hid (HV.out.keep hb)
  replace HT := Lib.hid (HT.out.keep hb)
  replace HB := bel_tr HB hb
  clear hb
  have k2 := HT.out.1
  have k3 := HT.out.2
  have k4 := HZ.out.1
  have k5 := HZ.out.2
  go_wp2_with fail
  generalize w2.alloc (cbox (.slice a3 C.1.length n3) (.slice b3 C.2.length m3)) = w3 at *
  refine (gives_true C _ _ u v z w3 (SV.of_od HO.out.1) (SV.of_od HO.out.2) HU.out HV.out HL.out).mono ?_
  rintro e w4 ⟨rfl, hb⟩
  replace HB := bel_tr HB hb
  clear hb k2 k3 k4 k5
  go_wp2_with fail
  go_ret
  exact ⟨rfl, HB.out⟩

set_option maxRecDepth 100000 in
set_option maxHeartbeats 1000000 in
theorem within_true (xs ys : List Dt) (a b : Option Addr) (n m : Nat) (us vs : List Dt) (p q : Option Addr) (j k : Nat) (t : Bool) (z : Int) (w : World) (hx : RowD w a xs) (hy : RowD w b ys) (hp : RowD w p us) (hq : RowD w q vs) (hnp : p = none → j = 0) (hlx : xs.length ≤ 900000) (hly : ys.length ≤ 900000) (hlu : us.length ≤ 900000) (hlv : vs.length ≤ 900000) (h : withB (xs, ys) (us, vs) = (t, z)) :
    Calls Try.prog 34 #[cv (.slice a xs.length n) (.slice b ys.length m), cv (.slice p us.length j) (.slice q vs.length k), .bool t, .int .i64 z] w fun e w' => e = .returned (.bool true) ∧ Below w.heap.size w w' := by
  obtain ⟨h0, h1, hb⟩ := two_boxes w (.slice a xs.length n) (.slice b ys.length m) (.slice p us.length j) (.slice q vs.length k)
  have HB := Lib.hid hb
  have Hhx := Lib.hid (hx.keep hb)
  have Hhy := Lib.hid (hy.keep hb)
  have Hhp := Lib.hid (hp.keep hb)
  have Hhq := Lib.hid (hq.keep hb)
  have HC := Lib.hid (fun w h1 h2 h3 h4 => within_any6 xs ys us vs a b p q n m j k w h1 h2 h3 h4 hnp hlx hly hlu hlv)
  rw [h] at HC
  have e1 : (t == t) = true := by simp
  have k0 := h0.1
  have k1 := h0.2
  have k2 := h1.1
  have k3 := h1.2
  clear hb h h0 h1 hx hy hp hq hnp hlx hly hlu hlv
  go_enter Try.func34, Try.ntmps34
  go_wp2_with fail
  generalize (w.alloc (cbox (.slice a xs.length n) (.slice b ys.length m))).alloc (cbox (.slice p us.length j) (.slice q vs.length k)) = w1 at *
  refine (HC.out _ Hhx.out Hhy.out Hhp.out Hhq.out).mono ?_
  rintro e w2 ⟨rfl, hb⟩
  replace HB := bel_tr HB hb
  clear hb HC k0 k1 k2 k3
  go_wp2_with fail
  go_ret
  exact ⟨by simp, HB.out⟩
end Go.Proofs.Ytefnoajkdhgonaa.F
end

/-
  The law's copies, lists and contexts.
-/
section
namespace Go.Proofs.Ytefnoajkdhgonaa.F
set_option linter.unusedVariables false
open Go.RowKit V Go.Sort D
open E (SV SV.nil SV.keep SV.of_od)

set_option maxRecDepth 100000 in
set_option maxHeartbeats 1000000 in
theorem own_any (xs ys : List Dt) (a b : Option Addr) (n m : Nat) (w : World) (hx : RowD w a xs) (hy : RowD w b ys) (hna : a = none → n = 0) (hnb : b = none → m = 0) (hlx : xs.length ≤ 1000000) (hly : ys.length ≤ 1000000) :
    Calls Try.prog 19 #[cv (.slice a xs.length n) (.slice b ys.length m)] w fun e w' => ∃ x y, e = .returned (cv x y) ∧ Ov w' w.heap.size x y (xs, ys) ∧ Below w.heap.size w w' := by
  have HT := Lib.hid (two_new w (.slice a xs.length n) (.slice b ys.length m))
  have HB := Lib.hid (bel_box w (cbox (.slice a xs.length n) (.slice b ys.length m)))
  have hb := bel_box (w.alloc (cbox (.slice a xs.length n) (.slice b ys.length m))) (cbox (.slice none 0 0) (.slice none 0 0))
  have HR := Lib.hid (rc_new (w.alloc (cbox (.slice a xs.length n) (.slice b ys.length m))) none none 0 0 0 0)
  have hsz : (w.alloc (cbox (.slice a xs.length n) (.slice b ys.length m))).heap.size = w.heap.size + 1 := by simp
  rw [hsz] at HR
  replace HT := Lib.hid (HT.out.keep hb)
  replace HB := bel_tr HB hb
  have HX := Lib.hid (hx.keep HB.out)
  have HYr := Lib.hid (hy.keep HB.out)
  have HNa := Lib.hid hna
  have HNb := Lib.hid hnb
  have HLx := Lib.hid hlx
  have HLy := Lib.hid hly
  clear hx hy hna hnb hlx hly hb hsz
  go_enter Try.func19, Try.ntmps19
  go_wp2_with fail
  generalize (w.alloc (cbox (.slice a xs.length n) (.slice b ys.length m))).alloc (cbox (.slice none 0 0) (.slice none 0 0)) = w1 at *
  have HSb := Lib.hid (show Sb w.heap.size (.slice a xs.length n) (.slice b ys.length m) w1 from HT.out)
  clear HT
  refine Sch.wp_region_tree (Sb w.heap.size (.slice a xs.length n) (.slice b ys.length m)) (.take 0 (.take 1 (.take 3 (.take 4 (.one 2 (.one 5 (.one 6 (.one 7 .done)))))))) (by kernel_rfl) (by kernel_rfl) (HSb.out.keep ((Below.refl _ _).drew)) ?_
  have hb : Below w1.heap.size w1 w1.drew := (Below.refl _ _).drew
  replace HSb := Lib.hid (HSb.out.keep hb)
  replace HR := Lib.hid (HR.out.keep hb)
  replace HX := Lib.hid (HX.out.keep hb)
  replace HYr := Lib.hid (HYr.out.keep hb)
  replace HB := bel_tr HB hb
  clear hb
  generalize w1.drew = w2 at *
  refine Sch.tree_q rfl rfl (fun K hK => ?_)
  go_big_quiet_op
  first | refine hK _ ?_ | refine ⟨_, fun _ _ => rfl, hK _ ?_⟩
  clear hK K
  refine tree_load _ _ _ _ _ rfl rfl rfl rfl (by first | exact Sb.l | exact Sb.l0 | exact Sb.l1) rfl ?_
  simp only [Act.put, List.setIfInBounds_toArray, List.set_cons_zero, List.set_cons_succ]
  refine Sch.tree_q rfl rfl (fun K hK => ?_)
  go_big_quiet_op
  first | refine hK _ ?_ | refine ⟨_, fun _ _ => rfl, hK _ ?_⟩
  clear hK K
  refine tree_load _ _ _ _ _ rfl rfl rfl rfl (by first | exact Sb.l | exact Sb.l0 | exact Sb.l1) rfl ?_
  simp only [Act.put, List.setIfInBounds_toArray, List.set_cons_zero, List.set_cons_succ]
  refine tree_appD _ _ _ rfl rfl rfl Try.underlying23 infoD _ [] rfl (OD.nil w2 w2.heap.size E) a xs n rfl HX.out HNa.out (by have := HLx.out; simp; omega) (Nat.le_refl _) ?_
  intro v3 w3 ho hg _
  have hb : Below w2.heap.size w2 w3 := (Below.refl _ _).grown hg (Nat.le_refl _) (fun k hk => by cases hk)
  have HO1 : Hid (OD w3 w2.heap.size E v3 xs) := ho
  replace HSb := Lib.hid (HSb.out.keep hb)
  have hl1 := HR.out.lt
  replace HR := Lib.hid (HR.out.keep hb)
  replace HYr := Lib.hid (HYr.out.keep hb)
  have HBs := Lib.hid HB.out.size
  replace HB := bel_tr HB hb
  have HL1 := Lib.hid hl1
  have HS2 := Lib.hid hb.size
  clear ho hg hb hl1
  refine ⟨HSb.out, ?_⟩
  refine tree_appD _ _ _ rfl rfl rfl Try.underlying22 infoD _ [] rfl (OD.nil w3 w3.heap.size E) b ys m rfl HYr.out HNb.out (by have := HLy.out; simp; omega) (Nat.le_refl _) ?_
  intro v4 w4 ho hg _
  have hb : Below w3.heap.size w3 w4 := (Below.refl _ _).grown hg (Nat.le_refl _) (fun k hk => by cases hk)
  have HO2 : Hid (OD w4 w2.heap.size E v4 ys) := OD.mono (show OD w4 w3.heap.size E v4 ys from ho) fun k hk => Nat.le_trans HS2.out (OD.lt (show OD w4 w3.heap.size E v4 ys from ho) k hk).1
  replace HO1 := Lib.hid (HO1.out.below hb)
  replace HSb := Lib.hid (HSb.out.keep hb)
  replace HR := Lib.hid (HR.out.keep hb)
  replace HB := bel_tr HB hb
  clear ho hg hb
  refine ⟨HSb.out, ?_⟩
  have HO : Hid (Ov w4 w2.heap.size v3 v4 (xs, ys)) := ⟨HO1.out, HO2.out⟩
  obtain ⟨a3, n3, b3, m3, rfl, rfl⟩ := HO.out.shape
  refine Sch.tree_e rfl rfl (fun K hK => ?_)
  go_wp2_with fail
  refine hK _ _ HSb.out ?_
  clear hK K
  obtain ⟨⟨u0, r0⟩, r1⟩ := HR.out.wc 0 (by omega)
  obtain ⟨⟨u1, r2⟩, r3⟩ := HR.out.wc 1 (by omega)
  have HP := Lib.hid (put_two (x := .slice a3 xs.length n3) (y := .slice b3 ys.length m3) HR.out.wc)
  have HOv := Lib.hid ((HO.out.put (g := w.heap.size + 1) (u := .slice a3 xs.length n3) (v := .slice b3 ys.length m3) HL1.out).mono HBs.out)
  have HB4 := Lib.hid (below_put2 (g := w.heap.size + 1) (y := .slice a3 xs.length n3) (z := .slice b3 ys.length m3) HB (by omega))
  have HSb2 : Hid (Sb w.heap.size (.slice a xs.length n) (.slice b ys.length m) ((w4.setCell ⟨w.heap.size + 1, 0, none⟩ (.slice a3 xs.length n3)).setCell ⟨w.heap.size + 1, 1, none⟩ (.slice b3 ys.length m3))) := Bc.set (Bc.set HSb.out (by omega)) (by omega)
  refine Sch.tree_e rfl rfl (fun K hK => ?_)
  go_wp2_with fail
  refine hK _ _ HSb2.out ?_
  clear hK K
  generalize (w4.setCell ⟨w.heap.size + 1, 0, none⟩ (.slice a3 xs.length n3)).setCell ⟨w.heap.size + 1, 1, none⟩ (.slice b3 ys.length m3) = W at *
  refine Sch.tree_n ?_
  have q0 := HP.out.1
  have q1 := HP.out.2
  go_wp2_with fail
  (try simp only [Exit.inBlock, Exit.then])
  refine bodyPost_ret (v := cv (.slice a3 xs.length n3) (.slice b3 ys.length m3)) (by rw [results_cell1 (fn := Try.f19) (p := 2) (ty := 25) rfl]; go_simp) rfl ?_
  exact ⟨_, _, rfl, HOv.out, HB4.out⟩

/-- Two numbers in memory, as a class of worlds. -/
def Sq (b o : Nat) (d : Dt) (w : World) : Prop := w.cell? ⟨b, o, none⟩ = some (.int .i64 d.1) ∧ w.cell? ⟨b, o + 1, none⟩ = some (.int .i64 d.2)
theorem Sq.keep {b o : Nat} {d : Dt} {w w' : World} (h : Sq b o d w) (hb : Below w.heap.size w w') : Sq b o d w' :=
  ⟨(hb.cell (p := ⟨b, o, none⟩) (lt_of_cell h.1)).trans h.1, (hb.cell (p := ⟨b, o + 1, none⟩) (lt_of_cell h.2)).trans h.2⟩
theorem Sq.l0 {b o : Nat} {d : Dt} : ∀ w, Sq b o d w → (Instr.loadAt 3 (.pointer (some ⟨b, o, none⟩))).run Try.prog w = .ok (.int .i64 d.1) w := fun w h => load_int h.1
theorem Sq.l1 {b o : Nat} {d : Dt} : ∀ w, Sq b o d w → (Instr.loadAt 3 (.pointer (some ⟨b, o + 1, none⟩))).run Try.prog w = .ok (.int .i64 d.2) w := fun w h => load_int h.2
theorem ix_num (b o n c k : Nat) (z : Int) (hz : z = (k : Int)) (hk : k < n) : ∀ w, (Instr.indexAt 80 (.slice (some ⟨b, o, none⟩) n c) (.int .i64 z)).run Try.prog w = .ok (.pointer (some ⟨b, o + k, none⟩)) w := by
  intro w
  subst hz
  have hk2 : (k : Int) < (n : Int) := by omega
  go_simp

set_option maxRecDepth 100000 in
set_option maxHeartbeats 1000000 in
theorem of_list (ds : List Dt) (a : Option Addr) (c : Nat) (w : World) (hx : RowD w a ds) (hl : ds.length ≤ 1000) :
    Calls Try.prog 41 #[.slice a (ds.length * 2) c] w fun e w' => ∃ v, e = .returned v ∧ OD w' w.heap.size E v ds ∧ Below w.heap.size w w' := by
  have HX := Lib.hid hx
  have HL := Lib.hid hl
  have hlj : ((ds.length * 2 : Nat) : Int) ≤ 2000 := by omega
  clear hx hl
  generalize hN : ds.length * 2 = N at *
  have HN := Lib.hid hN
  clear hN
  go_enter Try.func41, Try.ntmps41
  go_wp2_with fail
  go_loopw [3, 4] (fun v i wr => ∃ k t : Nat, k ≤ ds.length ∧ t = k * 2 ∧ i = .int .i64 (t : Int) ∧ Hid (Below w.heap.size w wr) ∧ Hid (OD wr w.heap.size E v (ds.take k))) (fun _ i _ => N + 1 - (intOf i).toNat)
  case atStart => exact ⟨0, 0, Nat.zero_le _, rfl, rfl, Below.refl _ _, by show OD _ _ _ _ _; rw [List.take_zero]; exact OD.nil _ _ _⟩
  case round =>
    obtain ⟨k, t, hk, ht, rfl, hh, HO⟩ := hrel
    have hN := HN.out
    by_cases hlt : k < ds.length
    · have hi1 : (t : Int) + 1 < (N : Int) := by omega
      have ht2 : (t : Int) ≤ 2000 := by omega
      obtain ⟨b1, o1, rfl, p0, p1⟩ := HX.out.get hh.out k hlt
      rw [← ht] at p0 p1
      have hix0 := ix_num b1 o1 N c t (t : Int) rfl (by omega)
      have hix1 := ix_num b1 o1 N c (t + 1) ((t : Int) + 1) (by omega) (by omega)
      have HF : Hid (ds.take (k + 1) = ds.take k ++ [ds[k]]) := by show _ = _; rw [List.take_succ_eq_append_getElem hlt]
      obtain ⟨q, hq⟩ : ∃ q, q = ds[k] := ⟨_, rfl⟩
      rw [← hq] at p0 p1 HF
      have HTk : Hid ((ds.take k).length ≤ 1000) := by show _ ≤ _; rw [List.length_take]; have := HL.out; omega
      have HTe := Lib.hid ht
      have HQe := Lib.hid hq
      clear hq hN ht
      obtain ⟨q1, q2⟩ := q
      have HS : Hid (Sq b1 (o1 + t) (q1, q2) wr) := ⟨p0, p1⟩
      clear p0 p1
      go_wp2_with fail
      refine Sch.wp_region_tree (Sq b1 (o1 + t) (q1, q2)) (.take 0 (.take 1 (.take 2 (.take 3 (.take 4 (.take 5 (.take 6 (.take 7 (.take 8 (.take 9 (.one 10 (.one 11 (.one 12 (.take 13 .done)))))))))))))) (by kernel_rfl) (by kernel_rfl) (HS.out.keep ((Below.refl _ _).drew)) ?_
      have hb : Below wr.heap.size wr wr.drew := (Below.refl _ _).drew
      replace HS := Lib.hid (HS.out.keep hb)
      replace HO := Lib.hid (HO.out.below hb)
      have HB1 := bel_tr hh hb
      clear hb
      generalize wr.drew = w2 at *
      refine Sch.tree_q rfl rfl (fun K hK => ?_)
      go_big_quiet_op
      first | refine hK _ ?_ | refine ⟨_, fun _ _ => rfl, hK _ ?_⟩
      clear hK K
      refine Sch.tree_q rfl rfl (fun K hK => ?_)
      go_big_quiet_op
      first | refine hK _ ?_ | refine ⟨_, fun _ _ => rfl, hK _ ?_⟩
      clear hK K
      refine Sch.tree_q rfl rfl (fun K hK => ?_)
      go_big_quiet_op
      first | refine hK _ ?_ | refine ⟨_, fun _ _ => rfl, hK _ ?_⟩
      clear hK K
      refine Sch.tree_q rfl rfl (fun K hK => ?_)
      go_big_quiet_op
      first | refine hK _ ?_ | refine ⟨_, fun _ _ => rfl, hK _ ?_⟩
      clear hK K
      refine tree_load _ _ _ _ _ rfl rfl rfl rfl (by first | exact Sq.l0 | exact Sq.l1) rfl ?_
      simp only [Act.put, List.setIfInBounds_toArray, List.set_cons_zero, List.set_cons_succ]
      refine Sch.tree_q rfl rfl (fun K hK => ?_)
      go_big_quiet_op
      first | refine hK _ ?_ | refine ⟨_, fun _ _ => rfl, hK _ ?_⟩
      clear hK K
      refine Sch.tree_q rfl rfl (fun K hK => ?_)
      go_big_quiet_op
      first | refine hK _ ?_ | refine ⟨_, fun _ _ => rfl, hK _ ?_⟩
      clear hK K
      refine Sch.tree_q rfl rfl (fun K hK => ?_)
      go_big_quiet_op
      first | refine hK _ ?_ | refine ⟨_, fun _ _ => rfl, hK _ ?_⟩
      clear hK K
      refine Sch.tree_q rfl rfl (fun K hK => ?_)
      go_big_quiet_op
      first | refine hK _ ?_ | refine ⟨_, fun _ _ => rfl, hK _ ?_⟩
      clear hK K
      refine tree_load _ _ _ _ _ rfl rfl rfl rfl (by first | exact Sq.l0 | exact Sq.l1) rfl ?_
      simp only [Act.put, List.setIfInBounds_toArray, List.set_cons_zero, List.set_cons_succ]
      refine Sch.tree_e rfl rfl (fun K hK => ?_)
      go_wp2_with fail
      refine hK _ _ HS.out ?_
      clear hK K
      have hb := bel_box w2 (.cells #[.int .i64 q1, .int .i64 q2] 38)
      have hl := lit_one w2 (q1, q2) 38
      replace HS := Lib.hid (HS.out.keep hb)
      replace HO := Lib.hid (HO.out.below hb)
      replace HB1 := bel_tr HB1 hb
      have HR := Lib.hid hl
      clear hb hl
      refine Sch.tree_e rfl rfl (fun K hK => ?_)
      go_wp2_with fail
      refine hK _ _ HS.out ?_
      clear hK K
      generalize w2.alloc (.cells #[.int .i64 q1, .int .i64 q2] 38) = w3 at *
      refine tree_appD _ _ _ rfl rfl rfl Try.underlying22 infoD _ _ rfl HO.out (some ⟨w2.heap.size, 0, none⟩) [(q1, q2)] 1 rfl HR.out (fun h => by cases h) (by have := HTk.out; show (ds.take k).length + 1 ≤ _; omega) HB1.out.size ?_
      intro v4 w4 ho hg _
      have HO4 : Hid (OD w4 w.heap.size E v4 (ds.take k ++ [(q1, q2)])) := ho
      have hb : Below w3.heap.size w3 w3 := Below.refl _ _
      have HB4 := Lib.hid (HB1.out.grown hg HB1.out.size (fun k hk => (HO.out.lt k hk).1))
      have HS4 : Hid (Sq b1 (o1 + t) (q1, q2) w4) := by
        obtain ⟨b2, o2, e, p0, p1⟩ := HX.out.get HB4.out k hlt
        cases e
        rw [← HQe.out, ← HTe.out] at p0 p1
        exact ⟨p0, p1⟩
      clear ho hg hb
      refine ⟨HS4.out, ?_⟩
      simp only [Act.put, List.setIfInBounds_toArray, List.set_cons_zero, List.set_cons_succ]
      refine Sch.tree_q rfl rfl (fun K hK => ?_)
      go_big_quiet_op
      first | refine hK _ ?_ | refine ⟨_, fun _ _ => rfl, hK _ ?_⟩
      clear hK K
      refine Sch.tree_n ?_
      go_wp2_with fail
      go_roundw
      case rel => exact ⟨k + 1, t + 2, by omega, by have := HTe.out; omega, by congr 1, HB4, by show OD _ _ _ _ _; rw [HF.out]; exact HO4.out⟩
      case measure => simp [intOf]; omega
    · obtain rfl : k = ds.length := by omega
      have hi1 : ¬ (t : Int) + 1 < (N : Int) := by omega
      have ht2 : (t : Int) ≤ 2000 := by omega
      rw [List.take_length] at HO
      go_wp2_with fail
      go_ret
      exact ⟨_, rfl, HO.out, hh.out⟩

def Tt (w : World) : Prop := True
set_option maxRecDepth 100000 in
set_option maxHeartbeats 1000000 in
theorem con_any (t : Nat) (ds : List Dt) (a : Option Addr) (c : Nat) (w : World) (hx : RowD w a ds) (hl : ds.length ≤ 1000) (ht : t ≤ ds.length) :
    Calls Try.prog 40 #[.int .i64 (t : Int), .slice a (ds.length * 2) c] w fun e w' => ∃ x y, e = .returned (cv x y) ∧ SV w' x (ds.take t) ∧ SV w' y (ds.drop t) ∧ Below w.heap.size w w' := by
  have HC := Lib.hid (fun w h => of_list ds a c w h hl)
  have HTl := Lib.hid ht
  have HR := Lib.hid (rc_new w none none 0 0 0 0)
  have HB := Lib.hid (bel_box w (cbox (.slice none 0 0) (.slice none 0 0)))
  have HX := Lib.hid (hx.keep HB.out)
  have h1 : (ds.take t).length = t := by rw [List.length_take]; omega
  have h2 : ds.length = t + (ds.drop t).length := by rw [List.length_drop]; omega
  have H1 := Lib.hid h1
  have H2 := Lib.hid h2
  clear hx hl ht h1 h2
  generalize hN : ds.length * 2 = N at *
  clear hN
  go_enter Try.func40, Try.ntmps40
  go_wp2_with fail
  generalize w.alloc (cbox (.slice none 0 0) (.slice none 0 0)) = w1 at *
  refine (HC.out _ HX.out).mono ?_
  rintro e w2 ⟨v, rfl, ho, hb⟩
  obtain ⟨a2, c2, rfl, hr, hn, hlc, -⟩ := ho.row
  replace HR := Lib.hid (HR.out.keep hb)
  replace HB := bel_tr HB hb
  have hc1 := cut_lo a2 ds.length c2 t (by have := HTl.out; omega)
  have hc2 := cut_hi a2 ds.length c2 t (ds.drop t).length H2.out hlc
  have hs1 : SV w2 (.slice a2 t c2) (ds.take t) := ⟨a2, c2, by rw [H1.out], hr.take t, fun h => (hn h).1, by rw [H1.out]; have := HTl.out; omega⟩
  have hs2 : SV w2 (.slice (off a2 c2 t) (ds.drop t).length (c2 - t)) (ds.drop t) := ⟨_, _, rfl, off_row hr c2 t hlc HTl.out, fun h => by rw [(hn (off_none h)).1]; omega, by have := H2.out; omega⟩
  have HS1 := Lib.hid hs1
  have HS2 := Lib.hid hs2
  clear ho hb hr hn hlc hs1 hs2 HC HX
  generalize off a2 c2 t = ao at *
  generalize c2 - t = co at *
  generalize (ds.drop t).length = lo at *
  go_wp2_with fail
  refine Sch.wp_region_tree Tt (.take 0 (.take 1 (.take 2 (.take 3 (.take 4 (.take 5 (.one 6 (.one 7 .done)))))))) (by kernel_rfl) (by kernel_rfl) trivial ?_
  have hb : Below w2.heap.size w2 w2.drew := (Below.refl _ _).drew
  replace HR := Lib.hid (HR.out.keep hb)
  replace HS1 := Lib.hid (HS1.out.keep hb)
  replace HS2 := Lib.hid (HS2.out.keep hb)
  replace HB := bel_tr HB hb
  clear hb
  generalize w2.drew = w3 at *
  refine Sch.tree_q rfl rfl (fun K hK => ?_)
  go_big_quiet_op
  first | refine hK _ ?_ | refine ⟨_, fun _ _ => rfl, hK _ ?_⟩
  clear hK K
  refine Sch.tree_q rfl rfl (fun K hK => ?_)
  go_big_quiet_op
  first | refine hK _ ?_ | refine ⟨_, fun _ _ => rfl, hK _ ?_⟩
  clear hK K
  refine Sch.tree_q rfl rfl (fun K hK => ?_)
  go_big_quiet_op
  first | refine hK _ ?_ | refine ⟨_, fun _ _ => rfl, hK _ ?_⟩
  clear hK K
  refine Sch.tree_q rfl rfl (fun K hK => ?_)
  go_big_quiet_op
  first | refine hK _ ?_ | refine ⟨_, fun _ _ => rfl, hK _ ?_⟩
  clear hK K
  refine Sch.tree_q rfl rfl (fun K hK => ?_)
  go_big_quiet_op
  first | refine hK _ ?_ | refine ⟨_, fun _ _ => rfl, hK _ ?_⟩
  clear hK K
  refine Sch.tree_q rfl rfl (fun K hK => ?_)
  go_big_quiet_op
  first | refine hK _ ?_ | refine ⟨_, fun _ _ => rfl, hK _ ?_⟩
  clear hK K
  refine Sch.tree_e rfl rfl (fun K hK => ?_)
  go_wp2_with fail
  refine hK _ _ trivial ?_
  clear hK K
  obtain ⟨⟨u0, r0⟩, r1⟩ := HR.out.wc 0 (by omega)
  obtain ⟨⟨u1, r2⟩, r3⟩ := HR.out.wc 1 (by omega)
  have HP := Lib.hid (put_two (x := .slice a2 t c2) (y := .slice ao lo co) HR.out.wc)
  have HX2 := Lib.hid (SV.put2 (y := .slice a2 t c2) (z := .slice ao lo co) HS1.out HR.out)
  have HY2 := Lib.hid (SV.put2 (y := .slice a2 t c2) (z := .slice ao lo co) HS2.out HR.out)
  have HB4 := Lib.hid (below_put2 (g := w.heap.size) (y := .slice a2 t c2) (z := .slice ao lo co) HB (by omega))
  refine Sch.tree_e rfl rfl (fun K hK => ?_)
  go_wp2_with fail
  refine hK _ _ trivial ?_
  clear hK K
  generalize (w3.setCell ⟨w.heap.size, 0, none⟩ (.slice a2 t c2)).setCell ⟨w.heap.size, 1, none⟩ (.slice ao lo co) = W at *
  refine Sch.tree_n ?_
  have q0 := HP.out.1
  have q1 := HP.out.2
  go_wp2_with fail
  (try simp only [Exit.inBlock, Exit.then])
  refine bodyPost_ret (v := cv (.slice a2 t c2) (.slice ao lo co)) (by rw [results_cell1 (fn := Try.f40) (p := 4) (ty := 25) rfl]; go_simp) rfl ?_
  exact ⟨_, _, rfl, HX2.out, HY2.out, HB4.out⟩
end Go.Proofs.Ytefnoajkdhgonaa.F
end

/-
  The examples, plainly.
-/
section
namespace Go.Proofs.Ytefnoajkdhgonaa.F
set_option linter.unusedVariables false
open Go.RowKit V Go.Sort D
open E (SV SV.nil SV.keep SV.of_od)

theorem ex1 : compB ([(1, 2)], [(2, 1), (1, 3), (1, 5)]) = (([(1, 3), (2, 1)], [(1, 5)]), 0) := by decide
theorem ex2 : compB ([], [(1, 2), (1, 4)]) = (([], [(1, 2), (1, 4)]), 0) := by decide
theorem ex3 : compB ([(1, 5)], [(1, 3)]) = (([(1, 5)], []), 0) := by decide
theorem ex4 : isCompR ([(1, 2)], [(1, 4)]) = true := by decide
theorem ex5 : isCompR ([(1, 2)], [(1, 3)]) = false := by decide
theorem ex6 : validC ([(1, 2)], [(1, 4), (1, 3)]) = false := by decide
theorem ex7 : hasC ([(1, 2)], [(1, 4)]) (1, 1) = true := by decide
theorem ex8 : hasC ([(1, 2)], [(1, 4)]) (1, 3) = false := by decide
theorem ex9 : hasC ([(1, 2)], [(1, 4)]) (1, 4) = true := by decide
theorem ex10 : sizeB ([(1, 2)], [(1, 2), (1, 4)]) = 3 := by decide
theorem ex11 : missR ([(1, 2)], [(1, 4)]) [(1, 5), (1, 3), (1, 4)] = [(1, 3), (1, 5)] := by decide
theorem ex12 : madeB [(1, 3), (1, 1), (2, 2), (1, 2)] = (([(1, 3)], [(2, 2)]), 0) := by decide
theorem ex13 : addB ([(1, 2)], [(1, 4)]) [(1, 3)] = (([(1, 4)], []), 0) := by decide
theorem ex14 : unionB ([(1, 2)], [(1, 4)]) ([(1, 1)], [(2, 2), (1, 3)]) = (([(1, 4)], [(2, 2)]), 0) := by decide
theorem ex15 : madeB [(0, 1)] = (([], []), 2) := by decide
theorem ex16 : withB ([(1, 2)], []) ([], [(1, 1), (1, 2)]) = (true, 0) := by decide
theorem ex17 : withB ([(1, 2)], []) ([], [(1, 2)]) = (false, 0) := by decide
theorem ex18 : withB ([], []) ([], []) = (true, 0) := by decide
end Go.Proofs.Ytefnoajkdhgonaa.F
end

/-
  Classes of worlds with several boxes.
-/
section
namespace Go.Proofs.Ytefnoajkdhgonaa.F
set_option linter.unusedVariables false
open Go.RowKit V Go.Sort D
open E (SV SV.nil SV.keep SV.of_od)

/-- Four boxes with contexts. -/
def S4 (g1 g2 g3 g4 : Nat) (x1 y1 x2 y2 x3 y3 x4 y4 : Value) (w : World) : Prop := Bc w g1 x1 y1 ∧ Bc w g2 x2 y2 ∧ Bc w g3 x3 y3 ∧ Bc w g4 x4 y4
section
variable {g1 g2 g3 g4 : Nat} {x1 y1 x2 y2 x3 y3 x4 y4 : Value} {gd : Nat} {d : Dt}
theorem S4.keep {w w' : World} (h : S4 g1 g2 g3 g4 x1 y1 x2 y2 x3 y3 x4 y4 w) (hb : Below w.heap.size w w') : S4 g1 g2 g3 g4 x1 y1 x2 y2 x3 y3 x4 y4 w' := ⟨h.1.keep hb, h.2.1.keep hb, h.2.2.1.keep hb, h.2.2.2.keep hb⟩
theorem S4.a : ∀ w, S4 g1 g2 g3 g4 x1 y1 x2 y2 x3 y3 x4 y4 w → (Instr.loadAt 25 (.pointer (some ⟨g1, 0, none⟩))).run Try.prog w = .ok (cv x1 y1) w := fun w h => load_ctx h.1
theorem S4.b : ∀ w, S4 g1 g2 g3 g4 x1 y1 x2 y2 x3 y3 x4 y4 w → (Instr.loadAt 25 (.pointer (some ⟨g2, 0, none⟩))).run Try.prog w = .ok (cv x2 y2) w := fun w h => load_ctx h.2.1
theorem S4.c : ∀ w, S4 g1 g2 g3 g4 x1 y1 x2 y2 x3 y3 x4 y4 w → (Instr.loadAt 25 (.pointer (some ⟨g3, 0, none⟩))).run Try.prog w = .ok (cv x3 y3) w := fun w h => load_ctx h.2.2.1
theorem S4.dd : ∀ w, S4 g1 g2 g3 g4 x1 y1 x2 y2 x3 y3 x4 y4 w → (Instr.loadAt 25 (.pointer (some ⟨g4, 0, none⟩))).run Try.prog w = .ok (cv x4 y4) w := fun w h => load_ctx h.2.2.2
/-- Four boxes with contexts, and one with a dot. -/
def S5 (g1 g2 g3 g4 gd : Nat) (x1 y1 x2 y2 x3 y3 x4 y4 : Value) (d : Dt) (w : World) : Prop := S4 g1 g2 g3 g4 x1 y1 x2 y2 x3 y3 x4 y4 w ∧ w.cell? ⟨gd, 0, none⟩ = some (.int .i64 d.1) ∧ w.cell? ⟨gd, 1, none⟩ = some (.int .i64 d.2)
theorem S5.keep {w w' : World} (h : S5 g1 g2 g3 g4 gd x1 y1 x2 y2 x3 y3 x4 y4 d w) (hb : Below w.heap.size w w') : S5 g1 g2 g3 g4 gd x1 y1 x2 y2 x3 y3 x4 y4 d w' :=
  ⟨h.1.keep hb, (hb.cell (p := ⟨gd, 0, none⟩) (lt_of_cell h.2.1)).trans h.2.1, (hb.cell (p := ⟨gd, 1, none⟩) (lt_of_cell h.2.2)).trans h.2.2⟩
theorem S5.a : ∀ w, S5 g1 g2 g3 g4 gd x1 y1 x2 y2 x3 y3 x4 y4 d w → (Instr.loadAt 25 (.pointer (some ⟨g1, 0, none⟩))).run Try.prog w = .ok (cv x1 y1) w := fun w h => load_ctx h.1.1
theorem S5.b : ∀ w, S5 g1 g2 g3 g4 gd x1 y1 x2 y2 x3 y3 x4 y4 d w → (Instr.loadAt 25 (.pointer (some ⟨g2, 0, none⟩))).run Try.prog w = .ok (cv x2 y2) w := fun w h => load_ctx h.1.2.1
theorem S5.c : ∀ w, S5 g1 g2 g3 g4 gd x1 y1 x2 y2 x3 y3 x4 y4 d w → (Instr.loadAt 25 (.pointer (some ⟨g3, 0, none⟩))).run Try.prog w = .ok (cv x3 y3) w := fun w h => load_ctx h.1.2.2.1
theorem S5.e : ∀ w, S5 g1 g2 g3 g4 gd x1 y1 x2 y2 x3 y3 x4 y4 d w → (Instr.loadAt 25 (.pointer (some ⟨g4, 0, none⟩))).run Try.prog w = .ok (cv x4 y4) w := fun w h => load_ctx h.1.2.2.2
theorem S5.dt : ∀ w, S5 g1 g2 g3 g4 gd x1 y1 x2 y2 x3 y3 x4 y4 d w → (Instr.loadAt 38 (.pointer (some ⟨gd, 0, none⟩))).run Try.prog w = .ok (.agg #[.int .i64 d.1, .int .i64 d.2]) w := fun w h => load_dot h.2.1 h.2.2
end
theorem SV.r {w : World} {a : Option Addr} {k n : Nat} {l : List Dt} (h : SV w (.slice a k n) l) : RowD w a l ∧ (a = none → n = 0) ∧ l.length ≤ n := by
  obtain ⟨a', n', e, h1, h2, h3⟩ := h
  cases e
  exact ⟨h1, h2, h3⟩
end Go.Proofs.Ytefnoajkdhgonaa.F
end
