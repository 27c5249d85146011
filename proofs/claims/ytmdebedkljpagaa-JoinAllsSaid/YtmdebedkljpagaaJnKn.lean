/-
  The examples of the chapter.
-/
import Derived.Test.YtmdebedkljpagaaJnL
import Derived.Test.YtmdebedkljpagaaMSched
namespace Go.Proofs.Ytmdebedkljpagaa.Jn
set_option linter.unusedVariables false
open Go.RowKit V Go.Sort D Nd Qs
attribute [local irreducible] Sch.heldN Sch.stepV Sch.stepE

abbrev kX : Nt := ((1, 1), (0, 0), 1, 120)
abbrev kY : Nt := ((2, 1), (1, 1), 2, 121)
abbrev kZ : Nt := ((1, 2), (1, 1), 3, 122)
abbrev kD : Nt := ((1, 1), (0, 0), 1, 0)
abbrev kO : Nt := ((1, 1), (0, 0), 1, 119)
theorem k1 : joinP [kX, kY] [kD, kZ] = ([kD, kY, kZ], 0) := by decide
theorem k2 : agP [kX, kY] [kD, kZ] = (true, 0) := by decide
theorem k3 : inP [kX, kY] [kD, kY, kZ] = (true, 0) := by decide
theorem k4 : inP [kD, kZ] [kX, kY] = (false, 0) := by decide
theorem k5 : joinP [kX, kY] [kO] = ([], 15) := by decide
theorem k6 : agP [kX, kY] [kO] = (false, 0) := by decide
theorem k7 : allS [[kX, kY], [kD, kZ], [kO]] = ([], 15) := by decide
theorem k8 : joinP [kD, kZ] [kO] = ([kD, kZ], 0) := by decide
theorem k9 : allS [] = ([], 0) := by decide
theorem k10 : allS [[kX, kY], [kX, kY]] = ([kX, kY], 0) := by decide
theorem k11 : joinP [kX, kY] [kY, kX] = ([], 2) := by decide
/-- The three boxes. -/
def B3 (g1 g2 g3 : Nat) (w : World) : Prop := Nb w g1 kX ∧ Nb w g2 kY ∧ Nb w g3 kZ
theorem B3.keep {g1 g2 g3 : Nat} {w w' : World} (h : B3 g1 g2 g3 w) (hb : Below w.heap.size w w') : B3 g1 g2 g3 w' := ⟨h.1.keep hb, h.2.1.keep hb, h.2.2.keep hb⟩
/-- A box that may be written. -/
def Bf (w : World) (g : Nat) (n : Nt) : Prop := Nb w g n ∧ ∀ o, w.frozen? ⟨g, o, none⟩ = false
theorem Bf.keep {w w' : World} {g : Nat} {n : Nt} (h : Bf w g n) (hb : Below w.heap.size w w') : Bf w' g n := ⟨h.1.keep hb, fun o => (hb.frozen (p := ⟨g, o, none⟩) h.1.lt).trans (h.2 o)⟩
theorem bf_gb {w w' : World} {g r : Nat} {n : Nt} (h : Bf w g n) (hg : w.grownBy w' (some r)) (hne : g ≠ r) : Bf w' g n := by
  have e : w'.heap[g]? = w.heap[g]? := hg.block g h.1.lt (by simpa using hne)
  exact ⟨Qs.nb_gb h.1 hg hne, fun o => (World.frozen?_of_block (a := ⟨g, o, none⟩) e).trans (h.2 o)⟩
theorem zb_gb {w w' : World} {g r : Nat} (h : Zb w g) (hg : w.grownBy w' (some r)) (hne : g ≠ r) : Zb w' g := bf_gb (n := zeroN) h hg hne
theorem b3_gb {g1 g2 g3 r : Nat} {w w' : World} (h : B3 g1 g2 g3 w) (hg : w.grownBy w' (some r)) (h1 : g1 ≠ r) (h2 : g2 ≠ r) (h3 : g3 ≠ r) : B3 g1 g2 g3 w' := ⟨Qs.nb_gb h.1 hg h1, Qs.nb_gb h.2.1 hg h2, Qs.nb_gb h.2.2 hg h3⟩
theorem put_bf {w : World} {g : Nat} (h : Zb w g) (n : Nt) : Bf (Nd.putN w g n) g n := by
  obtain ⟨⟨h0, h1, h2, h3, h4, h5⟩, hf⟩ := h
  unfold Nd.putN
  refine ⟨⟨?_, ?_, ?_, ?_, ?_, ?_⟩, fun o => ?_⟩
  · go_simp
  · go_simp
  · go_simp
  · go_simp
  · go_simp
  · go_simp
  · have := hf o
    go_simp
theorem rune_nb {w : World} {g : Nat} {n : Nt} (h : Nb w g n) (r : Int) : Nb (w.setCell ⟨g, 5, none⟩ (.int .i32 r)) g (n.1, n.2.1, n.2.2.1, r) := by
  obtain ⟨h0, h1, h2, h3, h4, h5⟩ := h
  refine ⟨?_, ?_, ?_, ?_, ?_, ?_⟩ <;> go_simp
/-- A slice of some new nodes. -/
def SlN (w : World) (u : Value) (l : List Nt) : Prop := ∃ g, u = .slice (some ⟨g, 0, none⟩) l.length l.length ∧ RowN w (some ⟨g, 0, none⟩) l
theorem SlN.keep {w w' : World} {u : Value} {l : List Nt} (h : SlN w u l) (hb : Below w.heap.size w w') : SlN w' u l := by
  obtain ⟨g, e, hr⟩ := h
  exact ⟨g, e, hr.keep hb⟩
theorem SlN.sl {w : World} {g : Nat} {l : List Nt} (h : RowN w (some ⟨g, 0, none⟩) l) : Sl w (some ⟨g, 0, none⟩) l.length l.length l := ⟨rfl, h, (fun h => by cases h), Nat.le_refl _⟩
def fitB (d : Dt) : Bool := (Lit.int .i64 d.1).wf && (Lit.int .i64 d.2).wf
theorem fitB_iff {d : Dt} : fitB d = true ↔ fitD d := by unfold fitB fitD; rw [Bool.and_eq_true]
theorem fitL {l : List Nt} (h : (l.all fun n => fitB n.1 && fitB n.2.1) = true) : ∀ x ∈ l, fitN x := fun x hx => by
  have := List.all_eq_true.1 h x hx
  rw [Bool.and_eq_true] at this
  exact ⟨fitB_iff.1 this.1, fitB_iff.1 this.2⟩
section
variable {xs ys Z : List Nt} {S : List S3} {n m k : Nat} {a b z : Option Addr} {c d e : Nat} {w : World} {t : Bool} {q : Int}
theorem joins_lit (h : joinP xs ys = (Z, q)) (hX : Sl w a n c xs) (hY : Sl w b m d ys) (hz : RowN w z Z) (hk : k = Z.length) (hlx : xs.length ≤ 1000) (hly : ys.length ≤ 1000) :
    Calls Try.prog 17 #[.slice a n c, .slice b m d, .slice z k e, .int .i64 q] w fun e w' => e = .returned (.bool true) ∧ Below w.heap.size w w' := by
  have e1 := hX.n
  have e2 := hY.n
  subst e1; subst e2; subst hk
  exact joins_true xs ys Z q h a b c d w z e hX hY (by omega) (by omega) hz
theorem alls_lit (h : allS (S.map (·.1)) = (Z, q)) (hS : RowL w a S) (hA : AllL w S) (hn : n = S.length) (hz : RowN w z Z) (hk : k = Z.length) (hl : S.length ≤ 1000) (hlen : (catS S).length ≤ 1000) (hf : ((catS S).all fun n => fitB n.1 && fitB n.2.1) = true) (hZ : Z.length ≤ 1000) :
    Calls Try.prog 21 #[.slice a n c, .slice z k e, .int .i64 q] w fun e w' => e = .returned (.bool true) ∧ Below w.heap.size w w' := by
  subst hn; subst hk
  exact alls_true S Z q h a c w z e hS hA hl (by omega) (fitL hf) hz (by omega)
theorem within_lit (h : inP xs ys = (t, q)) (hX : Sl w a n c xs) (hY : Sl w b m d ys) (hlx : xs.length ≤ 1000) (hly : ys.length ≤ 1000) :
    Calls Try.prog 22 #[.slice a n c, .slice b m d, .bool t, .int .i64 q] w fun e w' => e = .returned (.bool true) ∧ Below w.heap.size w w' := by
  have e1 := hX.n
  have e2 := hY.n
  subst e1; subst e2
  exact within_true xs ys t q h a b c d w hX hY (by omega) (by omega)
theorem agree_lit (h : agP xs ys = (t, q)) (hX : Sl w a n c xs) (hY : Sl w b m d ys) (hlx : xs.length ≤ 1000) (hly : ys.length ≤ 1000) :
    Calls Try.prog 16 #[.slice a n c, .slice b m d, .bool t, .int .i64 q] w fun e w' => e = .returned (.bool true) ∧ Below w.heap.size w w' := by
  have e1 := hX.n
  have e2 := hY.n
  subst e1; subst e2
  exact agree_true xs ys t q h a b c d w hX hY (by omega) (by omega)
end
theorem RowL.lit (w : World) (S : List S3) (C : Array Value) (t : TypeId) (fr : Nat × Nat) (hC : C.toList = S.map fun x => .slice x.2.1 x.1.length x.2.2) : RowL (w.alloc (.cells C t fr)) (some ⟨w.heap.size, 0, none⟩) S := by
  refine .inr ⟨w.heap.size, 0, rfl, fun i hi => ?_⟩
  have hh : (w.alloc (.cells C t fr)).heap[w.heap.size]? = some (.cells C t fr) := by show (w.heap.push _)[w.heap.size]? = _; simp
  have hc : (w.alloc (.cells C t fr)).cell? ⟨w.heap.size, 0 + i, none⟩ = C[0 + i]? := by
    simp only [World.cell?, hh]
    rw [if_neg (by simp)]
  rw [hc, Nat.zero_add, ← Array.getElem?_toList, hC, List.getElem?_map, List.getElem?_eq_getElem hi]
  rfl
/-- All five boxes. -/
def K5 (g1 g2 g3 g4 g5 : Nat) (w : World) : Prop := B3 g1 g2 g3 w ∧ Nb w g4 kD ∧ Nb w g5 kO
theorem K5.keep {g1 g2 g3 g4 g5 : Nat} {w w' : World} (h : K5 g1 g2 g3 g4 g5 w) (hb : Below w.heap.size w w') : K5 g1 g2 g3 g4 g5 w' := ⟨h.1.keep hb, h.2.1.keep hb, h.2.2.keep hb⟩
set_option maxRecDepth 100000 in
/-- What holds while the operations come up. -/
inductive J2 (w0 : World) (g1 g2 g3 : Nat) (L : List Bool) : Act → World → Prop
  | mk (w : World) (u4 u5 u18 u19 : Value) (g4 g5 : Nat)
    (f0 : Hid (L.getD 0 false = true → u18 = nv kX))
    (f1 : Hid (L.getD 1 false = true → u19 = nv kX))
    (p0 : Hid (L.getD 2 false = true → u4 = .pointer (some ⟨g4, 0, none⟩) ∧ g3 < g4 ∧ g4 < w.heap.size))
    (z0 : Hid (L.getD 2 false = true → L.getD 4 false = false → Zb w g4))
    (s0 : Hid (L.getD 4 false = true → Bf w g4 kX))
    (p1 : Hid (L.getD 3 false = true → u5 = .pointer (some ⟨g5, 0, none⟩) ∧ g3 < g5 ∧ g5 < w.heap.size))
    (z1 : Hid (L.getD 3 false = true → L.getD 5 false = false → Zb w g5))
    (s1 : Hid (L.getD 5 false = true → Bf w g5 kX))
    (e : Hid (L.getD 2 false = true → L.getD 3 false = true → g4 ≠ g5))
    (HB : Hid (Below w0.heap.size w0 w)) (HS : Hid (B3 g1 g2 g3 w)) : J2 w0 g1 g2 g3 L { tmps := List.toArray (.bool false :: .pointer (some ⟨g1, 0, none⟩) :: .pointer (some ⟨g2, 0, none⟩) :: .pointer (some ⟨g3, 0, none⟩) :: u4 :: u5 :: undef :: undef :: undef :: undef :: dv (1, 1) :: .agg #[.int .i64 1, .int .i64 1, .int .i64 0, .int .i64 0, .int .i64 1, .int .i32 120] :: dv (2, 1) :: dv (1, 1) :: .agg #[.int .i64 2, .int .i64 1, .int .i64 1, .int .i64 1, .int .i64 2, .int .i32 121] :: dv (1, 2) :: dv (1, 1) :: .agg #[.int .i64 1, .int .i64 2, .int .i64 1, .int .i64 1, .int .i64 3, .int .i32 122] :: u18 :: u19 :: undef :: undef :: undef :: undef :: undef :: undef :: undef :: undef :: undef :: undef :: undef :: undef :: undef :: undef :: undef :: undef :: undef :: undef :: undef :: undef :: undef :: undef :: undef :: undef :: undef :: undef :: undef :: undef :: undef :: undef :: undef :: undef :: undef :: undef :: undef :: undef :: undef :: undef :: undef :: undef :: undef :: undef :: undef :: undef :: undef :: undef :: undef :: undef :: undef :: undef :: undef :: undef :: undef :: undef :: undef :: undef :: undef :: undef :: undef :: undef :: undef :: undef :: undef :: undef :: undef :: undef :: undef :: undef :: undef :: undef :: undef :: undef :: undef :: undef :: undef :: []), defers := [] } w
def D2 (i : Nat) : List Nat := match i with | 0 => [] | 1 => [] | 2 => [] | 3 => [] | 4 => [2, 0] | 5 => [3, 1, 4] | _ => []
set_option maxRecDepth 100000 in
/-- What holds while the operations come up. -/
inductive J4 (w0 : World) (g1 g2 g3 g4 g5 : Nat) (u20 u21 : Value) (L : List Bool) : Act → World → Prop
  | mk (w : World) (u6 u7 u8 u22 u23 u24 u25 u26 u27 u28 u29 : Value)
    (f0 : Hid (L.getD 0 false = true → u22 = nv kX))
    (f1 : Hid (L.getD 1 false = true → u23 = nv kY))
    (f2 : Hid (L.getD 2 false = true → SlN w u24 [kX, kY]))
    (f3 : Hid (L.getD 3 false = true → u25 = nv kD))
    (f4 : Hid (L.getD 4 false = true → u26 = nv kZ))
    (f5 : Hid (L.getD 5 false = true → SlN w u27 [kD, kZ]))
    (f6 : Hid (L.getD 6 false = true → u28 = nv kO))
    (f7 : Hid (L.getD 7 false = true → SlN w u29 [kO]))
    (f8 : Hid (L.getD 8 false = true → SlN w u6 [kX, kY]))
    (f9 : Hid (L.getD 9 false = true → SlN w u7 [kD, kZ]))
    (f10 : Hid (L.getD 10 false = true → SlN w u8 [kO]))
    (HB : Hid (Below w0.heap.size w0 w)) (HS : Hid (K5 g1 g2 g3 g4 g5 w)) : J4 w0 g1 g2 g3 g4 g5 u20 u21 L { tmps := List.toArray (.bool false :: .pointer (some ⟨g1, 0, none⟩) :: .pointer (some ⟨g2, 0, none⟩) :: .pointer (some ⟨g3, 0, none⟩) :: .pointer (some ⟨g4, 0, none⟩) :: .pointer (some ⟨g5, 0, none⟩) :: u6 :: u7 :: u8 :: undef :: dv (1, 1) :: .agg #[.int .i64 1, .int .i64 1, .int .i64 0, .int .i64 0, .int .i64 1, .int .i32 120] :: dv (2, 1) :: dv (1, 1) :: .agg #[.int .i64 2, .int .i64 1, .int .i64 1, .int .i64 1, .int .i64 2, .int .i32 121] :: dv (1, 2) :: dv (1, 1) :: .agg #[.int .i64 1, .int .i64 2, .int .i64 1, .int .i64 1, .int .i64 3, .int .i32 122] :: nv kX :: nv kX :: u20 :: u21 :: u22 :: u23 :: u24 :: u25 :: u26 :: u27 :: u28 :: u29 :: undef :: undef :: undef :: undef :: undef :: undef :: undef :: undef :: undef :: undef :: undef :: undef :: undef :: undef :: undef :: undef :: undef :: undef :: undef :: undef :: undef :: undef :: undef :: undef :: undef :: undef :: undef :: undef :: undef :: undef :: undef :: undef :: undef :: undef :: undef :: undef :: undef :: undef :: undef :: undef :: undef :: undef :: undef :: undef :: undef :: undef :: undef :: undef :: undef :: undef :: undef :: undef :: undef :: undef :: undef :: undef :: undef :: undef :: undef :: undef :: undef :: undef :: undef :: undef :: undef :: []), defers := [] } w
def D4 (i : Nat) : List Nat := match i with | 0 => [] | 1 => [] | 2 => [0, 1] | 3 => [] | 4 => [] | 5 => [3, 4] | 6 => [] | 7 => [6] | 8 => [2] | 9 => [5, 8] | 10 => [7, 9] | _ => []
set_option maxRecDepth 100000 in
set_option maxHeartbeats 8000000 in
theorem known_any (w : World) : Calls Try.prog 8 #[] w fun e w' => e = .returned (.bool true) ∧ Below w.heap.size w w' := by
  have HB := Lib.hid (Below.refl w.heap.size w)
  go_enter Try.func8, Try.ntmps8
  go_wp2_with fail
  refine (dot_law 1 1 _).mono ?_
  rintro e w1 ⟨rfl, hb⟩
  replace HB := bel_tr HB hb
  clear hb
  go_wp2_with fail
  refine (dot_law 2 1 _).mono ?_
  rintro e w2 ⟨rfl, hb⟩
  replace HB := bel_tr HB hb
  clear hb
  go_wp2_with fail
  refine (dot_law 1 1 _).mono ?_
  rintro e w3 ⟨rfl, hb⟩
  replace HB := bel_tr HB hb
  clear hb
  go_wp2_with fail
  refine (dot_law 1 2 _).mono ?_
  rintro e w4 ⟨rfl, hb⟩
  replace HB := bel_tr HB hb
  clear hb
  go_wp2_with fail
  refine (dot_law 1 1 _).mono ?_
  rintro e w5 ⟨rfl, hb⟩
  replace HB := bel_tr HB hb
  clear hb
  have ha1 := bel_box w5 (.cells (nc kX) 44)
  have ha2 := bel_box (w5.alloc (.cells (nc kX) 44)) (.cells (nc kY) 44)
  have ha3 := bel_box ((w5.alloc (.cells (nc kX) 44)).alloc (.cells (nc kY) 44)) (.cells (nc kZ) 44)
  have hs1 : (w5.alloc (.cells (nc kX) 44)).heap.size = w5.heap.size + 1 := by simp
  have hs2 : ((w5.alloc (.cells (nc kX) 44)).alloc (.cells (nc kY) 44)).heap.size = w5.heap.size + 1 + 1 := by simp
  have hn2 := Nb.new (w5.alloc (.cells (nc kX) 44)) kY
  have hn3 := Nb.new ((w5.alloc (.cells (nc kX) 44)).alloc (.cells (nc kY) 44)) kZ
  rw [hs1] at hn2
  rw [hs2] at hn3
  have HS0 : Hid (B3 w5.heap.size (w5.heap.size + 1) (w5.heap.size + 1 + 1) (((w5.alloc (.cells (nc kX) 44)).alloc (.cells (nc kY) 44)).alloc (.cells (nc kZ) 44))) := ⟨((Nb.new w5 kX).keep ha2).keep ha3, hn2.keep ha3, hn3⟩
  have HB0 := bel_tr (bel_tr (bel_tr HB ha1) ha2) ha3
  have HGe : Hid (w.heap.size ≤ w5.heap.size ∧ w5.heap.size < w5.heap.size + 1 ∧ w5.heap.size + 1 < w5.heap.size + 1 + 1) := ⟨HB.out.size, by omega, by omega⟩
  clear ha1 ha2 ha3 hs1 hs2 hn2 hn3 HB
  go_wp2_with fail
  generalize ((w5.alloc (.cells (nc kX) 44)).alloc (.cells (nc kY) 44)).alloc (.cells (nc kZ) 44) = w6 at *
  have hd := (Below.refl w6.heap.size w6).drew
  have HB := bel_tr HB0 hd
  have HS := Lib.hid (HS0.out.keep hd)
  clear hd HB0 HS0
  generalize w5.heap.size + 1 + 1 = g3 at *
  generalize w5.heap.size + 1 = g2 at *
  generalize w5.heap.size = g1 at *
  obtain ⟨w0, hw0⟩ : ∃ w0, w0 = w := ⟨_, rfl⟩
  subst hw0
  refine Sch.wp_region_flow (fun _ => True) 6 D2 (J2 w0 g1 g2 g3) (by kernel_rfl) (by kernel_rfl) trivial ?_ ?_ ?_
  · exact ⟨_, _, _, _, _, 0, 0, fun h => absurd h (by decide), fun h => absurd h (by decide), fun h => absurd h (by decide), fun h _ => absurd h (by decide), fun h => absurd h (by decide), fun h => absurd h (by decide), fun h _ => absurd h (by decide), fun h => absurd h (by decide), fun h _ => absurd h (by decide), HB, HS⟩
  · clear HB HS
    rintro L i hL hi hD hno hcl a w3 - ⟨_, u4, u5, u18, u19, g4, g5, f0, f1, p0, z0, s0, p1, z1, s1, e, HB, HS⟩
    have hc : i = 0 ∨ i = 1 ∨ i = 2 ∨ i = 3 ∨ i = 4 ∨ i = 5 := by omega
    rcases hc with rfl | rfl | rfl | rfl | rfl | rfl
    · obtain ⟨x0, x1, x2, x3, x4, x5⟩ := HS.out.1
      refine Sch.fl_e rfl rfl (fun K hK => ?_)
      go_wp2_with fail
      refine hK _ _ trivial ⟨_, u4, u5, _, u19, g4, g5, fun _ => rfl, fun h1 => (f1.out (Sch.on_ne (i := 0) (by decide) h1)), fun h1 => (p0.out (Sch.on_ne (i := 0) (by decide) h1)), fun h1 h2 => (z0.out (Sch.on_ne (i := 0) (by decide) h1) (Sch.off_ne (i := 0) (by decide) h2)), fun h1 => (s0.out (Sch.on_ne (i := 0) (by decide) h1)), fun h1 => (p1.out (Sch.on_ne (i := 0) (by decide) h1)), fun h1 h2 => (z1.out (Sch.on_ne (i := 0) (by decide) h1) (Sch.off_ne (i := 0) (by decide) h2)), fun h1 => (s1.out (Sch.on_ne (i := 0) (by decide) h1)), fun h1 h2 => (e.out (Sch.on_ne (i := 0) (by decide) h1) (Sch.on_ne (i := 0) (by decide) h2)), HB, HS⟩
    · obtain ⟨x0, x1, x2, x3, x4, x5⟩ := HS.out.1
      refine Sch.fl_e rfl rfl (fun K hK => ?_)
      go_wp2_with fail
      refine hK _ _ trivial ⟨_, u4, u5, u18, _, g4, g5, fun h1 => (f0.out (Sch.on_ne (i := 1) (by decide) h1)), fun _ => rfl, fun h1 => (p0.out (Sch.on_ne (i := 1) (by decide) h1)), fun h1 h2 => (z0.out (Sch.on_ne (i := 1) (by decide) h1) (Sch.off_ne (i := 1) (by decide) h2)), fun h1 => (s0.out (Sch.on_ne (i := 1) (by decide) h1)), fun h1 => (p1.out (Sch.on_ne (i := 1) (by decide) h1)), fun h1 h2 => (z1.out (Sch.on_ne (i := 1) (by decide) h1) (Sch.off_ne (i := 1) (by decide) h2)), fun h1 => (s1.out (Sch.on_ne (i := 1) (by decide) h1)), fun h1 h2 => (e.out (Sch.on_ne (i := 1) (by decide) h1) (Sch.on_ne (i := 1) (by decide) h2)), HB, HS⟩
    · have hz := Zb.new w3
      have hb := bel_box w3 (.cells #[.int .i64 0, .int .i64 0, .int .i64 0, .int .i64 0, .int .i64 0, .int .i32 0] 44)
      have HB2 := bel_tr HB hb
      refine Sch.fl_e rfl rfl (fun K hK => ?_)
      go_wp2_with fail
      refine hK _ _ trivial ⟨_, _, u5, u18, u19, _, g5, fun h1 => (f0.out (Sch.on_ne (i := 2) (by decide) h1)), fun h1 => (f1.out (Sch.on_ne (i := 2) (by decide) h1)), fun _ => ⟨rfl, HS.out.2.2.lt, by simp⟩, fun _ _ => hz, fun h => absurd (hcl 4 (Sch.on_ne (i := 2) (by decide) h) 2 (by decide)) (by rw [hno]; decide), fun h1 => ⟨((p1.out (Sch.on_ne (i := 2) (by decide) h1))).1, ((p1.out (Sch.on_ne (i := 2) (by decide) h1))).2.1, Nat.lt_of_lt_of_le ((p1.out (Sch.on_ne (i := 2) (by decide) h1))).2.2 hb.size⟩, fun h1 h2 => ((z1.out (Sch.on_ne (i := 2) (by decide) h1) (Sch.off_ne (i := 2) (by decide) h2))).keep hb, fun h1 => ((s1.out (Sch.on_ne (i := 2) (by decide) h1))).keep hb, fun _ h => by have := (p1.out (Sch.on_ne (i := 2) (by decide) h)).2.2; omega, HB2, Lib.hid (HS.out.keep hb)⟩
    · have hz := Zb.new w3
      have hb := bel_box w3 (.cells #[.int .i64 0, .int .i64 0, .int .i64 0, .int .i64 0, .int .i64 0, .int .i32 0] 44)
      have HB2 := bel_tr HB hb
      refine Sch.fl_e rfl rfl (fun K hK => ?_)
      go_wp2_with fail
      refine hK _ _ trivial ⟨_, u4, _, u18, u19, g4, _, fun h1 => (f0.out (Sch.on_ne (i := 3) (by decide) h1)), fun h1 => (f1.out (Sch.on_ne (i := 3) (by decide) h1)), fun h1 => ⟨((p0.out (Sch.on_ne (i := 3) (by decide) h1))).1, ((p0.out (Sch.on_ne (i := 3) (by decide) h1))).2.1, Nat.lt_of_lt_of_le ((p0.out (Sch.on_ne (i := 3) (by decide) h1))).2.2 hb.size⟩, fun h1 h2 => ((z0.out (Sch.on_ne (i := 3) (by decide) h1) (Sch.off_ne (i := 3) (by decide) h2))).keep hb, fun h1 => ((s0.out (Sch.on_ne (i := 3) (by decide) h1))).keep hb, fun _ => ⟨rfl, HS.out.2.2.lt, by simp⟩, fun _ _ => hz, fun h => absurd (hcl 5 (Sch.on_ne (i := 3) (by decide) h) 3 (by decide)) (by rw [hno]; decide), fun h _ => by have := (p0.out (Sch.on_ne (i := 3) (by decide) h)).2.2; omega, HB2, Lib.hid (HS.out.keep hb)⟩
    · obtain ⟨rfl, hBg, hgl⟩ := p0.out (hD 2 (by decide))
      obtain rfl := f0.out (hD 0 (by decide))
      have hz := z0.out (hD 2 (by decide)) hno
      have hg := Jn.gb_putN w3 g4 kX
      have hn := put_bf hz kX
      have HB2 : Hid (Below w0.heap.size w0 (Nd.putN w3 g4 kX)) := Nd.putN_below HB.out (by have := HGe.out; omega) _
      obtain ⟨⟨c0, c1, c2, c3, c4, c5⟩, hf⟩ := hz
      have fr0 := hf 0
      have fr1 := hf 1
      have fr2 := hf 2
      have fr3 := hf 3
      have fr4 := hf 4
      have fr5 := hf 5
      clear hf
      refine Sch.fl_e rfl rfl (fun K hK => ?_)
      go_wp2_with fail
      refine hK _ (Nd.putN w3 g4 kX) trivial ⟨_, _, u5, _, u19, g4, g5, fun _ => rfl, fun h1 => (f1.out (Sch.on_ne (i := 4) (by decide) h1)), fun _ => ⟨rfl, hBg, Nat.lt_of_lt_of_le hgl hg.size⟩, fun _ h => absurd (Sch.on_self (L := L) (i := 4) (by omega)) (by rw [h]; decide), fun _ => hn, fun h1 => ⟨((p1.out (Sch.on_ne (i := 4) (by decide) h1))).1, ((p1.out (Sch.on_ne (i := 4) (by decide) h1))).2.1, Nat.lt_of_lt_of_le ((p1.out (Sch.on_ne (i := 4) (by decide) h1))).2.2 hg.size⟩, fun h1 h2 => zb_gb ((z1.out (Sch.on_ne (i := 4) (by decide) h1) (Sch.off_ne (i := 4) (by decide) h2))) hg (fun e9 => e.out (hD 2 (by decide)) (Sch.on_ne (i := 4) (by decide) h1) e9.symm), fun h1 => bf_gb ((s1.out (Sch.on_ne (i := 4) (by decide) h1))) hg (fun e9 => e.out (hD 2 (by decide)) (hcl 5 (Sch.on_ne (i := 4) (by decide) h1) 3 (by decide)) e9.symm), fun h1 h2 => (e.out (Sch.on_ne (i := 4) (by decide) h1) (Sch.on_ne (i := 4) (by decide) h2)), HB2, Lib.hid (b3_gb HS.out hg (by have := HGe.out; omega) (by have := HGe.out; omega) (by omega))⟩
    · obtain ⟨rfl, hBg, hgl⟩ := p1.out (hD 3 (by decide))
      obtain rfl := f1.out (hD 1 (by decide))
      have hz := z1.out (hD 3 (by decide)) hno
      have hg := Jn.gb_putN w3 g5 kX
      have hn := put_bf hz kX
      have HB2 : Hid (Below w0.heap.size w0 (Nd.putN w3 g5 kX)) := Nd.putN_below HB.out (by have := HGe.out; omega) _
      obtain ⟨⟨c0, c1, c2, c3, c4, c5⟩, hf⟩ := hz
      have fr0 := hf 0
      have fr1 := hf 1
      have fr2 := hf 2
      have fr3 := hf 3
      have fr4 := hf 4
      have fr5 := hf 5
      clear hf
      refine Sch.fl_e rfl rfl (fun K hK => ?_)
      go_wp2_with fail
      refine hK _ (Nd.putN w3 g5 kX) trivial ⟨_, u4, _, u18, _, g4, g5, fun h1 => (f0.out (Sch.on_ne (i := 5) (by decide) h1)), fun _ => rfl, fun h1 => ⟨((p0.out (Sch.on_ne (i := 5) (by decide) h1))).1, ((p0.out (Sch.on_ne (i := 5) (by decide) h1))).2.1, Nat.lt_of_lt_of_le ((p0.out (Sch.on_ne (i := 5) (by decide) h1))).2.2 hg.size⟩, fun h1 h2 => zb_gb ((z0.out (Sch.on_ne (i := 5) (by decide) h1) (Sch.off_ne (i := 5) (by decide) h2))) hg (e.out (Sch.on_ne (i := 5) (by decide) h1) (hD 3 (by decide))), fun h1 => bf_gb ((s0.out (Sch.on_ne (i := 5) (by decide) h1))) hg (e.out (hcl 4 (Sch.on_ne (i := 5) (by decide) h1) 2 (by decide)) (hD 3 (by decide))), fun _ => ⟨rfl, hBg, Nat.lt_of_lt_of_le hgl hg.size⟩, fun _ h => absurd (Sch.on_self (L := L) (i := 5) (by omega)) (by rw [h]; decide), fun _ => hn, fun h1 h2 => (e.out (Sch.on_ne (i := 5) (by decide) h1) (Sch.on_ne (i := 5) (by decide) h2)), HB2, Lib.hid (b3_gb HS.out hg (by have := HGe.out; omega) (by have := HGe.out; omega) (by omega))⟩
  · clear HB HS
    rintro L hall a w3 - ⟨_, u4, u5, u18, u19, g4, g5, f0, f1, p0, z0, s0, p1, z1, s1, e, HB, HS⟩
    obtain rfl := f0.out (hall 0 (by decide))
    obtain rfl := f1.out (hall 1 (by decide))
    obtain ⟨rfl, hB0, -⟩ := p0.out (hall 2 (by decide))
    obtain ⟨rfl, hB1, -⟩ := p1.out (hall 3 (by decide))
    have hne := e.out (hall 2 (by decide)) (hall 3 (by decide))
    have S4 := Lib.hid (s0.out (hall 4 (by decide)))
    have S5 := Lib.hid (s1.out (hall 5 (by decide)))
    clear f0 f1 p0 p1 z0 z1 s0 s1 e hall
    obtain ⟨⟨m0, m1, m2, m3, m4, m5⟩, hmf⟩ := S4.out
    obtain ⟨⟨n0, n1, n2, n3, n4, n5⟩, hnf⟩ := S5.out
    have mf := hmf 5
    have nf := hnf 5
    have hg1 : w3.grownBy (w3.setCell ⟨g4, 5, none⟩ (.int .i32 0)) (some g4) := gb_setCell _ _ _ _
    have hg2 : (w3.setCell ⟨g4, 5, none⟩ (.int .i32 0)).grownBy ((w3.setCell ⟨g4, 5, none⟩ (.int .i32 0)).setCell ⟨g5, 5, none⟩ (.int .i32 119)) (some g5) := gb_setCell _ _ _ _
    have HSa : Hid (K5 g1 g2 g3 g4 g5 ((w3.setCell ⟨g4, 5, none⟩ (.int .i32 0)).setCell ⟨g5, 5, none⟩ (.int .i32 119))) := by
      have := HGe.out
      refine ⟨b3_gb (b3_gb HS.out hg1 (by omega) (by omega) (by omega)) hg2 (by omega) (by omega) (by omega), Qs.nb_gb (rune_nb S4.out.1 0) hg2 hne, rune_nb (bf_gb S5.out hg1 hne.symm).1 119⟩
    have HBa : Hid (Below w0.heap.size w0 ((w3.setCell ⟨g4, 5, none⟩ (.int .i32 0)).setCell ⟨g5, 5, none⟩ (.int .i32 119))) := (HB.out.setCell (p := ⟨g4, 5, none⟩) (by have := HGe.out; show _ ≤ g4; omega) _).setCell (p := ⟨g5, 5, none⟩) (by have := HGe.out; show _ ≤ g5; omega) _
    have hgl := S5.out.1.lt
    have e5 := hg1.block g5 hgl (by simpa using hne.symm)
    have n5' := (World.cell?_of_block (a := ⟨g5, 5, none⟩) e5).trans n5
    have nf' := (World.frozen?_of_block (a := ⟨g5, 5, none⟩) e5).trans nf
    clear hg1 hg2 hmf hnf S4 S5 HS HB hne n0 n1 n2 n3 n4 n5 nf hgl e5
    go_upto_region 4 with fail
    generalize (w3.setCell ⟨g4, 5, none⟩ (.int .i32 0)).setCell ⟨g5, 5, none⟩ (.int .i32 119) = w4 at *
    clear m0 m1 m2 m3 m4 m5 n5' mf nf'
    have hd := (Below.refl w4.heap.size w4).drew
    have HB := bel_tr HBa hd
    have HS := Lib.hid (HSa.out.keep hd)
    clear hd HBa HSa
    go_wp2_with fail
    refine Sch.wp_region_flow (fun _ => True) 11 D4 (J4 w0 g1 g2 g3 g4 g5 (.pointer (some ⟨g4, 5, none⟩)) (.pointer (some ⟨g5, 5, none⟩))) (by kernel_rfl) (by kernel_rfl) trivial ?_ ?_ ?_
    · exact ⟨_, _, _, _, _, _, _, _, _, _, _, _, fun h => absurd h (by decide), fun h => absurd h (by decide), fun h => absurd h (by decide), fun h => absurd h (by decide), fun h => absurd h (by decide), fun h => absurd h (by decide), fun h => absurd h (by decide), fun h => absurd h (by decide), fun h => absurd h (by decide), fun h => absurd h (by decide), fun h => absurd h (by decide), HB, HS⟩
    · clear HB HS
      rintro L i hL hi hD hno hcl a w3 - ⟨_, u6, u7, u8, u22, u23, u24, u25, u26, u27, u28, u29, f0, f1, f2, f3, f4, f5, f6, f7, f8, f9, f10, HB, HS⟩
      have hc : i = 0 ∨ i = 1 ∨ i = 2 ∨ i = 3 ∨ i = 4 ∨ i = 5 ∨ i = 6 ∨ i = 7 ∨ i = 8 ∨ i = 9 ∨ i = 10 := by omega
      rcases hc with rfl | rfl | rfl | rfl | rfl | rfl | rfl | rfl | rfl | rfl | rfl
      · obtain ⟨x0, x1, x2, x3, x4, x5⟩ := HS.out.1.1
        refine Sch.fl_e rfl rfl (fun K hK => ?_)
        go_wp2_with fail
        refine hK _ _ trivial ⟨_, u6, u7, u8, _, u23, u24, u25, u26, u27, u28, u29, fun _ => rfl, fun h1 => (f1.out (Sch.on_ne (i := 0) (by decide) h1)), fun h1 => (f2.out (Sch.on_ne (i := 0) (by decide) h1)), fun h1 => (f3.out (Sch.on_ne (i := 0) (by decide) h1)), fun h1 => (f4.out (Sch.on_ne (i := 0) (by decide) h1)), fun h1 => (f5.out (Sch.on_ne (i := 0) (by decide) h1)), fun h1 => (f6.out (Sch.on_ne (i := 0) (by decide) h1)), fun h1 => (f7.out (Sch.on_ne (i := 0) (by decide) h1)), fun h1 => (f8.out (Sch.on_ne (i := 0) (by decide) h1)), fun h1 => (f9.out (Sch.on_ne (i := 0) (by decide) h1)), fun h1 => (f10.out (Sch.on_ne (i := 0) (by decide) h1)), HB, HS⟩
      · obtain ⟨x0, x1, x2, x3, x4, x5⟩ := HS.out.1.2.1
        refine Sch.fl_e rfl rfl (fun K hK => ?_)
        go_wp2_with fail
        refine hK _ _ trivial ⟨_, u6, u7, u8, u22, _, u24, u25, u26, u27, u28, u29, fun h1 => (f0.out (Sch.on_ne (i := 1) (by decide) h1)), fun _ => rfl, fun h1 => (f2.out (Sch.on_ne (i := 1) (by decide) h1)), fun h1 => (f3.out (Sch.on_ne (i := 1) (by decide) h1)), fun h1 => (f4.out (Sch.on_ne (i := 1) (by decide) h1)), fun h1 => (f5.out (Sch.on_ne (i := 1) (by decide) h1)), fun h1 => (f6.out (Sch.on_ne (i := 1) (by decide) h1)), fun h1 => (f7.out (Sch.on_ne (i := 1) (by decide) h1)), fun h1 => (f8.out (Sch.on_ne (i := 1) (by decide) h1)), fun h1 => (f9.out (Sch.on_ne (i := 1) (by decide) h1)), fun h1 => (f10.out (Sch.on_ne (i := 1) (by decide) h1)), HB, HS⟩
      · obtain rfl := f0.out (hD 0 (by decide))
        obtain rfl := f1.out (hD 1 (by decide))
        have hb := bel_box w3 (.cells #[.int .i64 1, .int .i64 1, .int .i64 0, .int .i64 0, .int .i64 1, .int .i32 120, .int .i64 2, .int .i64 1, .int .i64 1, .int .i64 1, .int .i64 2, .int .i32 121] 44)
        have hr : RowN (w3.alloc (.cells #[.int .i64 1, .int .i64 1, .int .i64 0, .int .i64 0, .int .i64 1, .int .i32 120, .int .i64 2, .int .i64 1, .int .i64 1, .int .i64 1, .int .i64 2, .int .i32 121] 44)) (some ⟨w3.heap.size, 0, none⟩) [kX, kY] := RowN.lit w3 [kX, kY] #[.int .i64 1, .int .i64 1, .int .i64 0, .int .i64 0, .int .i64 1, .int .i32 120, .int .i64 2, .int .i64 1, .int .i64 1, .int .i64 1, .int .i64 2, .int .i32 121] 44 (0, 0) rfl
        refine Sch.fl_e rfl rfl (fun K hK => ?_)
        go_wp2_with fail
        refine hK _ _ trivial ⟨_, u6, u7, u8, _, _, _, u25, u26, u27, u28, u29, fun _ => rfl, fun _ => rfl, fun _ => ⟨_, rfl, hr⟩, fun h1 => (f3.out (Sch.on_ne (i := 2) (by decide) h1)), fun h1 => (f4.out (Sch.on_ne (i := 2) (by decide) h1)), fun h1 => ((f5.out (Sch.on_ne (i := 2) (by decide) h1))).keep hb, fun h1 => (f6.out (Sch.on_ne (i := 2) (by decide) h1)), fun h1 => ((f7.out (Sch.on_ne (i := 2) (by decide) h1))).keep hb, fun h1 => ((f8.out (Sch.on_ne (i := 2) (by decide) h1))).keep hb, fun h1 => ((f9.out (Sch.on_ne (i := 2) (by decide) h1))).keep hb, fun h1 => ((f10.out (Sch.on_ne (i := 2) (by decide) h1))).keep hb, bel_tr HB hb, Lib.hid (HS.out.keep hb)⟩
      · obtain ⟨x0, x1, x2, x3, x4, x5⟩ := HS.out.2.1
        refine Sch.fl_e rfl rfl (fun K hK => ?_)
        go_wp2_with fail
        refine hK _ _ trivial ⟨_, u6, u7, u8, u22, u23, u24, _, u26, u27, u28, u29, fun h1 => (f0.out (Sch.on_ne (i := 3) (by decide) h1)), fun h1 => (f1.out (Sch.on_ne (i := 3) (by decide) h1)), fun h1 => (f2.out (Sch.on_ne (i := 3) (by decide) h1)), fun _ => rfl, fun h1 => (f4.out (Sch.on_ne (i := 3) (by decide) h1)), fun h1 => (f5.out (Sch.on_ne (i := 3) (by decide) h1)), fun h1 => (f6.out (Sch.on_ne (i := 3) (by decide) h1)), fun h1 => (f7.out (Sch.on_ne (i := 3) (by decide) h1)), fun h1 => (f8.out (Sch.on_ne (i := 3) (by decide) h1)), fun h1 => (f9.out (Sch.on_ne (i := 3) (by decide) h1)), fun h1 => (f10.out (Sch.on_ne (i := 3) (by decide) h1)), HB, HS⟩
      · obtain ⟨x0, x1, x2, x3, x4, x5⟩ := HS.out.1.2.2
        refine Sch.fl_e rfl rfl (fun K hK => ?_)
        go_wp2_with fail
        refine hK _ _ trivial ⟨_, u6, u7, u8, u22, u23, u24, u25, _, u27, u28, u29, fun h1 => (f0.out (Sch.on_ne (i := 4) (by decide) h1)), fun h1 => (f1.out (Sch.on_ne (i := 4) (by decide) h1)), fun h1 => (f2.out (Sch.on_ne (i := 4) (by decide) h1)), fun h1 => (f3.out (Sch.on_ne (i := 4) (by decide) h1)), fun _ => rfl, fun h1 => (f5.out (Sch.on_ne (i := 4) (by decide) h1)), fun h1 => (f6.out (Sch.on_ne (i := 4) (by decide) h1)), fun h1 => (f7.out (Sch.on_ne (i := 4) (by decide) h1)), fun h1 => (f8.out (Sch.on_ne (i := 4) (by decide) h1)), fun h1 => (f9.out (Sch.on_ne (i := 4) (by decide) h1)), fun h1 => (f10.out (Sch.on_ne (i := 4) (by decide) h1)), HB, HS⟩
      · obtain rfl := f3.out (hD 3 (by decide))
        obtain rfl := f4.out (hD 4 (by decide))
        have hb := bel_box w3 (.cells #[.int .i64 1, .int .i64 1, .int .i64 0, .int .i64 0, .int .i64 1, .int .i32 0, .int .i64 1, .int .i64 2, .int .i64 1, .int .i64 1, .int .i64 3, .int .i32 122] 44)
        have hr : RowN (w3.alloc (.cells #[.int .i64 1, .int .i64 1, .int .i64 0, .int .i64 0, .int .i64 1, .int .i32 0, .int .i64 1, .int .i64 2, .int .i64 1, .int .i64 1, .int .i64 3, .int .i32 122] 44)) (some ⟨w3.heap.size, 0, none⟩) [kD, kZ] := RowN.lit w3 [kD, kZ] #[.int .i64 1, .int .i64 1, .int .i64 0, .int .i64 0, .int .i64 1, .int .i32 0, .int .i64 1, .int .i64 2, .int .i64 1, .int .i64 1, .int .i64 3, .int .i32 122] 44 (0, 0) rfl
        refine Sch.fl_e rfl rfl (fun K hK => ?_)
        go_wp2_with fail
        refine hK _ _ trivial ⟨_, u6, u7, u8, u22, u23, u24, _, _, _, u28, u29, fun h1 => (f0.out (Sch.on_ne (i := 5) (by decide) h1)), fun h1 => (f1.out (Sch.on_ne (i := 5) (by decide) h1)), fun h1 => ((f2.out (Sch.on_ne (i := 5) (by decide) h1))).keep hb, fun _ => rfl, fun _ => rfl, fun _ => ⟨_, rfl, hr⟩, fun h1 => (f6.out (Sch.on_ne (i := 5) (by decide) h1)), fun h1 => ((f7.out (Sch.on_ne (i := 5) (by decide) h1))).keep hb, fun h1 => ((f8.out (Sch.on_ne (i := 5) (by decide) h1))).keep hb, fun h1 => ((f9.out (Sch.on_ne (i := 5) (by decide) h1))).keep hb, fun h1 => ((f10.out (Sch.on_ne (i := 5) (by decide) h1))).keep hb, bel_tr HB hb, Lib.hid (HS.out.keep hb)⟩
      · obtain ⟨x0, x1, x2, x3, x4, x5⟩ := HS.out.2.2
        refine Sch.fl_e rfl rfl (fun K hK => ?_)
        go_wp2_with fail
        refine hK _ _ trivial ⟨_, u6, u7, u8, u22, u23, u24, u25, u26, u27, _, u29, fun h1 => (f0.out (Sch.on_ne (i := 6) (by decide) h1)), fun h1 => (f1.out (Sch.on_ne (i := 6) (by decide) h1)), fun h1 => (f2.out (Sch.on_ne (i := 6) (by decide) h1)), fun h1 => (f3.out (Sch.on_ne (i := 6) (by decide) h1)), fun h1 => (f4.out (Sch.on_ne (i := 6) (by decide) h1)), fun h1 => (f5.out (Sch.on_ne (i := 6) (by decide) h1)), fun _ => rfl, fun h1 => (f7.out (Sch.on_ne (i := 6) (by decide) h1)), fun h1 => (f8.out (Sch.on_ne (i := 6) (by decide) h1)), fun h1 => (f9.out (Sch.on_ne (i := 6) (by decide) h1)), fun h1 => (f10.out (Sch.on_ne (i := 6) (by decide) h1)), HB, HS⟩
      · obtain rfl := f6.out (hD 6 (by decide))
        have hb := bel_box w3 (.cells #[.int .i64 1, .int .i64 1, .int .i64 0, .int .i64 0, .int .i64 1, .int .i32 119] 44)
        have hr : RowN (w3.alloc (.cells #[.int .i64 1, .int .i64 1, .int .i64 0, .int .i64 0, .int .i64 1, .int .i32 119] 44)) (some ⟨w3.heap.size, 0, none⟩) [kO] := RowN.lit w3 [kO] #[.int .i64 1, .int .i64 1, .int .i64 0, .int .i64 0, .int .i64 1, .int .i32 119] 44 (0, 0) rfl
        refine Sch.fl_e rfl rfl (fun K hK => ?_)
        go_wp2_with fail
        refine hK _ _ trivial ⟨_, u6, u7, u8, u22, u23, u24, u25, u26, u27, _, _, fun h1 => (f0.out (Sch.on_ne (i := 7) (by decide) h1)), fun h1 => (f1.out (Sch.on_ne (i := 7) (by decide) h1)), fun h1 => ((f2.out (Sch.on_ne (i := 7) (by decide) h1))).keep hb, fun h1 => (f3.out (Sch.on_ne (i := 7) (by decide) h1)), fun h1 => (f4.out (Sch.on_ne (i := 7) (by decide) h1)), fun h1 => ((f5.out (Sch.on_ne (i := 7) (by decide) h1))).keep hb, fun _ => rfl, fun _ => ⟨_, rfl, hr⟩, fun h1 => ((f8.out (Sch.on_ne (i := 7) (by decide) h1))).keep hb, fun h1 => ((f9.out (Sch.on_ne (i := 7) (by decide) h1))).keep hb, fun h1 => ((f10.out (Sch.on_ne (i := 7) (by decide) h1))).keep hb, bel_tr HB hb, Lib.hid (HS.out.keep hb)⟩
      · obtain ⟨ga, rfl, hr⟩ := f2.out (hD 2 (by decide))
        refine Sch.fl_e rfl rfl (fun K hK => ?_)
        go_wp2_with fail
        refine hK _ _ trivial ⟨_, _, u7, u8, u22, u23, _, u25, u26, u27, u28, u29, fun h1 => (f0.out (Sch.on_ne (i := 8) (by decide) h1)), fun h1 => (f1.out (Sch.on_ne (i := 8) (by decide) h1)), fun _ => ⟨_, rfl, hr⟩, fun h1 => (f3.out (Sch.on_ne (i := 8) (by decide) h1)), fun h1 => (f4.out (Sch.on_ne (i := 8) (by decide) h1)), fun h1 => (f5.out (Sch.on_ne (i := 8) (by decide) h1)), fun h1 => (f6.out (Sch.on_ne (i := 8) (by decide) h1)), fun h1 => (f7.out (Sch.on_ne (i := 8) (by decide) h1)), fun _ => ⟨_, rfl, hr⟩, fun h1 => (f9.out (Sch.on_ne (i := 8) (by decide) h1)), fun h1 => (f10.out (Sch.on_ne (i := 8) (by decide) h1)), HB, HS⟩
      · obtain ⟨ga, rfl, hr⟩ := f5.out (hD 5 (by decide))
        refine Sch.fl_e rfl rfl (fun K hK => ?_)
        go_wp2_with fail
        refine hK _ _ trivial ⟨_, u6, _, u8, u22, u23, u24, u25, u26, _, u28, u29, fun h1 => (f0.out (Sch.on_ne (i := 9) (by decide) h1)), fun h1 => (f1.out (Sch.on_ne (i := 9) (by decide) h1)), fun h1 => (f2.out (Sch.on_ne (i := 9) (by decide) h1)), fun h1 => (f3.out (Sch.on_ne (i := 9) (by decide) h1)), fun h1 => (f4.out (Sch.on_ne (i := 9) (by decide) h1)), fun _ => ⟨_, rfl, hr⟩, fun h1 => (f6.out (Sch.on_ne (i := 9) (by decide) h1)), fun h1 => (f7.out (Sch.on_ne (i := 9) (by decide) h1)), fun h1 => (f8.out (Sch.on_ne (i := 9) (by decide) h1)), fun _ => ⟨_, rfl, hr⟩, fun h1 => (f10.out (Sch.on_ne (i := 9) (by decide) h1)), HB, HS⟩
      · obtain ⟨ga, rfl, hr⟩ := f7.out (hD 7 (by decide))
        refine Sch.fl_e rfl rfl (fun K hK => ?_)
        go_wp2_with fail
        refine hK _ _ trivial ⟨_, u6, u7, _, u22, u23, u24, u25, u26, u27, u28, _, fun h1 => (f0.out (Sch.on_ne (i := 10) (by decide) h1)), fun h1 => (f1.out (Sch.on_ne (i := 10) (by decide) h1)), fun h1 => (f2.out (Sch.on_ne (i := 10) (by decide) h1)), fun h1 => (f3.out (Sch.on_ne (i := 10) (by decide) h1)), fun h1 => (f4.out (Sch.on_ne (i := 10) (by decide) h1)), fun h1 => (f5.out (Sch.on_ne (i := 10) (by decide) h1)), fun h1 => (f6.out (Sch.on_ne (i := 10) (by decide) h1)), fun _ => ⟨_, rfl, hr⟩, fun h1 => (f8.out (Sch.on_ne (i := 10) (by decide) h1)), fun h1 => (f9.out (Sch.on_ne (i := 10) (by decide) h1)), fun _ => ⟨_, rfl, hr⟩, HB, HS⟩
    · clear HB HS
      rintro L hall a w3 - ⟨_, u6, u7, u8, u22, u23, u24, u25, u26, u27, u28, u29, f0, f1, f2, f3, f4, f5, f6, f7, f8, f9, f10, HB, HS⟩
      obtain rfl := f0.out (hall 0 (by decide))
      obtain rfl := f1.out (hall 1 (by decide))
      obtain rfl := f3.out (hall 3 (by decide))
      obtain rfl := f4.out (hall 4 (by decide))
      obtain rfl := f6.out (hall 6 (by decide))
      obtain ⟨q2, rfl, hr2⟩ := f2.out (hall 2 (by decide))
      obtain ⟨q5, rfl, hr5⟩ := f5.out (hall 5 (by decide))
      obtain ⟨q7, rfl, hr7⟩ := f7.out (hall 7 (by decide))
      obtain ⟨q8, rfl, hr8⟩ := f8.out (hall 8 (by decide))
      obtain ⟨q9, rfl, hr9⟩ := f9.out (hall 9 (by decide))
      obtain ⟨q10, rfl, hr10⟩ := f10.out (hall 10 (by decide))
      have HA := Lib.hid (SlN.sl hr8)
      have HC := Lib.hid (SlN.sl hr9)
      have HE := Lib.hid (SlN.sl hr10)
      clear f0 f1 f2 f3 f4 f5 f6 f7 f8 f9 f10 hr2 hr5 hr7 hr8 hr9 hr10 hall
      simp only [List.length_cons, List.length_nil, Nat.zero_add, Nat.reduceAdd] at HA HC HE ⊢
      obtain ⟨d0, d1, d2, d3, d4, d5⟩ := HS.out.2.1
      obtain ⟨y0, y1, y2, y3, y4, y5⟩ := HS.out.1.2.1
      obtain ⟨z0, z1, z2, z3, z4, z5⟩ := HS.out.1.2.2
      go_upto_region 6 with fail
      clear d0 d1 d2 d3 d4 d5 y0 y1 y2 y3 y4 y5 z0 z1 z2 z3 z4 z5
      have hb := bel_box w3 (.cells #[.int .i64 1, .int .i64 1, .int .i64 0, .int .i64 0, .int .i64 1, .int .i32 0, .int .i64 2, .int .i64 1, .int .i64 1, .int .i64 1, .int .i64 2, .int .i32 121, .int .i64 1, .int .i64 2, .int .i64 1, .int .i64 1, .int .i64 3, .int .i32 122] 44)
      have HR : Hid (Sl (w3.alloc (.cells #[.int .i64 1, .int .i64 1, .int .i64 0, .int .i64 0, .int .i64 1, .int .i32 0, .int .i64 2, .int .i64 1, .int .i64 1, .int .i64 1, .int .i64 2, .int .i32 121, .int .i64 1, .int .i64 2, .int .i64 1, .int .i64 1, .int .i64 3, .int .i32 122] 44)) (some ⟨w3.heap.size, 0, none⟩) 3 3 [kD, kY, kZ]) := SlN.sl (RowN.lit w3 [kD, kY, kZ] _ _ _ rfl)
      replace HB := bel_tr HB hb
      replace HS := Lib.hid (HS.out.keep hb)
      replace HA := Lib.hid (HA.out.keep hb)
      replace HC := Lib.hid (HC.out.keep hb)
      replace HE := Lib.hid (HE.out.keep hb)
      clear hb
      generalize w3.alloc (.cells #[.int .i64 1, .int .i64 1, .int .i64 0, .int .i64 0, .int .i64 1, .int .i32 0, .int .i64 2, .int .i64 1, .int .i64 1, .int .i64 1, .int .i64 2, .int .i32 121, .int .i64 1, .int .i64 2, .int .i64 1, .int .i64 1, .int .i64 3, .int .i32 122] 44) = w7 at *
      generalize w3.heap.size = r at *
      go_wp2_with fail
      refine (joins_lit k1 HA.out HC.out HR.out.r rfl (by decide) (by decide)).mono ?_
      rintro e w8 ⟨rfl, hb⟩
      replace HB := bel_tr HB hb
      replace HS := Lib.hid (HS.out.keep hb)
      replace HA := Lib.hid (HA.out.keep hb)
      replace HC := Lib.hid (HC.out.keep hb)
      replace HE := Lib.hid (HE.out.keep hb)
      replace HR := Lib.hid (HR.out.keep hb)
      clear hb
      go_wp2_with fail
      refine (agree_lit k2 HA.out HC.out (by decide) (by decide)).mono ?_
      rintro e w9 ⟨rfl, hb⟩
      replace HB := bel_tr HB hb
      replace HS := Lib.hid (HS.out.keep hb)
      replace HA := Lib.hid (HA.out.keep hb)
      replace HC := Lib.hid (HC.out.keep hb)
      replace HE := Lib.hid (HE.out.keep hb)
      replace HR := Lib.hid (HR.out.keep hb)
      clear hb
      go_wp2_with fail
      refine (within_lit k3 HA.out HR.out (by decide) (by decide)).mono ?_
      rintro e w10 ⟨rfl, hb⟩
      replace HB := bel_tr HB hb
      replace HS := Lib.hid (HS.out.keep hb)
      replace HA := Lib.hid (HA.out.keep hb)
      replace HC := Lib.hid (HC.out.keep hb)
      replace HE := Lib.hid (HE.out.keep hb)
      clear hb
      go_wp2_with fail
      refine (within_lit k4 HC.out HA.out (by decide) (by decide)).mono ?_
      rintro e w11 ⟨rfl, hb⟩
      replace HB := bel_tr HB hb
      replace HS := Lib.hid (HS.out.keep hb)
      replace HA := Lib.hid (HA.out.keep hb)
      replace HC := Lib.hid (HC.out.keep hb)
      replace HE := Lib.hid (HE.out.keep hb)
      clear hb
      go_wp2_with fail
      refine (joins_lit k5 HA.out HE.out (RowN.nil _ _) rfl (by decide) (by decide)).mono ?_
      rintro e w12 ⟨rfl, hb⟩
      replace HB := bel_tr HB hb
      replace HS := Lib.hid (HS.out.keep hb)
      replace HA := Lib.hid (HA.out.keep hb)
      replace HC := Lib.hid (HC.out.keep hb)
      replace HE := Lib.hid (HE.out.keep hb)
      clear hb
      go_wp2_with fail
      refine (agree_lit k6 HA.out HE.out (by decide) (by decide)).mono ?_
      rintro e w13 ⟨rfl, hb⟩
      replace HB := bel_tr HB hb
      replace HS := Lib.hid (HS.out.keep hb)
      replace HA := Lib.hid (HA.out.keep hb)
      replace HC := Lib.hid (HC.out.keep hb)
      replace HE := Lib.hid (HE.out.keep hb)
      clear hb
      have hb := bel_box w13 (.cells #[.slice (some ⟨q8, 0, none⟩) 2 2, .slice (some ⟨q9, 0, none⟩) 2 2, .slice (some ⟨q10, 0, none⟩) 1 1] 23)
      have HQ : Hid (RowL (w13.alloc (.cells #[.slice (some ⟨q8, 0, none⟩) 2 2, .slice (some ⟨q9, 0, none⟩) 2 2, .slice (some ⟨q10, 0, none⟩) 1 1] 23)) (some ⟨w13.heap.size, 0, none⟩) [([kX, kY], (some ⟨q8, 0, none⟩), 2), ([kD, kZ], (some ⟨q9, 0, none⟩), 2), ([kO], (some ⟨q10, 0, none⟩), 1)]) := RowL.lit w13 [([kX, kY], (some ⟨q8, 0, none⟩), 2), ([kD, kZ], (some ⟨q9, 0, none⟩), 2), ([kO], (some ⟨q10, 0, none⟩), 1)] _ _ _ rfl
      have HQa : Hid (AllL (w13.alloc (.cells #[.slice (some ⟨q8, 0, none⟩) 2 2, .slice (some ⟨q9, 0, none⟩) 2 2, .slice (some ⟨q10, 0, none⟩) 1 1] 23)) [([kX, kY], (some ⟨q8, 0, none⟩), 2), ([kD, kZ], (some ⟨q9, 0, none⟩), 2), ([kO], (some ⟨q10, 0, none⟩), 1)]) := by
        intro x hx
        simp only [List.mem_cons, List.not_mem_nil, or_false] at hx
        rcases hx with rfl | rfl | rfl
        · exact HA.out.keep hb
        · exact HC.out.keep hb
        · exact HE.out.keep hb
      replace HB := bel_tr HB hb
      replace HS := Lib.hid (HS.out.keep hb)
      replace HA := Lib.hid (HA.out.keep hb)
      replace HC := Lib.hid (HC.out.keep hb)
      replace HE := Lib.hid (HE.out.keep hb)
      clear hb
      go_wp2_with fail
      refine (alls_lit (S := [([kX, kY], (some ⟨q8, 0, none⟩), 2), ([kD, kZ], (some ⟨q9, 0, none⟩), 2), ([kO], (some ⟨q10, 0, none⟩), 1)]) k7 HQ.out HQa.out rfl (RowN.nil _ _) rfl (by simp) (show (List.flatten [[kX, kY], [kD, kZ], [kO]]).length ≤ 1000 from by decide) (show ((List.flatten [[kX, kY], [kD, kZ], [kO]]).all fun n => fitB n.1 && fitB n.2.1) = true from by decide) (by decide)).mono ?_
      rintro e w14 ⟨rfl, hb⟩
      replace HB := bel_tr HB hb
      replace HS := Lib.hid (HS.out.keep hb)
      replace HA := Lib.hid (HA.out.keep hb)
      replace HC := Lib.hid (HC.out.keep hb)
      replace HE := Lib.hid (HE.out.keep hb)
      clear HQ HQa
      clear hb
      go_wp2_with fail
      refine (joins_lit k8 HC.out HE.out HC.out.r rfl (by decide) (by decide)).mono ?_
      rintro e w15 ⟨rfl, hb⟩
      replace HB := bel_tr HB hb
      replace HS := Lib.hid (HS.out.keep hb)
      replace HA := Lib.hid (HA.out.keep hb)
      replace HC := Lib.hid (HC.out.keep hb)
      replace HE := Lib.hid (HE.out.keep hb)
      clear hb
      go_wp2_with fail
      refine (alls_lit (S := []) k9 (.inl rfl) (fun x hx => by cases hx) rfl (RowN.nil _ _) rfl (by decide) (by decide) (by decide) (by decide)).mono ?_
      rintro e w16 ⟨rfl, hb⟩
      replace HB := bel_tr HB hb
      replace HS := Lib.hid (HS.out.keep hb)
      replace HA := Lib.hid (HA.out.keep hb)
      replace HC := Lib.hid (HC.out.keep hb)
      replace HE := Lib.hid (HE.out.keep hb)
      clear hb
      have hb := bel_box w16 (.cells #[.slice (some ⟨q8, 0, none⟩) 2 2, .slice (some ⟨q8, 0, none⟩) 2 2] 23)
      have HQ : Hid (RowL (w16.alloc (.cells #[.slice (some ⟨q8, 0, none⟩) 2 2, .slice (some ⟨q8, 0, none⟩) 2 2] 23)) (some ⟨w16.heap.size, 0, none⟩) [([kX, kY], (some ⟨q8, 0, none⟩), 2), ([kX, kY], (some ⟨q8, 0, none⟩), 2)]) := RowL.lit w16 [([kX, kY], (some ⟨q8, 0, none⟩), 2), ([kX, kY], (some ⟨q8, 0, none⟩), 2)] _ _ _ rfl
      have HQa : Hid (AllL (w16.alloc (.cells #[.slice (some ⟨q8, 0, none⟩) 2 2, .slice (some ⟨q8, 0, none⟩) 2 2] 23)) [([kX, kY], (some ⟨q8, 0, none⟩), 2), ([kX, kY], (some ⟨q8, 0, none⟩), 2)]) := by
        intro x hx
        simp only [List.mem_cons, List.not_mem_nil, or_false] at hx
        rcases hx with rfl | rfl
        · exact HA.out.keep hb
        · exact HA.out.keep hb
      replace HB := bel_tr HB hb
      replace HS := Lib.hid (HS.out.keep hb)
      replace HA := Lib.hid (HA.out.keep hb)
      replace HC := Lib.hid (HC.out.keep hb)
      replace HE := Lib.hid (HE.out.keep hb)
      clear hb
      go_wp2_with fail
      refine (alls_lit (S := [([kX, kY], (some ⟨q8, 0, none⟩), 2), ([kX, kY], (some ⟨q8, 0, none⟩), 2)]) k10 HQ.out HQa.out rfl HA.out.r rfl (by simp) (show (List.flatten [[kX, kY], [kX, kY]]).length ≤ 1000 from by decide) (show ((List.flatten [[kX, kY], [kX, kY]]).all fun n => fitB n.1 && fitB n.2.1) = true from by decide) (by decide)).mono ?_
      rintro e w17 ⟨rfl, hb⟩
      replace HB := bel_tr HB hb
      replace HS := Lib.hid (HS.out.keep hb)
      replace HA := Lib.hid (HA.out.keep hb)
      replace HC := Lib.hid (HC.out.keep hb)
      replace HE := Lib.hid (HE.out.keep hb)
      clear HQ HQa
      clear hb
      obtain ⟨x0, x1, x2, x3, x4, x5⟩ := HS.out.1.1
      obtain ⟨y0, y1, y2, y3, y4, y5⟩ := HS.out.1.2.1
      have hb := bel_box w17 (.cells #[.int .i64 2, .int .i64 1, .int .i64 1, .int .i64 1, .int .i64 2, .int .i32 121, .int .i64 1, .int .i64 1, .int .i64 0, .int .i64 0, .int .i64 1, .int .i32 120] 44)
      have HW : Hid (Sl (w17.alloc (.cells #[.int .i64 2, .int .i64 1, .int .i64 1, .int .i64 1, .int .i64 2, .int .i32 121, .int .i64 1, .int .i64 1, .int .i64 0, .int .i64 0, .int .i64 1, .int .i32 120] 44)) (some ⟨w17.heap.size, 0, none⟩) 2 2 [kY, kX]) := SlN.sl (RowN.lit w17 [kY, kX] _ _ _ rfl)
      replace HB := bel_tr HB hb
      replace HA := Lib.hid (HA.out.keep hb)
      clear hb
      go_wp2_with fail
      refine (joins_lit k11 HA.out HW.out (RowN.nil _ _) rfl (by decide) (by decide)).mono ?_
      rintro e w18 ⟨rfl, hb⟩
      replace HB := bel_tr HB hb
      clear hb
      go_wp2_with fail
      go_ret
      exact ⟨rfl, HB.out⟩
end Go.Proofs.Ytmdebedkljpagaa.Jn
