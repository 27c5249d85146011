/-
  What comes in: an edit, lists of edits.
-/
import Derived.Test.YtkcbekebleodaaaGreatMEdQ
import Derived.Test.YtkcbekebleodaaaGreatQIn

section
namespace Go.Proofs.YtkcbekebleodaaaGreat.Ed
set_option linter.unusedVariables false
open Go.RowKit Go.ChangeShapes Go.WideShapes Go.ChangeAt V D Nd Qs Jn

theorem u8_in {P : Program} {H : Type} {enc : TypeId × Value → H} {W : World} {base n : Nat} {spare : Nat → Bool} {held : Bool} {t : TypeId} {v : Value} {y : DataW H × List MemPlace}
    (ht : P.underlying t = some (.int .u8)) (h : DataW.trod enc P W base spare held n t [v] = some y) : ∃ z : Nat, v = .int .u8 (z : Int) ∧ z ≤ 255 := by
  obtain ⟨z, e, _, hw⟩ := DataW.trod_int ht h
  simp only [List.cons.injEq, and_true] at e
  have := G.wf_u8 hw
  exact ⟨z.toNat, by rw [e, Int.toNat_of_nonneg this.1], by omega⟩
theorem runes_in {P : Program} {H : Type} {enc : TypeId × Value → H} {W : World} {base n : Nat} {t e : TypeId} {v : Value} {y : DataW H × List MemPlace}
    (ht : P.underlying t = some (.slice e)) (he : P.underlying e = some (.int .i32)) (hc : P.cellsOf e = 1) (h : DataW.trod enc P W base (fun _ => true) true n t [v] = some y) :
    ∃ (zs : List Int) (a : Option Addr) (m : Nat), v = .slice a zs.length m ∧ Ri W a m zs ∧ zs.length ≤ 9223372036854775807 := by
  have hs : ∃ (a : Option Addr) (len cap : Nat), v = .slice a len cap := by
    rcases open_ints ht he hc h with ⟨hcs, _⟩ | ⟨x, l, c, zs, hcs, _⟩
    · simp only [List.cons.injEq, and_true] at hcs
      exact ⟨_, _, _, hcs⟩
    · simp only [List.cons.injEq, and_true] at hcs
      exact ⟨_, _, _, hcs⟩
  obtain ⟨a, len, cap, rfl⟩ := hs
  obtain ⟨zs, e1, h1, h2, h3, h4, h5⟩ := G.in_ints (d := y.1) (p := y.2) ht he hc ⟨n, h⟩
  subst e1
  exact ⟨zs, a, cap, rfl, ⟨h1, h2, h5⟩, h4⟩
/-- Three cells that are an edit. -/
theorem act_in {P : Program} {H : Type} {enc : TypeId × Value → H} {W : World} {base n : Nat} {t e : TypeId} {f0 f1 f2 : Field} {v0 v1 v2 : Value} {y : DataW H × List MemPlace}
    (ht : P.underlying t = some (.struct #[f0, f1, f2])) (o0 : f0.offset = 0) (o1 : f1.offset = 1) (o2 : f2.offset = 2) (c0 : P.cellsOf f0.type = 1) (c1 : P.cellsOf f1.type = 1) (c2 : P.cellsOf f2.type = 1)
    (k0 : P.underlying f0.type = some (.int .u8)) (k1 : P.underlying f1.type = some (.int .u8)) (k2 : P.underlying f2.type = some (.slice e)) (he : P.underlying e = some (.int .i32)) (hc : P.cellsOf e = 1)
    (h : DataW.trod enc P W base (fun _ => true) true n t [v0, v1, v2] = some y) :
    ∃ z : Ac, v0 = .int .u8 (z.1 : Int) ∧ v1 = .int .u8 (z.2.1 : Int) ∧ v2 = .slice z.2.2.2.1 z.2.2.1.length z.2.2.2.2 ∧ Ri W z.2.2.2.1 z.2.2.2.2 z.2.2.1 ∧ wfC z := by
  obtain ⟨y0, y1, y2, m, _, _, g0, g1, g2⟩ := Deep.trod_struct3 ht h
  simp only [o0, o1, o2, c0, c1, c2, List.drop_zero, List.take_succ_cons, List.take_zero, List.drop_succ_cons] at g0 g1 g2
  obtain ⟨p, rfl, hp⟩ := u8_in k0 g0
  obtain ⟨q, rfl, hq⟩ := u8_in k1 g1
  obtain ⟨zs, a, c, rfl, hr, hl⟩ := runes_in k2 he hc g2
  exact ⟨(p, q, zs, a, c), rfl, rfl, rfl, hr, hp, hq, hl⟩
/-- An edit that came in. -/
theorem in_act {P : Program} {H : Type} {enc : TypeId × Value → H} {W : World} {base b0 : Nat} {r : Reach} {t e : TypeId} {f0 f1 f2 : Field} {v : Value} {d : DataW H} {p : List MemPlace}
    (ht : P.underlying t = some (.struct #[f0, f1, f2])) (hC : P.cellsOf t = 3) (o0 : f0.offset = 0) (o1 : f1.offset = 1) (o2 : f2.offset = 2) (c0 : P.cellsOf f0.type = 1) (c1 : P.cellsOf f1.type = 1) (c2 : P.cellsOf f2.type = 1)
    (k0 : P.underlying f0.type = some (.int .u8)) (k1 : P.underlying f1.type = some (.int .u8)) (k2 : P.underlying f2.type = some (.slice e)) (he : P.underlying e = some (.int .i32)) (hc : P.cellsOf e = 1)
    (hv : Value.okWide P W r b0 t v) (h : DataW.Trod enc P W base (fun _ => true) true t v d p) :
    ∃ z : Ac, v = .agg #[.int .u8 (z.1 : Int), .int .u8 (z.2.1 : Int), .slice z.2.2.2.1 z.2.2.1.length z.2.2.2.2] ∧ Ri W z.2.2.2.1 z.2.2.2.2 z.2.2.1 ∧ wfC z := by
  obtain ⟨cs, rfl, hsz⟩ := okWide_struct ht hv
  obtain ⟨l⟩ := cs
  match l, hsz.trans hC with
  | [a0, a1, a2], _ =>
    obtain ⟨fuel, hf⟩ := h
    obtain ⟨z, rfl, rfl, rfl, h1, h2⟩ := act_in ht o0 o1 o2 c0 c1 c2 k0 k1 k2 he hc (show DataW.trod enc P W base (fun _ => true) true fuel t [a0, a1, a2] = some (d, p) by simpa [Value.cells] using hf)
    exact ⟨z, rfl, h1, h2⟩
/-- A list of edits that came in. -/
theorem in_acts {P : Program} {H : Type} {enc : TypeId × Value → H} {W : World} {base : Nat} {t s e : TypeId} {f0 f1 f2 : Field} {a : Option Addr} {len cap : Nat} {d : DataW H} {p : List MemPlace}
    (ht : P.underlying t = some (.slice s)) (hs : P.underlying s = some (.struct #[f0, f1, f2])) (cs : P.cellsOf s = 3) (o0 : f0.offset = 0) (o1 : f1.offset = 1) (o2 : f2.offset = 2) (c0 : P.cellsOf f0.type = 1) (c1 : P.cellsOf f1.type = 1) (c2 : P.cellsOf f2.type = 1)
    (k0 : P.underlying f0.type = some (.int .u8)) (k1 : P.underlying f1.type = some (.int .u8)) (k2 : P.underlying f2.type = some (.slice e)) (he : P.underlying e = some (.int .i32)) (hc : P.cellsOf e = 1)
    (h : DataW.Trod enc P W base (fun _ => true) true t (.slice a len cap) d p) :
    ∃ zs : List Ac, zs.length = len ∧ RowC W a zs ∧ (a = none → cap = 0) ∧ AllC W zs ∧ (∀ z ∈ zs, wfC z) ∧ zs.length ≤ 9223372036854775807 ∧ len ≤ cap := by
  obtain ⟨fuel, hf⟩ := h
  rcases Deep.open_slice ht hf with ⟨hcs, _⟩ | ⟨x, l, c, m, n, Dd, Pl, hcs, _, hl, hm, hmm, _, hx⟩
  · simp [Value.cells] at hcs
    obtain ⟨rfl, rfl, rfl⟩ := hcs
    exact ⟨[], rfl, .inl rfl, fun _ => rfl, (fun x hx => by cases hx), (fun z hz => by cases hz), by simp, by omega⟩
  · simp [Value.cells] at hcs
    obtain ⟨rfl, rfl, rfl⟩ := hcs
    have hm' : m = cap := by simpa using hmm
    subst hm'
    have each : ∀ i, i < len → ∃ z : Ac, W.cell? (x.add (i * 3)) = some (.int .u8 (z.1 : Int)) ∧ W.cell? (x.add (i * 3 + 1)) = some (.int .u8 (z.2.1 : Int)) ∧ W.cell? (x.add (i * 3 + 2)) = some (.slice z.2.2.2.1 z.2.2.1.length z.2.2.2.2) ∧ Ri W z.2.2.2.1 z.2.2.2.2 z.2.2.1 ∧ wfC z := by
      intro i hi
      obtain ⟨cs', h1, h2⟩ := hx i (by omega)
      rw [cs] at h1
      obtain ⟨_, hlen, hcell⟩ := World.cells?_some h1
      match cs', hlen with
      | [v0, v1, v2], _ =>
        have e0 := hcell 0 (by omega)
        have e1 := hcell 1 (by omega)
        have e2 := hcell 2 (by omega)
        rw [Deep.add_add] at e0 e1 e2
        obtain ⟨z, rfl, rfl, rfl, g1, g2⟩ := act_in hs o0 o1 o2 c0 c1 c2 k0 k1 k2 he hc h2
        exact ⟨z, by simpa using e0, by simpa using e1, by simpa using e2, g1, g2⟩
    obtain ⟨z, hz⟩ := Deep.choose_lt each
    have hm63 : len ≤ 9223372036854775807 := by unfold maxLen at hm; omega
    clear hm
    refine ⟨(List.range len).map z, by rw [List.length_map, List.length_range], ?_, (fun h => nomatch h), ?_, ?_, (by rw [List.length_map, List.length_range]; exact hm63), hl⟩
    · by_cases h0 : len = 0
      · left; subst h0; rfl
      · obtain ⟨b, off, spot⟩ := x
        have hc0 := (hz 0 (by omega)).1
        have hspot : spot = none := by simpa [Addr.add] using World.cell?_spot hc0
        subst hspot
        refine .inr ⟨b, off, rfl, fun i hi => ?_⟩
        have hi' : i < len := by simpa using hi
        obtain ⟨g0, g1, g2, -, -⟩ := hz i hi'
        rw [Qs.addr_add b off] at g0 g1 g2
        have eg : ((List.range len).map z)[i] = z i := by simp
        rw [eg]
        exact ⟨g0, by rw [Nat.add_assoc]; exact g1, by rw [Nat.add_assoc]; exact g2⟩
    · intro y hy
      obtain ⟨i, hi, rfl⟩ := List.mem_map.1 hy
      exact (hz i (List.mem_range.1 hi)).2.2.2.1
    · intro y hy
      obtain ⟨i, hi, rfl⟩ := List.mem_map.1 hy
      exact (hz i (List.mem_range.1 hi)).2.2.2.2
end Go.Proofs.YtkcbekebleodaaaGreat.Ed
end

/-
  The laws of layer 15, as the rows' frames ask for them.
-/
section
namespace Go.Proofs.YtkcbekebleodaaaGreat.Ed
set_option linter.unusedVariables false
open Go.RowKit V D Nd Qs Jn

theorem lit64w {z : Int} (h1 : -9223372036854775808 ≤ z) (h2 : z ≤ 9223372036854775807) : (Lit.int .i64 z).wf = true := by
  simp only [Lit.wf, IntKind.min, IntKind.max, IntKind.signed, IntKind.bits]
  simp
  omega
theorem fit_wfw {d : Dt} (h : wfD d) : fitD d := ⟨lit64w h.1.1 h.1.2, lit64w h.2.1 h.2.2⟩
theorem fit_inw {l : List Nt} (hw : ∀ x ∈ l, wfN x) : ∀ x ∈ l, fitN x := fun x h => ⟨fit_wfw (hw x h).1, fit_wfw (hw x h).2.1⟩
theorem inserts_law2 (l : List Nt) (a : Option Addr) (c : Nat) (d : Dt) (i : Int) (rs : List Int) (b : Option Addr) (e : Nat) (w : World) (hl : l.length ≤ 9223372036854775807) (hx : RowN w a l) (hna : a = none → c = 0) (hw : ∀ x ∈ l, wfN x) (hc : l.length ≤ c)
    (hd : wfD d) (hi : (Lit.int .i64 i).wf = true) (hlr : rs.length ≤ 9223372036854775807) (hr : G.RowI .i32 w b rs) (hnb : b = none → e = 0) (hwr : ∀ n ∈ rs, (Lit.int .i32 n).wf = true) (hce : rs.length ≤ e) :
    Calls Tryz.prog 3 #[.slice a l.length c, dv d, .int .i64 i, .slice b rs.length e] w fun e w' => e = .returned (.bool true) ∧ Below w.heap.size w w' :=
  inserts_law l d i rs a b c e w (fit_inw hw) ⟨rfl, hx, hna, hc⟩ ⟨hr, hnb, hce⟩ hd.2.1 hd.2.2 (G.wf_i64 hi).1 (G.wf_i64 hi).2
theorem deletes_law2 (l : List Nt) (a : Option Addr) (c : Nat) (i n : Int) (w : World) (hl : l.length ≤ 9223372036854775807) (hx : RowN w a l) (hna : a = none → c = 0) (hw : ∀ x ∈ l, wfN x) (hc : l.length ≤ c)
    (hi : (Lit.int .i64 i).wf = true) (hn : (Lit.int .i64 n).wf = true) :
    Calls Tryz.prog 4 #[.slice a l.length c, .int .i64 i, .int .i64 n] w fun e w' => e = .returned (.bool true) ∧ Below w.heap.size w w' :=
  deletes_law l i n a c w (fit_inw hw) ⟨rfl, hx, hna, hc⟩ (G.wf_i64 hi).1 (G.wf_i64 hi).2 (G.wf_i64 hn).1 (G.wf_i64 hn).2
theorem replaces_law2 (l : List Nt) (a : Option Addr) (c : Nat) (d : Dt) (i n : Int) (rs : List Int) (b : Option Addr) (e : Nat) (w : World) (hl : l.length ≤ 9223372036854775807) (hx : RowN w a l) (hna : a = none → c = 0) (hw : ∀ x ∈ l, wfN x) (hc : l.length ≤ c)
    (hd : wfD d) (hi : (Lit.int .i64 i).wf = true) (hn : (Lit.int .i64 n).wf = true) (hlr : rs.length ≤ 9223372036854775807) (hr : G.RowI .i32 w b rs) (hnb : b = none → e = 0) (hwr : ∀ n ∈ rs, (Lit.int .i32 n).wf = true) (hce : rs.length ≤ e) :
    Calls Tryz.prog 5 #[.slice a l.length c, dv d, .int .i64 i, .int .i64 n, .slice b rs.length e] w fun e w' => e = .returned (.bool true) ∧ Below w.heap.size w w' :=
  replaces_law l d i n rs a b c e w (fit_inw hw) ⟨rfl, hx, hna, hc⟩ ⟨hr, hnb, hce⟩ hd.2.1 hd.2.2 (G.wf_i64 hi).1 (G.wf_i64 hi).2 (G.wf_i64 hn).1 (G.wf_i64 hn).2
theorem applies_law2 (l : List Nt) (a : Option Addr) (c : Nat) (m : List Nt) (b : Option Addr) (d : Nat) (w : World) (hl : l.length ≤ 9223372036854775807) (hx : RowN w a l) (hna : a = none → c = 0) (hw : ∀ x ∈ l, wfN x) (hc : l.length ≤ c)
    (hm : m.length ≤ 9223372036854775807) (hy : RowN w b m) (hnb : b = none → d = 0) (hv : ∀ x ∈ m, wfN x) (hd : m.length ≤ d) :
    Calls Tryz.prog 6 #[.slice a l.length c, .slice b m.length d] w fun e w' => e = .returned (.bool true) ∧ Below w.heap.size w w' :=
  applies_law l m a b c d w ⟨rfl, hx, hna, hc⟩ ⟨rfl, hy, hnb, hd⟩
theorem longs_law2 (m x : Int) (w : World) (hm : (Lit.int .i64 m).wf = true) (hx : (Lit.int .i32 x).wf = true) :
    Calls Tryz.prog 7 #[.int .i64 m, .int .i32 x] w fun e w' => e = .returned (.bool true) ∧ Below w.heap.size w w' := longs_law m x w
theorem plays_law2 (S : List Ac) (a : Option Addr) (c : Nat) (w : World) (hl : S.length ≤ 9223372036854775807) (hS : RowC w a S) (hna : a = none → c = 0) (hA : AllC w S) (hw : ∀ z ∈ S, wfC z) (hc : S.length ≤ c) :
    Calls Tryz.prog 8 #[.slice a S.length c] w fun e w' => e = .returned (.bool true) ∧ Below w.heap.size w w' := plays_law S a c w hS hA hw hl
theorem holds_law2 (l : List Nt) (a : Option Addr) (c : Nat) (x y : Ac) (w : World) (hl : l.length ≤ 9223372036854775807) (hx : RowN w a l) (hna : a = none → c = 0) (hw : ∀ x ∈ l, wfN x) (hc : l.length ≤ c)
    (hr1 : Ri w x.2.2.2.1 x.2.2.2.2 x.2.2.1) (hw1 : wfC x) (hr2 : Ri w y.2.2.2.1 y.2.2.2.2 y.2.2.1) (hw2 : wfC y) :
    Calls Tryz.prog 9 #[.slice a l.length c, .agg #[.int .u8 (x.1 : Int), .int .u8 (x.2.1 : Int), .slice x.2.2.2.1 x.2.2.1.length x.2.2.2.2], .agg #[.int .u8 (y.1 : Int), .int .u8 (y.2.1 : Int), .slice y.2.2.2.1 y.2.2.1.length y.2.2.2.2]] w fun e w' => e = .returned (.bool true) ∧ Below w.heap.size w w' :=
  holds_law l a c x.1 x.2.1 x.2.2.1 x.2.2.2.1 x.2.2.2.2 y.1 y.2.1 y.2.2.1 y.2.2.2.1 y.2.2.2.2 w ⟨rfl, hx, hna, hc⟩ hr1 hr2 hw1.1 hw1.2.1 hw2.1 hw2.2.1 hw1.2.2 hw2.2.2 hl
end Go.Proofs.YtkcbekebleodaaaGreat.Ed
end
