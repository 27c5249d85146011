/-
  The program's Open.
-/
import Derived.Test.YtgakbncglkegiaaDoorCLib
import Derived.Test.YtgakbncglkegiaaDoorGen
namespace Go.Proofs.YtgakbncglkegiaaDoor.C
set_option linter.unusedVariables false
open Go.RowKit V

/-- The first bytes of a slice, and the last ones. -/
theorem cut_lo (a : Option Addr) (len cap n : Nat) (hn : n ≤ cap) : ∀ wx : World,
    (Instr.slice 23 (.slice a len cap) none (some (.int .i64 (n : Int))) none).run Tryd.prog wx = .ok (.slice a n cap) wx := by
  obtain ⟨i, hi, hz0, hz1, hz2⟩ := info_parts info8
  intro wx
  have h1 : (Instr.sliceBound (.int .i64 (n : Int)) cap .sliceAcap).run Tryd.prog wx = .ok n wx := by
    rw [run_sliceBound _ _ _ _ _ (by omega) (by omega)]; rfl
  have h0 : (⟨0, 0, none⟩ : Addr).add 0 = ⟨0, 0, none⟩ := rfl
  by_cases hc : cap = 0
  · rw [hc] at h1
    simp [Instr.slice, run_underlying Tryd.underlying23, Instr.sliceBounds, h1, Result.andThen, sizeOf, typeInfo, hi, hz1, hc]
  · have : a.map (fun x => x.add 0) = a := by
      rcases a with _ | ⟨b, o, s⟩
      · rfl
      · simp [Addr.add]
    simp [Instr.slice, run_underlying Tryd.underlying23, Instr.sliceBounds, h1, Result.andThen, sizeOf, typeInfo, hi, hz1, hc, this]
def off (a : Option Addr) (cap m : Nat) : Option Addr := if cap = m then a else a.map (·.add m)
theorem cut_hi (a : Option Addr) (len cap m k : Nat) (hk : len = m + k) (hlc : len ≤ cap) : ∀ wx : World,
    (Instr.slice 23 (.slice a len cap) (some (.int .i64 (m : Int))) none none).run Tryd.prog wx = .ok (.slice (off a cap m) k (cap - m)) wx := by
  obtain ⟨i, hi, hz0, hz1, hz2⟩ := info_parts info8
  intro wx
  have h2 : (Instr.sliceBound (.int .i64 (m : Int)) len .sliceB).run Tryd.prog wx = .ok m wx := by
    rw [run_sliceBound _ _ _ _ _ (by omega) (by omega)]; rfl
  have e : len - m = k := by omega
  simp [Instr.slice, run_underlying Tryd.underlying23, Instr.sliceBounds, h2, Result.andThen, sizeOf, typeInfo, hi, hz1, e, off]
theorem off_row {w : World} {a : Option Addr} {l : List UInt8} (h : Row8 w a l) (cap m : Nat) (hlc : l.length ≤ cap) (hm : m ≤ l.length) : Row8 w (off a cap m) (l.drop m) := by
  unfold off
  split
  · left
    rw [List.drop_eq_nil_iff]; omega
  · rcases h with rfl | ⟨b, o, rfl, hc⟩
    · exact .inl (by simp)
    · have e : (⟨b, o, none⟩ : Addr).add m = ⟨b, o + m, none⟩ := by unfold Addr.add; split <;> simp_all
      rw [Option.map_some, e]
      have := Row8.part (w := w) (b := b) (o := o) (l := l) (.inr ⟨b, o, rfl, hc⟩) m (l.length - m) (by omega)
      rwa [List.take_of_length_le (by rw [List.length_drop]; omega)] at this
theorem off_none {a : Option Addr} {cap m : Nat} (h : off a cap m = none) : a = none := by
  unfold off at h
  split at h
  · exact h
  · simpa using h
theorem take_row {w : World} {a : Option Addr} {l : List UInt8} (h : Row8 w a l) (n : Nat) : Row8 w a (l.take n) := by
  rcases h with rfl | ⟨b, o, rfl, hc⟩
  · exact .inl (by simp)
  · refine .inr ⟨b, o, rfl, fun i hi => ?_⟩
    rw [List.length_take] at hi
    rw [hc i (by omega)]
    simp

theorem opn_no {l : List UInt8} (h : l.length < 4) : opn l = ([], 4) := by unfold opn; rw [if_pos h]
theorem opn_ok {l : List UInt8} {n : Nat} (h : l.length = n + 4) (e : be (sum (l.take n)) = l.drop n) : opn l = (l.take n, 0) := by
  unfold opn; rw [if_neg (by omega), h, show n + 4 - 4 = n by omega, if_pos e]
theorem opn_bad {l : List UInt8} {n : Nat} (h : l.length = n + 4) (e : ¬ be (sum (l.take n)) = l.drop n) : opn l = ([], 10) := by
  unfold opn; rw [if_neg (by omega), h, show n + 4 - 4 = n by omega, if_neg e]

set_option maxRecDepth 100000 in
set_option maxHeartbeats 1000000 in
theorem open_long (l : List UInt8) (n : Nat) (a : Option Addr) (c : Nat) (w : World) (hn : l.length = n + 4) (hL : Ld w) (hrow : Row8 w a l) (hnil : a = none → c = 0) (hlc : l.length ≤ c) (hlen : l.length ≤ 35184372088832) :
    Calls Tryd.prog 25 #[.slice a (n + 4) c] w fun e w' => ∃ v, e = .returned (.tuple #[v, .int .i64 ((opn l).2 : Int)]) ∧ O8 w' w.heap.size v (opn l).1 ∧ Below w.heap.size w w' := by
  have s1 := cut_lo a (n + 4) c n (by omega)
  have s2 := cut_hi a (n + 4) c n 4 rfl (by omega)
  have HR := Lib.hid hrow
  have hT : (l.take n).length = n := by rw [List.length_take]; omega
  have hD : (l.drop n).length = 4 := by rw [List.length_drop]; omega
  have HRT := Lib.hid (take_row hrow n)
  have HRD := Lib.hid (off_row hrow c n hlc (by omega))
  have HS := Lib.hid (fun (wx : World) (h : Ld wx) (hr : Row8 wx a (l.take n)) => sumOf_any (l.take n) a c wx h hr (by omega))
  have HQ := Lib.hid (fun (wx : World) (x : List UInt8) (y : Option Addr) (d : Nat) (hx : x.length = 4) (hr : Row8 wx y x) (hr2 : Row8 wx (off a c n) (l.drop n)) => equal_any x (l.drop n) y (off a c n) d (c - n) wx (by omega) (by omega) hr hr2)
  have HF := Lib.hid (be_length (sum (l.take n)))
  have HCl := Lib.hid (fun (wx : World) (hr : Row8 wx a (l.take n)) => clone_any (l.take n) a c wx hr hnil (by omega))
  have HY := Lib.hid (fun e => opn_ok hn e)
  have HNo := Lib.hid (fun e => opn_bad hn e)
  have hn2 : (n : Int) ≤ 35184372088832 := by omega
  have HL := Lib.hid hL
  have hlt : ¬ (n : Int) + 4 < 4 := by omega
  have HLc := Lib.hid hlen
  rw [hT] at HS HCl
  rw [hD] at HQ
  clear hrow hnil hlc hlen hL hT hD HR
  generalize off a c n = b at *
  generalize be (sum (l.take n)) = m at *
  generalize l.take n = P at *
  generalize l.drop n = S at *
  go_enter Tryd.func25, Tryd.ntmps25
  go_wp2_with fail
  go_quiet (fail)
  go_wp2_with fail
  refine (HS.out _ (HL.out.below (bel_drewN (Below.refl _ _) nq)) (HRT.out.drewN nq)).mono ?_
  rintro e w1 ⟨v, rfl, ho, hb⟩
  obtain ⟨y, d, rfl, hrm, -, -⟩ := ho.row
  have HB : Hid (Below w.heap.size w w1) := (bel_drewN (Below.refl _ _) nq).trans hb
  have HM := Lib.hid hrm
  clear ho hb hrm HS
  rw [HF.out]
  go_wp2_with fail
  have hq := HQ.out w1 m y d HF.out HM.out (HRD.out.keep HB.out)
  rw [HF.out] at hq
  refine hq.mono ?_
  clear hq
  rintro e w2 ⟨rfl, hb⟩
  replace HB : Hid (Below w.heap.size w w2) := HB.out.trans (hb.mono HB.out.size)
  clear hb
  by_cases hmS : m = S
  · have HE := Lib.hid (HY.out hmS)
    have hd : decide (m = S) = true := by simpa using hmS
    clear hmS HY HNo HQ
    go_wp2_with fail
    refine (HCl.out _ (HRT.out.keep HB.out)).mono ?_
    rintro e w3 ⟨v, rfl, ho, hb⟩
    have HO : Hid (O8 w3 w.heap.size v P) := ho.mono fun k hk => Nat.le_trans HB.out.size (ho.lt k hk).1
    replace HB : Hid (Below w.heap.size w w3) := HB.out.trans (hb.mono HB.out.size)
    clear ho hb
    go_wp2_with fail
    go_ret2
    rw [HE.out]
    exact ⟨v, rfl, HO.out, HB.out⟩
  · have HE := Lib.hid (HNo.out hmS)
    have hd : decide (m = S) = false := by simpa using hmS
    clear hmS HY HNo HQ
    go_wp2_with fail
    go_ret2
    rw [HE.out]
    exact ⟨_, rfl, O8.nil _ _, HB.out⟩

set_option maxRecDepth 100000 in
set_option maxHeartbeats 1000000 in
theorem open_any (l : List UInt8) (a : Option Addr) (c : Nat) (w : World) (hL : Ld w) (hrow : Row8 w a l) (hnil : a = none → c = 0) (hlc : l.length ≤ c) (hlen : l.length ≤ 35184372088832) :
    Calls Tryd.prog 25 #[.slice a l.length c] w fun e w' => ∃ v, e = .returned (.tuple #[v, .int .i64 ((opn l).2 : Int)]) ∧ O8 w' w.heap.size v (opn l).1 ∧ Below w.heap.size w w' := by
  by_cases h : l.length < 4
  · rw [opn_no h]
    have hd : (l.length : Int) < 4 := by omega
    clear hL hrow hnil hlc hlen h
    go_enter Tryd.func25, Tryd.ntmps25
    go_wp2_with fail
    go_ret2
    exact ⟨_, rfl, O8.nil _ _, Below.refl _ _⟩
  · obtain ⟨n, hn⟩ : ∃ n, l.length = n + 4 := ⟨l.length - 4, by omega⟩
    have := open_long l n a c w hn hL hrow hnil hlc hlen
    rw [← hn] at this
    exact this
end Go.Proofs.YtgakbncglkegiaaDoor.C
