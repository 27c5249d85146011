/-
  The reference's Cut and Same.
-/
import Derived.Test.YtjkiollopajmoabDoorRRefD
import Derived.Test.YtjkiollopajmoabDoorRCut
namespace Go.Proofs.YtjkiollopajmoabDoor.R
set_option linter.unusedVariables false
open Go.RowKit V

theorem bel_drewN {B : Nat} {a w : World} (h : Below B a w) (n : Nat) : Below B a (w.drewN n) := ⟨h.os, h.tape, h.output, h.size, h.block⟩

theorem encR_ints (R : List Nat) (hs : ∀ r ∈ R, scal r = true) (h0 : 0 ∉ R) : encR (ints R) = (encs R, 0) := by
  unfold encR
  rw [if_pos, nats_ints]
  intro z hz
  simp only [ints, List.mem_map] at hz
  obtain ⟨n, hn, rfl⟩ := hz
  show vld (n : Int) = true
  rw [vld_scal, hs n hn, Bool.true_and, bne_iff_ne]
  rintro rfl
  exact h0 hn
theorem ints_32 (R : List Nat) (hs : ∀ r ∈ R, scal r = true) : ∀ z ∈ ints R, -2147483648 ≤ z ∧ z ≤ 2147483647 := by
  intro z hz
  simp only [ints, List.mem_map] at hz
  obtain ⟨n, hn, rfl⟩ := hz
  have := scal_iff.1 (hs n hn)
  show _ ≤ (n : Int) ∧ (n : Int) ≤ _
  omega
theorem ints_part (R : List Nat) (m n : Nat) : ((ints R).drop m).take n = ints ((R.drop m).take n) := by simp [ints, List.map_drop, List.map_take]

set_option maxRecDepth 100000 in
set_option maxHeartbeats 1000000 in
theorem rcut_any (l : List UInt8) (x y : Int) (w : World) (hl : l.length ≤ 4398046511104) (hx : -9223372036854775808 ≤ x ∧ x ≤ 9223372036854775807) (hy : -9223372036854775808 ≤ y ∧ y ≤ 9223372036854775807) :
    Calls Tryd.prog 24 #[.string ⟨l.toArray⟩, .int .i64 x, .int .i64 y] w fun e w' => e = .returned (.tuple #[.string ⟨(cutR l x y).1.toArray⟩, .int .i64 ((cutR l x y).2 : Int)]) ∧ Below w.heap.size w w' := by
  have HD := Lib.hid (rdecode_any l w hl)
  by_cases he : (decR l).2 = 0
  · obtain ⟨henc, hsc, h0⟩ := decR_ok he
    have hrs : (decR l).1.length ≤ l.length := by
      have := encs_len (decR l).1
      rw [henc] at this
      exact this.1
    have hcut : cutR l x y = if x < 0 ∨ y < x ∨ ((decR l).1.length : Int) < y then ([], 3) else (encs (((decR l).1.drop x.toNat).take (y.toNat - x.toNat)), 0) := by
      unfold cutR; rw [if_neg (by omega)]
    have HCut := Lib.hid hcut
    rw [he] at HD
    generalize (decR l).1 = R at *
    have HSc := Lib.hid hsc
    have H0 := Lib.hid h0
    clear hcut he hsc henc h0
    obtain ⟨hx1, hx2⟩ := hx
    obtain ⟨hy1, hy2⟩ := hy
    generalize (⟨l.toArray⟩ : ByteArray) = S at *
    by_cases hr : x < 0 ∨ y < x ∨ (R.length : Int) < y
    · have HN : Hid (cutR l x y = ([], 3)) := by show _ = _; rw [HCut.out, if_pos hr]
      clear HCut
      by_cases hx0 : x < 0
      · have hb : decide (x < 0) = true := by simpa using hx0
        clear hr
        go_enter Tryd.func24, Tryd.ntmps24
        go_wp2_with (go_at_call 20; refine HD.out.mono ?_; rintro e w' ⟨v, rfl, ho, hb'⟩; have HB := Lib.hid hb'; clear hb' ho)
        go_ret2
        exact ⟨by rw [HN.out]; rfl, HB.out⟩
      · have hb0 : decide (x < 0) = false := by simpa using hx0
        by_cases hyx : y < x
        · have hb1 : decide (y < x) = true := by simpa using hyx
          clear hr
          go_enter Tryd.func24, Tryd.ntmps24
          go_wp2_with (go_at_call 20; refine HD.out.mono ?_; rintro e w' ⟨v, rfl, ho, hb'⟩; have HB := Lib.hid hb'; clear hb' ho)
          go_ret2
          exact ⟨by rw [HN.out]; rfl, HB.out⟩
        · have hb1 : decide (y < x) = false := by simpa using hyx
          have hyl : (R.length : Int) < y := by omega
          have hb2 : decide ((R.length : Int) < y) = true := by simpa using hyl
          clear hr
          go_enter Tryd.func24, Tryd.ntmps24
          go_wp2_with (go_at_call 20; refine HD.out.mono ?_; rintro e w' ⟨v, rfl, ho, hb'⟩; have HB := Lib.hid hb'; obtain ⟨a, c, rfl, -⟩ := ho.row2; rw [ints_length]; clear hb' ho)
          go_ret2
          exact ⟨by rw [HN.out]; rfl, HB.out⟩
    · have HN : Hid (cutR l x y = (encs ((R.drop x.toNat).take (y.toNat - x.toNat)), 0)) := by show _ = _; rw [HCut.out, if_neg hr]
      clear HCut
      obtain ⟨m, rfl⟩ := Int.eq_ofNat_of_zero_le (show 0 ≤ x by omega)
      obtain ⟨n, rfl⟩ := Int.eq_ofNat_of_zero_le (show 0 ≤ y by omega)
      simp only [Int.toNat_natCast] at HN
      have hmn : m ≤ n := by omega
      have hnl : n ≤ R.length := by omega
      have hb1 : decide ((n : Int) < (m : Int)) = false := by simp; omega
      have hb2 : decide ((R.length : Int) < (n : Int)) = false := by simp; omega
      have hb3 : decide ((m : Int) < 0) = false := by simp
      have hpl : ((R.drop m).take (n - m)).length = n - m := by simp; omega
      have HPl := Lib.hid hpl
      have HE := Lib.hid (encR_ints ((R.drop m).take (n - m)) (fun r hr => HSc.out r (List.mem_of_mem_drop (List.mem_of_mem_take hr))) (fun hr => H0.out (List.mem_of_mem_drop (List.mem_of_mem_take hr))))
      clear hr hpl
      go_enter Tryd.func24, Tryd.ntmps24
      go_wp2_with fail
      refine HD.out.mono ?_
      rintro e w1 ⟨v, rfl, ho, hb⟩
      have HB1 := Lib.hid hb
      obtain ⟨a, c, rfl, hrow, -, hcap, -⟩ := ho.row2
      rw [ints_length] at hcap ⊢
      obtain ⟨a', hsl, hpart⟩ := G.slice_int (P := Tryd.prog) Tryd.underlying27 info32 a R.length c m n hmn hnl hcap
      have hrow2 := hpart .i32 w1 _ (ints_length R) hrow
      rw [ints_part] at hrow2
      have hen := fun wx => rencode_any (ints ((R.drop m).take (n - m))) a' (c - m) wx (by rw [ints_length, HPl.out]; omega) (ints_32 _ (fun r hr => HSc.out r (List.mem_of_mem_drop (List.mem_of_mem_take hr))))
      rw [ints_length, HPl.out, HE.out] at hen
      have HEn := Lib.hid (hen w1 hrow2)
      clear hb ho hrow hpart hrow2 hen HD
      go_wp2_with fail
      refine HEn.out.mono ?_
      rintro e w2 ⟨rfl, hb⟩
      have HB2 := Lib.hid (HB1.out.trans (hb.mono HB1.out.size))
      clear hb HEn
      go_wp2_with fail
      go_ret2
      exact ⟨by rw [HN.out]; rfl, HB2.out⟩
  · have HN : Hid (cutR l x y = ([], (decR l).2)) := by show _ = _; unfold cutR; rw [if_pos he]
    rw [(decR_fail he).1] at HD
    have hbn : (((decR l).2 : Int) != 0) = true := by rw [bne_iff_ne]; omega
    have hbn2 : ¬ ((decR l).2 : Int) = 0 := by omega
    generalize (decR l).2 = E at *
    clear he
    go_enter Tryd.func24, Tryd.ntmps24
    go_wp2_with (go_at_call 20; refine HD.out.mono ?_; rintro e w' ⟨v, rfl, ho, hb'⟩; have HB := Lib.hid hb'; clear hb' ho)
    go_ret2
    exact ⟨by rw [HN.out]; rfl, HB.out⟩

set_option maxRecDepth 100000 in
set_option maxHeartbeats 1000000 in
theorem same_any (xs ys : List Int) (a b : Option Addr) (c d : Nat) (w : World) (hlx : xs.length ≤ 4398046511104) (hly : ys.length ≤ 4398046511104) (hx : G.RowI .i32 w a xs) (hy : G.RowI .i32 w b ys) :
    Calls Tryd.prog 23 #[.slice a xs.length c, .slice b ys.length d] w fun e w' => e = .returned (.bool (decide (xs = ys))) ∧ Below w.heap.size w w' := by
  have HX := Lib.hid hx
  have HY := Lib.hid hy
  clear hx hy
  by_cases hl : xs.length = ys.length
  · go_enter Tryd.func23, Tryd.ntmps23
    have q0 : ((xs.length : Int) != (ys.length : Int)) = false := by rw [bne_eq_false_iff_eq]; omega
    go_wp2_with fail
    go_loopw [5] (fun i wr => ∃ k : Nat, k ≤ xs.length ∧ i = .int .i64 k ∧ Hid (Below w.heap.size w wr) ∧ Hid (∀ j (hj : j < xs.length) (hj2 : j < ys.length), j < k → xs[j] = ys[j])) (fun i _ => xs.length - (intOf i).toNat)
    case atStart => exact ⟨0, Nat.zero_le _, rfl, Below.refl _ _, fun j _ _ h => by omega⟩
    case round =>
      obtain ⟨k, hk, rfl, hh, HV⟩ := hrel
      by_cases hlt : k < xs.length
      · rcases HX.out with he | ⟨b1, o1, rfl, hc⟩
        · rw [he] at hlt; simp at hlt
        rcases HY.out with he | ⟨b2, o2, rfl, hd⟩
        · rw [hl, he] at hlt; simp at hlt
        obtain ⟨p, hp⟩ : ∃ p, p = xs[k] := ⟨_, rfl⟩
        obtain ⟨q, hq⟩ : ∃ q, q = ys[k]'(by omega) := ⟨_, rfl⟩
        have hcell0 := hc k hlt
        have hdell0 := hd k (by omega)
        rw [← hp] at hcell0
        rw [← hq] at hdell0
        have hcell : wr.cell? ⟨b1, o1 + k, none⟩ = some (.int .i32 p) := by rw [hh.out.cell (p := ⟨b1, o1 + k, none⟩) (lt_of_cell hcell0)]; exact hcell0
        have hdell : wr.cell? ⟨b2, o2 + k, none⟩ = some (.int .i32 q) := by rw [hh.out.cell (p := ⟨b2, o2 + k, none⟩) (lt_of_cell hdell0)]; exact hdell0
        have HP := Lib.hid hp
        have HQ := Lib.hid hq
        clear hc hd hp hq hcell0 hdell0
        have hlt2 : k < ys.length := by omega
        by_cases hpq : p = q
        · subst hpq
          go_wp2_with fail
          go_quiet (fail)
          go_wp2_with fail
          go_roundw
          case rel =>
            refine ⟨k + 1, by omega, by go_num, bel_drewN hh.out _, fun j hj hj2 hjk => ?_⟩
            by_cases hjk2 : j = k
            · subst hjk2; rw [← HP.out, ← HQ.out]
            · exact HV.out j hj hj2 (by omega)
          case measure => simp [intOf]; omega
        · have hpq' : (p != q) = true := by rw [bne_iff_ne]; exact hpq
          have HN : Hid (decide (xs = ys) = false) := by
            show _ = _
            rw [decide_eq_false_iff_not]
            rintro rfl
            exact hpq (by rw [HP.out, HQ.out])
          clear hpq
          go_wp2_with fail
          go_quiet (fail)
          go_wp2_with fail
          go_ret
          exact ⟨by rw [HN.out]; rfl, bel_drewN hh.out _⟩
      · obtain rfl : k = xs.length := by omega
        have HN : Hid (decide (xs = ys) = true) := by
          show _ = _
          rw [decide_eq_true_eq]
          exact List.ext_getElem hl fun j hj hj2 => HV.out j hj hj2 hj
        have hend : ¬ (xs.length : Int) < (xs.length : Int) := by omega
        go_wp2_with fail
        go_ret
        exact ⟨by rw [HN.out]; rfl, hh.out⟩
  · have q0 : ((xs.length : Int) != (ys.length : Int)) = true := by rw [bne_iff_ne]; omega
    have HN : Hid (decide (xs = ys) = false) := by
      show _ = _
      rw [decide_eq_false_iff_not]
      rintro rfl
      exact hl rfl
    clear hl
    go_enter Tryd.func23, Tryd.ntmps23
    go_wp2_with fail
    go_ret
    exact ⟨by rw [HN.out]; rfl, Below.refl _ _⟩
end Go.Proofs.YtjkiollopajmoabDoor.R
