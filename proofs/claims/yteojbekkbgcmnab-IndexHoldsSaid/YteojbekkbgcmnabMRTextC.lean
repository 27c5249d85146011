/-
  Encode.
-/
import Derived.Test.YteojbekkbgcmnabMRName
import Derived.Laws.Cover4

section
namespace Go.Proofs.Yteojbekkbgcmnab.R
set_option linter.unusedVariables false
open Go.RowKit V

theorem conv_runes {w : World} {a : Option Addr} {zs : List Int} (h : G.RowI .i32 w a zs) (n : Nat) (hn : n = zs.length) (c : Nat) :
    (convert 30 9 (.slice a n c)).run Try.prog w = .ok (.string (runesBytes zs)) w := by
  subst hn
  rcases a with _ | ad
  · have hz : zs = [] := by
      rcases h with h | ⟨_, _, e, _⟩
      · exact h
      · cases e
    subst hz
    exact run_convert_runes_nil w _ _ _ _ _ Try.underlying30 Try.underlying21 Try.underlying9
  · have := run_convert_runes (P := Try.prog) w 30 9 21 ad zs.length c zs (Nat.le_refl _) Try.underlying30 Try.underlying21 Try.underlying9 (by
      intro j hj
      rcases h with h | ⟨b, o, e, hc⟩
      · rw [h] at hj; simp at hj
      · cases e
        have e2 : (⟨b, o, none⟩ : Addr).add j = ⟨b, o + j, none⟩ := by unfold Addr.add; split <;> simp_all
        rw [e2, hc j hj]
        simp [List.getD, hj])
    rw [List.take_length] at this
    exact this

def nats (zs : List Int) : List Nat := zs.map Int.toNat
theorem nats_ints (rs : List Nat) : nats (ints rs) = rs := by
  induction rs with
  | nil => rfl
  | cons r rs ih => simp only [nats, ints, List.map_cons] at ih ⊢; rw [ih]; rfl
theorem runes_foldl : ∀ (zs : List Int) (s : List UInt8), (∀ z ∈ zs, vld z = true) → zs.foldl (fun r n => r ++ Utf8.encode n) (⟨s.toArray⟩ : ByteArray) = ⟨(s ++ encs (nats zs)).toArray⟩
  | [], s, _ => by simp [nats, encs]
  | z :: zs, s, h => by
    have hz := h z (by simp)
    obtain ⟨n, rfl⟩ := Int.eq_ofNat_of_zero_le (show 0 ≤ z by rw [vld_iff] at hz; omega)
    rw [vld_scal, Bool.and_eq_true] at hz
    rw [List.foldl_cons, utf8_encode hz.1, G.str_app, runes_foldl zs _ (fun x hx => h x (by simp [hx])), List.append_assoc]
    rfl
theorem runes_bytes {zs : List Int} (h : ∀ z ∈ zs, vld z = true) : runesBytes zs = ⟨(encs (nats zs)).toArray⟩ := by
  have := runes_foldl zs [] h
  rw [List.nil_append] at this
  exact this

/-- The bytes of some runes, or the error. -/
def encR (zs : List Int) : List UInt8 × Nat := if ∀ z ∈ zs, vld z = true then (encs (nats zs), 0) else ([], 13)

set_option maxRecDepth 100000 in
set_option maxHeartbeats 1000000 in
theorem encode_any (zs : List Int) (a : Option Addr) (c : Nat) (w : World) (hlen : zs.length ≤ 140737488355328) (h : G.RowI .i32 w a zs) :
    Calls Try.prog 58 #[.slice a zs.length c] w fun e w' => e = .returned (.tuple #[.string ⟨(encR zs).1.toArray⟩, .int .i64 ((encR zs).2 : Int)]) ∧ w = w' := by
  have HR := Lib.hid h
  have hcv := conv_runes h zs.length rfl c
  have HCv := Lib.hid hcv
  clear h hcv
  go_enter Try.func58, Try.ntmps58
  go_wp2_with fail
  go_loop [8] (fun i => ∃ k : Nat, k ≤ zs.length ∧ i = .int .i64 k ∧ Hid (∀ j (hj : j < zs.length), j < k → vld zs[j] = true)) (fun i => zs.length - (intOf i).toNat)
  case atStart => exact ⟨0, Nat.zero_le _, rfl, fun j _ h => by omega⟩
  case round =>
    obtain ⟨k, hk, rfl, HV⟩ := hrel
    by_cases hlt : k < zs.length
    · obtain ⟨z, hz⟩ : ∃ z, z = zs[k] := ⟨_, rfl⟩
      rcases HR.out with he | ⟨b, o, rfl, hc⟩
      · rw [he] at hlt; simp at hlt
      have hcell := hc k hlt
      rw [← hz] at hcell
      have HZ := Lib.hid hz
      clear hc hz
      by_cases hv : vld z = true
      · have HC := Lib.hid (fun wx => valid_yes z wx hv)
        have HV1 := Lib.hid hv
        clear hv
        go_wp2_with (go_at_call 71; refine (HC.out _).mono ?_; rintro e w' ⟨rfl, rfl⟩)
        go_round
        case rel =>
          refine ⟨k + 1, by omega, by go_num, fun j hj hjk => ?_⟩
          by_cases hjk2 : j = k
          · subst hjk2; rw [← HZ.out]; exact HV1.out
          · exact HV.out j hj (by omega)
        case measure => simp [intOf]; omega
      · have hv' : vld z = false := by simpa using hv
        have HC := Lib.hid (fun wx => valid_not z wx hv')
        have HN : Hid (encR zs = ([], 13)) := by
          show _ = _
          unfold encR
          rw [if_neg]
          intro hall
          have := hall z (by rw [HZ.out]; exact List.getElem_mem _)
          rw [hv'] at this; cases this
        clear hv hv'
        go_wp2_with (go_at_call 71; refine (HC.out _).mono ?_; rintro e w' ⟨rfl, rfl⟩)
        go_ret2
        exact ⟨by rw [HN.out]; rfl, rfl⟩
    · obtain rfl : k = zs.length := by omega
      have hall : ∀ z ∈ zs, vld z = true := by
        intro z hz
        obtain ⟨j, hj, rfl⟩ := List.mem_iff_getElem.1 hz
        exact HV.out j hj hj
      have HN : Hid (encR zs = (encs (nats zs), 0)) := by show _ = _; unfold encR; rw [if_pos hall]
      have hcv := HCv.out
      rw [runes_bytes hall] at hcv
      have hend : ¬ (zs.length : Int) < (zs.length : Int) := by omega
      clear hall
      go_wp2_with fail
      go_ret2
      exact ⟨by rw [HN.out]; rfl, rfl⟩
end Go.Proofs.Yteojbekkbgcmnab.R
end

/-
  The reference's Encode, Cut and Same.
-/
section
namespace Go.Proofs.Yteojbekkbgcmnab.R
set_option linter.unusedVariables false
open Go.RowKit V

set_option maxRecDepth 100000 in
set_option maxHeartbeats 1000000 in
theorem rencode_any (zs : List Int) (a : Option Addr) (c : Nat) (w : World) (hlen : zs.length ≤ 4398046511104) (h32 : ∀ z ∈ zs, -2147483648 ≤ z ∧ z ≤ 2147483647) (h : G.RowI .i32 w a zs) :
    Calls Try.prog 39 #[.slice a zs.length c] w fun e w' => e = .returned (.tuple #[.string ⟨(encR zs).1.toArray⟩, .int .i64 ((encR zs).2 : Int)]) ∧ Below w.heap.size w w' := by
  have HR := Lib.hid h
  have H32 := Lib.hid h32
  clear h h32
  go_enter Try.func39, Try.ntmps39
  go_wp2_with fail
  go_loopw [4, 5] (fun x i wr => ∃ (k : Nat), i = .int .i64 k ∧ k ≤ zs.length ∧ Hid (∀ j (hj : j < zs.length), j < k → vld zs[j] = true) ∧ Hid (O8 wr w.heap.size x (encs (nats (zs.take k)))) ∧ Hid (Below w.heap.size w wr)) (fun _ i _ => zs.length - (intOf i).toNat)
  case atStart => exact ⟨0, rfl, Nat.zero_le _, fun j _ h => by omega, O8.nil _ _, Below.refl _ _⟩
  case round =>
    obtain ⟨k, rfl, hk, HV, HO, HB⟩ := hrel
    by_cases hlt : k < zs.length
    · have hltI : (k : Int) < (zs.length : Int) := by omega
      obtain ⟨z, hz⟩ : ∃ z, z = zs[k] := ⟨_, rfl⟩
      have hz32 := H32.out z (by rw [hz]; exact List.getElem_mem _)
      rcases HR.out with he | ⟨b, o, rfl, hc⟩
      · rw [he] at hlt; simp at hlt
      have hcell0 := hc k hlt
      rw [← hz] at hcell0
      have hcell : wr.cell? ⟨b, o + k, none⟩ = some (.int .i32 z) := by rw [HB.out.cell (p := ⟨b, o + k, none⟩) (lt_of_cell hcell0)]; exact hcell0
      have HZ := Lib.hid hz
      clear hc hz hcell0
      by_cases hv : vld z = true
      · have HC := Lib.hid (fun wx => rvalid_yes z wx hv)
        have HV1 := Lib.hid hv
        have hzv := vld_iff.1 hv
        obtain ⟨n, hn⟩ := Int.eq_ofNat_of_zero_le (show 0 ≤ z by omega)
        subst hn
        have HBy := Lib.hid (fun wx => rbytes_any n (by omega) wx)
        have hel := enc_len n
        have htk : encs (nats (zs.take (k + 1))) = encs (nats (zs.take k)) ++ enc n := by
          rw [List.take_succ_eq_append_getElem hlt, ← HZ.out]
          simp [nats, encs]
        have HTk := Lib.hid htk
        have hl4 : (encs (nats (zs.take k))).length ≤ 4 * 4398046511104 := by
          have h1 := (encs_len (nats (zs.take k))).2
          have h2 : (nats (zs.take k)).length ≤ k := by simp [nats]; omega
          omega
        have HL4 := Lib.hid hl4
        clear hv hzv htk hl4
        go_wp2_with (go_at_call 61; refine (HC.out _).mono ?_; rintro e w' ⟨rfl, rfl⟩)
        refine (HBy.out _).mono ?_
        rintro e w2 ⟨g, c2, rfl, hrow, hb2, hg⟩
        have HRow := Lib.hid hrow
        have HB2 := Lib.hid (HB.out.trans (hb2.mono HB.out.size))
        have HO2 := Lib.hid (HO.out.below hb2)
        clear hrow hb2
        go_wp2_with (at_builtin; refine wpList_app8 rfl (.tmp 18) (.tmp 24) rfl w.heap.size _ _ rfl HO2.out (some ⟨g, 0, none⟩) (enc n) c2 rfl HRow.out (by simp) (by have := HL4.out; omega) HB2.out.size ?_; intro v' w' ho' hg' hgr')
        go_roundw
        case rel =>
          refine ⟨k + 1, by go_num, by omega, fun j hj hjk => ?_, by show O8 _ _ _ _; rw [HTk.out]; exact ho', HB2.out.grown hg' HB2.out.size (fun b hb => (HO2.out.lt b hb).1)⟩
          by_cases hjk2 : j = k
          · subst hjk2; rw [← HZ.out]; exact HV1.out
          · exact HV.out j hj (by omega)
        case measure => simp [intOf]; omega
      · have hv' : vld z = false := by simpa using hv
        have HC := Lib.hid (fun wx => rvalid_not z wx hz32 hv')
        have HN : Hid (encR zs = ([], 13)) := by
          show _ = _
          unfold encR
          rw [if_neg]
          intro hall
          have := hall z (by rw [HZ.out]; exact List.getElem_mem _)
          rw [hv'] at this; cases this
        clear hv hv'
        go_wp2_with (go_at_call 61; refine (HC.out _).mono ?_; rintro e w' ⟨rfl, rfl⟩)
        go_ret2
        exact ⟨by rw [HN.out]; rfl, HB.out⟩
    · obtain rfl : k = zs.length := by omega
      have hall : ∀ z ∈ zs, vld z = true := by
        intro z hz
        obtain ⟨j, hj, rfl⟩ := List.mem_iff_getElem.1 hz
        exact HV.out j hj hj
      have HN : Hid (encR zs = (encs (nats zs), 0)) := by show _ = _; unfold encR; rw [if_pos hall]
      have HO3 : Hid (O8 wr w.heap.size u4 (encs (nats zs))) := by have := HO.out; rw [List.take_length] at this; exact this
      obtain ⟨a2, c2, rfl, hrow, -, -⟩ := HO3.out.row
      have hcv := G.conv_row (P := Try.prog) hrow _ rfl c2 87 9 5 Try.underlying87 Try.underlying5 Try.underlying9
      have hend : ¬ (zs.length : Int) < (zs.length : Int) := by omega
      clear hall hrow HO HV
      go_wp2_with fail
      go_ret2
      exact ⟨by rw [HN.out]; rfl, HB.out⟩
end Go.Proofs.Yteojbekkbgcmnab.R
end

/-
  The reference's Cut and Same.
-/
section
namespace Go.Proofs.Yteojbekkbgcmnab.R
set_option linter.unusedVariables false
open Go.RowKit V

theorem bel_drewN {B : Nat} {a w : World} (h : Below B a w) (n : Nat) : Below B a (w.drewN n) := ⟨h.os, h.tape, h.output, h.size, h.block⟩

theorem encR_ints (R : List Nat) (hs : ∀ r ∈ R, scal r = true) (h0 : 0 ∉ R) : encR (ints R) = (encs R, 0) := by
  unfold encR
  rw [if_pos, nats_ints]
  intro z hz
  simp only [ints, List.mem_map] at hz
  obtain ⟨n, hn, rfl⟩ := hz
  show vld (n : Int) = true
  rw [vld_scal, hs n hn, Bool.true_and, bne_iff_ne]
  rintro rfl
  exact h0 hn
theorem ints_32 (R : List Nat) (hs : ∀ r ∈ R, scal r = true) : ∀ z ∈ ints R, -2147483648 ≤ z ∧ z ≤ 2147483647 := by
  intro z hz
  simp only [ints, List.mem_map] at hz
  obtain ⟨n, hn, rfl⟩ := hz
  have := scal_iff.1 (hs n hn)
  show _ ≤ (n : Int) ∧ (n : Int) ≤ _
  omega
theorem ints_part (R : List Nat) (m n : Nat) : ((ints R).drop m).take n = ints ((R.drop m).take n) := by simp [ints, List.map_drop, List.map_take]

set_option maxRecDepth 100000 in
set_option maxHeartbeats 1000000 in
theorem same_any (xs ys : List Int) (a b : Option Addr) (c d : Nat) (w : World) (hlx : xs.length ≤ 4398046511104) (hly : ys.length ≤ 4398046511104) (hx : G.RowI .i32 w a xs) (hy : G.RowI .i32 w b ys) :
    Calls Try.prog 38 #[.slice a xs.length c, .slice b ys.length d] w fun e w' => e = .returned (.bool (decide (xs = ys))) ∧ Below w.heap.size w w' := by
  have HX := Lib.hid hx
  have HY := Lib.hid hy
  clear hx hy
  by_cases hl : xs.length = ys.length
  · go_enter Try.func38, Try.ntmps38
    have q0 : ((xs.length : Int) != (ys.length : Int)) = false := by rw [bne_eq_false_iff_eq]; omega
    go_wp2_with fail
    go_loopw [5] (fun i wr => ∃ k : Nat, k ≤ xs.length ∧ i = .int .i64 k ∧ Hid (Below w.heap.size w wr) ∧ Hid (∀ j (hj : j < xs.length) (hj2 : j < ys.length), j < k → xs[j] = ys[j])) (fun i _ => xs.length - (intOf i).toNat)
    case atStart => exact ⟨0, Nat.zero_le _, rfl, Below.refl _ _, fun j _ _ h => by omega⟩
    case round =>
      obtain ⟨k, hk, rfl, hh, HV⟩ := hrel
      by_cases hlt : k < xs.length
      · rcases HX.out with he | ⟨b1, o1, rfl, hc⟩
        · rw [he] at hlt; simp at hlt
        rcases HY.out with he | ⟨b2, o2, rfl, hd⟩
        · rw [hl, he] at hlt; simp at hlt
        obtain ⟨p, hp⟩ : ∃ p, p = xs[k] := ⟨_, rfl⟩
        obtain ⟨q, hq⟩ : ∃ q, q = ys[k]'(by omega) := ⟨_, rfl⟩
        have hcell0 := hc k hlt
        have hdell0 := hd k (by omega)
        rw [← hp] at hcell0
        rw [← hq] at hdell0
        have hcell : wr.cell? ⟨b1, o1 + k, none⟩ = some (.int .i32 p) := by rw [hh.out.cell (p := ⟨b1, o1 + k, none⟩) (lt_of_cell hcell0)]; exact hcell0
        have hdell : wr.cell? ⟨b2, o2 + k, none⟩ = some (.int .i32 q) := by rw [hh.out.cell (p := ⟨b2, o2 + k, none⟩) (lt_of_cell hdell0)]; exact hdell0
        have HP := Lib.hid hp
        have HQ := Lib.hid hq
        clear hc hd hp hq hcell0 hdell0
        have hlt2 : k < ys.length := by omega
        by_cases hpq : p = q
        · subst hpq
          go_wp2_with fail
          go_quiet (fail)
          go_wp2_with fail
          go_roundw
          case rel =>
            refine ⟨k + 1, by omega, by go_num, bel_drewN hh.out _, fun j hj hj2 hjk => ?_⟩
            by_cases hjk2 : j = k
            · subst hjk2; rw [← HP.out, ← HQ.out]
            · exact HV.out j hj hj2 (by omega)
          case measure => simp [intOf]; omega
        · have hpq' : (p != q) = true := by rw [bne_iff_ne]; exact hpq
          have HN : Hid (decide (xs = ys) = false) := by
            show _ = _
            rw [decide_eq_false_iff_not]
            rintro rfl
            exact hpq (by rw [HP.out, HQ.out])
          clear hpq
          go_wp2_with fail
          go_quiet (fail)
          go_wp2_with fail
          go_ret
          exact ⟨by rw [HN.out]; rfl, bel_drewN hh.out _⟩
      · obtain rfl : k = xs.length := by omega
        have HN : Hid (decide (xs = ys) = true) := by
          show _ = _
          rw [decide_eq_true_eq]
          exact List.ext_getElem hl fun j hj hj2 => HV.out j hj hj2 hj
        have hend : ¬ (xs.length : Int) < (xs.length : Int) := by omega
        go_wp2_with fail
        go_ret
        exact ⟨by rw [HN.out]; rfl, hh.out⟩
  · have q0 : ((xs.length : Int) != (ys.length : Int)) = true := by rw [bne_iff_ne]; omega
    have HN : Hid (decide (xs = ys) = false) := by
      show _ = _
      rw [decide_eq_false_iff_not]
      rintro rfl
      exact hl rfl
    clear hl
    go_enter Try.func38, Try.ntmps38
    go_wp2_with fail
    go_ret
    exact ⟨by rw [HN.out]; rfl, Below.refl _ _⟩
end Go.Proofs.Yteojbekkbgcmnab.R
end
