/-
  The reference's Encode, Cut and Same.
-/
import Derived.Test.YtjkiollopajmoabDoorRRefC
namespace Go.Proofs.YtjkiollopajmoabDoor.R
set_option linter.unusedVariables false
open Go.RowKit V

set_option maxRecDepth 100000 in
set_option maxHeartbeats 1000000 in
theorem rencode_any (zs : List Int) (a : Option Addr) (c : Nat) (w : World) (hlen : zs.length ≤ 4398046511104) (h32 : ∀ z ∈ zs, -2147483648 ≤ z ∧ z ≤ 2147483647) (h : G.RowI .i32 w a zs) :
    Calls Tryd.prog 22 #[.slice a zs.length c] w fun e w' => e = .returned (.tuple #[.string ⟨(encR zs).1.toArray⟩, .int .i64 ((encR zs).2 : Int)]) ∧ Below w.heap.size w w' := by
  have HR := Lib.hid h
  have H32 := Lib.hid h32
  clear h h32
  go_enter Tryd.func22, Tryd.ntmps22
  go_wp2_with fail
  go_loopw [4, 5] (fun x i wr => ∃ (k : Nat), i = .int .i64 k ∧ k ≤ zs.length ∧ Hid (∀ j (hj : j < zs.length), j < k → vld zs[j] = true) ∧ Hid (O8 wr w.heap.size x (encs (nats (zs.take k)))) ∧ Hid (Below w.heap.size w wr)) (fun _ i _ => zs.length - (intOf i).toNat)
  case atStart => exact ⟨0, rfl, Nat.zero_le _, fun j _ h => by omega, O8.nil _ _, Below.refl _ _⟩
  case round =>
    obtain ⟨k, rfl, hk, HV, HO, HB⟩ := hrel
    by_cases hlt : k < zs.length
    · have hltI : (k : Int) < (zs.length : Int) := by omega
      obtain ⟨z, hz⟩ : ∃ z, z = zs[k] := ⟨_, rfl⟩
      have hz32 := H32.out z (by rw [hz]; exact List.getElem_mem _)
      rcases HR.out with he | ⟨b, o, rfl, hc⟩
      · rw [he] at hlt; simp at hlt
      have hcell0 := hc k hlt
      rw [← hz] at hcell0
      have hcell : wr.cell? ⟨b, o + k, none⟩ = some (.int .i32 z) := by rw [HB.out.cell (p := ⟨b, o + k, none⟩) (lt_of_cell hcell0)]; exact hcell0
      have HZ := Lib.hid hz
      clear hc hz hcell0
      by_cases hv : vld z = true
      · have HC := Lib.hid (fun wx => rvalid_yes z wx hv)
        have HV1 := Lib.hid hv
        have hzv := vld_iff.1 hv
        obtain ⟨n, hn⟩ := Int.eq_ofNat_of_zero_le (show 0 ≤ z by omega)
        subst hn
        have HBy := Lib.hid (fun wx => rbytes_any n (by omega) wx)
        have hel := enc_len n
        have htk : encs (nats (zs.take (k + 1))) = encs (nats (zs.take k)) ++ enc n := by
          rw [List.take_succ_eq_append_getElem hlt, ← HZ.out]
          simp [nats, encs]
        have HTk := Lib.hid htk
        have hl4 : (encs (nats (zs.take k))).length ≤ 4 * 4398046511104 := by
          have h1 := (encs_len (nats (zs.take k))).2
          have h2 : (nats (zs.take k)).length ≤ k := by simp [nats]; omega
          omega
        have HL4 := Lib.hid hl4
        clear hv hzv htk hl4
        go_wp2_with (go_at_call 10; refine (HC.out _).mono ?_; rintro e w' ⟨rfl, rfl⟩)
        refine (HBy.out _).mono ?_
        rintro e w2 ⟨g, c2, rfl, hrow, hb2, hg⟩
        have HRow := Lib.hid hrow
        have HB2 := Lib.hid (HB.out.trans (hb2.mono HB.out.size))
        have HO2 := Lib.hid (HO.out.below hb2)
        clear hrow hb2
        go_wp2_with (at_builtin; refine wpList_app8 rfl (.tmp 18) (.tmp 24) rfl w.heap.size _ _ rfl HO2.out (some ⟨g, 0, none⟩) (enc n) c2 rfl HRow.out (by simp) (by have := HL4.out; omega) HB2.out.size ?_; intro v' w' ho' hg' hgr')
        go_roundw
        case rel =>
          refine ⟨k + 1, by go_num, by omega, fun j hj hjk => ?_, by show O8 _ _ _ _; rw [HTk.out]; exact ho', HB2.out.grown hg' HB2.out.size (fun b hb => (HO2.out.lt b hb).1)⟩
          by_cases hjk2 : j = k
          · subst hjk2; rw [← HZ.out]; exact HV1.out
          · exact HV.out j hj (by omega)
        case measure => simp [intOf]; omega
      · have hv' : vld z = false := by simpa using hv
        have HC := Lib.hid (fun wx => rvalid_not z wx hz32 hv')
        have HN : Hid (encR zs = ([], 13)) := by
          show _ = _
          unfold encR
          rw [if_neg]
          intro hall
          have := hall z (by rw [HZ.out]; exact List.getElem_mem _)
          rw [hv'] at this; cases this
        clear hv hv'
        go_wp2_with (go_at_call 10; refine (HC.out _).mono ?_; rintro e w' ⟨rfl, rfl⟩)
        go_ret2
        exact ⟨by rw [HN.out]; rfl, HB.out⟩
    · obtain rfl : k = zs.length := by omega
      have hall : ∀ z ∈ zs, vld z = true := by
        intro z hz
        obtain ⟨j, hj, rfl⟩ := List.mem_iff_getElem.1 hz
        exact HV.out j hj hj
      have HN : Hid (encR zs = (encs (nats zs), 0)) := by show _ = _; unfold encR; rw [if_pos hall]
      have HO3 : Hid (O8 wr w.heap.size u4 (encs (nats zs))) := by have := HO.out; rw [List.take_length] at this; exact this
      obtain ⟨a2, c2, rfl, hrow, -, -⟩ := HO3.out.row
      have hcv := G.conv_row (P := Tryd.prog) hrow _ rfl c2 29 9 5 Tryd.underlying29 Tryd.underlying5 Tryd.underlying9
      have hend : ¬ (zs.length : Int) < (zs.length : Int) := by omega
      clear hall hrow HO HV
      go_wp2_with fail
      go_ret2
      exact ⟨by rw [HN.out]; rfl, HB.out⟩
end Go.Proofs.YtjkiollopajmoabDoor.R
