/-
  The text of a check sum, and the check sum with a text.
-/
import Derived.Test.YtgakbncglkegiaaDoorCParse
namespace Go.Proofs.YtgakbncglkegiaaDoor.C
set_option linter.unusedVariables false
open Go.RowKit V

theorem rep48 (c : Nat) : Lib.repeatL [48] c = List.replicate c (48 : UInt8) := by
  induction c with
  | zero => rfl
  | succ c ih => rw [Lib.repeatL, ih, List.replicate_succ]; rfl
set_option maxRecDepth 100000 in
set_option maxHeartbeats 1000000 in
theorem text_any (n : Nat) (hn : n < 4294967296) (w : World) (hL : Ld w) :
    Calls Tryd.prog 17 #[.int .u32 (n : Int)] w fun e w' => e = .returned (.string ⟨(txt n).toArray⟩) ∧ Below w.heap.size w w' := by
  have HF := Lib.hid (fmt16 n (by omega) w hL)
  have hcv : (n : Int) % 18446744073709551616 = (n : Int) := by omega
  have hk8 : (hex n).length ≤ 8 := by unfold hex; rw [List.length_map]; exact digs_len n 8 (by simpa using hn) (by omega)
  have HT : Hid (List.replicate (8 - (hex n).length) 48 ++ hex n = txt n) := digs_txt n hn
  clear hL hn
  generalize hex n = X at *
  generalize txt n = T at *
  obtain ⟨k, hk⟩ : ∃ k, k = X.length := ⟨_, rfl⟩
  have HSz : Hid ((⟨X.toArray⟩ : ByteArray).size = k) := by show _ = _; rw [hk]; simp [ByteArray.size]
  rw [← hk] at hk8 HT
  clear hk
  go_enter Tryd.func17, Tryd.ntmps17
  go_wp2_with fail
  refine HF.out.mono ?_
  rintro e w1 ⟨rfl, hb1⟩
  have HB := Lib.hid hb1
  have hsz := HSz.out
  clear hb1 HF
  go_wp2_with fail
  obtain ⟨c, hc⟩ : ∃ c, c = 8 - k := ⟨_, rfl⟩
  rw [show (8 - (k : Int)) = (c : Int) by omega]
  have HR := Lib.hid (Tryd.strings_Repeat ⟨#[48]⟩ c w1 (by omega) (by show 1 * c ≤ _; omega))
  have hc8 : c ≤ 8 := by omega
  rw [← hc] at HT
  clear hc
  refine HR.out.mono ?_
  rintro e w3 ⟨rfl, hb3⟩
  rw [show Lib.repeatL (⟨#[48]⟩ : ByteArray).data.toList c = List.replicate c 48 from rep48 c]
  have HB3 := Lib.hid (HB.out.trans (hb3.mono HB.out.size))
  have hrl : (List.replicate c (48 : UInt8)).length = c := List.length_replicate
  generalize List.replicate c (48 : UInt8) = Z at *
  clear hb3 HR
  go_wp2_with fail
  go_ret
  refine ⟨G.ret1 ?_, HB3.out⟩
  show Value.string (⟨Z.toArray⟩ ++ ⟨X.toArray⟩) = _
  rw [G.str_app, HT.out]

set_option maxRecDepth 100000 in
set_option maxHeartbeats 1000000 in
theorem parse_yes (n : Nat) (hn : n < 4294967296) (w : World) (hL : Ld w) :
    Calls Tryd.prog 28 #[.string ⟨(txt n).toArray⟩] w fun e w' => e = .returned (.tuple #[.int .u32 (n : Int), .int .i64 0]) ∧ Below w.heap.size w w' := by
  have HN := Lib.hid hn
  have HL := Lib.hid hL
  have HP := Lib.hid (pU_txt n hn)
  have HPa := Lib.hid (parse16 (txt n) w hL (by rw [txt_length]; omega))
  have HTx := Lib.hid (fun (wx : World) h => text_any n hn wx h)
  have hcv : (n : Int) % 4294967296 = (n : Int) := by omega
  have hself : ((⟨(txt n).toArray⟩ : ByteArray).toList == (⟨(txt n).toArray⟩ : ByteArray).toList) = true := by simp
  clear hn hL
  generalize (⟨(txt n).toArray⟩ : ByteArray) = S at *
  generalize txt n = T at *
  go_enter Tryd.func28, Tryd.ntmps28
  go_wp2_with fail
  refine HPa.out.mono ?_
  rintro e w1 ⟨hb, ⟨n', hn', rfl⟩ | ⟨hn', -⟩⟩
  · have hnn : n' = n := by rw [HP.out] at hn'; exact (Option.some.inj hn').symm
    subst hnn
    have HB := Lib.hid hb
    clear hb hn' HPa
    go_wp2_with fail
    refine (HTx.out w1 (HL.out.below HB.out)).mono ?_
    rintro e w2 ⟨rfl, hb2⟩
    have HB2 := Lib.hid (HB.out.trans (hb2.mono HB.out.size))
    clear hb2
    go_wp2_with fail
    go_ret2
    exact ⟨rfl, HB2.out⟩
  · rw [HP.out] at hn'
    cases hn'

set_option maxRecDepth 100000 in
set_option maxHeartbeats 1000000 in
theorem parse_not (s : List UInt8) (h : ∀ n : Nat, n < 4294967296 → s ≠ txt n) (hlen : s.length ≤ 140737488355328) (w : World) (hL : Ld w) :
    Calls Tryd.prog 28 #[.string ⟨s.toArray⟩] w fun e w' => e = .returned (.tuple #[.int .u32 0, .int .i64 6]) ∧ Below w.heap.size w w' := by
  have HH := Lib.hid h
  have HL := Lib.hid hL
  have HPa := Lib.hid (parse16 s w hL hlen)
  have HS : Hid ((⟨s.toArray⟩ : ByteArray).toList = s) := by show _ = _; simp
  clear h hL hlen
  generalize (⟨s.toArray⟩ : ByteArray) = N at *
  go_enter Tryd.func28, Tryd.ntmps28
  go_wp2_with fail
  refine HPa.out.mono ?_
  rintro e w1 ⟨hb, ⟨n, hn, rfl⟩ | ⟨hn, v, k, rfl⟩⟩
  · have hn32 := pU_le hn
    have hcv : (n : Int) % 4294967296 = (n : Int) := by omega
    have HB := Lib.hid hb
    have HTx := Lib.hid (text_any n (by omega) w1 (HL.out.below hb))
    have hne : (((⟨(txt n).toArray⟩ : ByteArray).toList == N.toList)) = false := by
      rw [beq_eq_false_iff_ne, HS.out]
      intro e
      exact HH.out n (by omega) (by rw [← e]; simp)
    clear hb hn HPa HL hn32
    generalize (⟨(txt n).toArray⟩ : ByteArray) = M at *
    go_wp2_with fail
    refine HTx.out.mono ?_
    rintro e w2 ⟨rfl, hb2⟩
    have HB2 := Lib.hid (HB.out.trans (hb2.mono HB.out.size))
    clear hb2
    go_wp2_with fail
    go_ret2
    exact ⟨rfl, HB2.out⟩
  · have HB := Lib.hid hb
    clear hb hn
    go_wp2_with fail
    go_ret2
    exact ⟨rfl, HB.out⟩
end Go.Proofs.YtgakbncglkegiaaDoor.C
