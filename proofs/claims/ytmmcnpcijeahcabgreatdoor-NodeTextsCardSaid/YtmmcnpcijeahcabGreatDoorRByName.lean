/-
  The rune with a name.
-/
import Derived.Test.YtmmcnpcijeahcabGreatDoorRName
namespace Go.Proofs.YtmmcnpcijeahcabGreatDoor.R
set_option linter.unusedVariables false
open Go.RowKit V

theorem pF_le (mx n : Nat) : ∀ (l : List UInt8) (acc : Nat), acc ≤ mx → pF mx acc l = some n → n ≤ mx
  | [], acc, h, e => by simp [pF] at e; omega
  | c :: t, acc, h, e => by
    rw [pF] at e
    split at e
    · cases e
    · split at e
      · cases e
      · exact pF_le mx n t _ (by omega) e
theorem pU_le {mx n : Nat} {l : List UInt8} (e : pU mx l = some n) : n ≤ mx := by
  unfold pU at e
  split at e
  · cases e
  · exact pF_le mx n l 0 (by omega) e

theorem pre_yes (t : List UInt8) : Lib.hasPrefix ([85, 43] ++ t) [85, 43] = true := by simp [Lib.hasPrefix, List.isPrefixOf]
theorem trim_yes (t : List UInt8) : Lib.trimPrefix ([85, 43] ++ t) [85, 43] = t := by unfold Lib.trimPrefix; rw [if_pos (pre_yes t)]; rfl
theorem pre_parts {s : List UInt8} (h : Lib.hasPrefix s [85, 43] = true) : ∃ t, s = [85, 43] ++ t := by
  have := List.isPrefixOf_iff_prefix.1 h
  obtain ⟨t, ht⟩ := this
  exact ⟨t, ht.symm⟩
theorem cut_yes (N : ByteArray) (t : List UInt8) (hN : N.data.toList = [85, 43] ++ t) (w : World) :
    Calls Tryz.prog 67 #[.string N, .string ⟨#[85, 43]⟩] w fun e w' => e = .returned (.tuple #[.string ⟨t.toArray⟩, .bool true]) ∧ w' = w := by
  have H := Tryz.strings_CutPrefix N ⟨#[85, 43]⟩ w
  rw [hN, show (⟨#[85, 43]⟩ : ByteArray).data.toList = [85, 43] from rfl, pre_yes, trim_yes] at H
  exact H
theorem cut_not (N : ByteArray) (hN : Lib.hasPrefix N.data.toList [85, 43] = false) (w : World) :
    Calls Tryz.prog 67 #[.string N, .string ⟨#[85, 43]⟩] w fun e w' => ∃ x, e = .returned (.tuple #[.string x, .bool false]) ∧ w' = w := by
  have H := Tryz.strings_CutPrefix N ⟨#[85, 43]⟩ w
  rw [show (⟨#[85, 43]⟩ : ByteArray).data.toList = [85, 43] from rfl, hN] at H
  exact H.mono fun e w' ⟨he, hw⟩ => ⟨_, he, hw⟩
theorem nm_form (n : Nat) : ∃ t, nm n = [85, 43] ++ t := ⟨_, List.append_assoc _ _ _⟩

set_option maxRecDepth 100000 in
set_option maxHeartbeats 1000000 in
theorem byname_yes (n : Nat) (h : vld (n : Int) = true) (w : World) (hL : Ld w) :
    Calls Tryz.prog 56 #[.string ⟨(nm n).toArray⟩] w fun e w' => e = .returned (.tuple #[.int .i32 (n : Int), .int .i64 0]) ∧ Below w.heap.size w w' := by
  have hn := vld_iff.1 h
  have hn2 : n ≤ 1114111 := by omega
  obtain ⟨t, ht⟩ := nm_form n
  have hp : pU 2147483647 t = some n := by have := (nm_pU n hn2).2; rw [ht] at this; exact this
  have htl : t.length ≤ 6 := by have := (nm_len n hn2).2; rw [ht, List.length_append] at this; simp at this; omega
  have HC := Lib.hid (cut_yes ⟨(nm n).toArray⟩ t ht w)
  have HP := Lib.hid hp
  have HL := Lib.hid hL
  have HPa := Lib.hid (parse16 t w hL (by omega))
  have HV := Lib.hid h
  have hself : ((⟨(nm n).toArray⟩ : ByteArray).toList == (⟨(nm n).toArray⟩ : ByteArray).toList) = true := by simp
  clear h hn hp ht hL
  generalize hN : (⟨(nm n).toArray⟩ : ByteArray) = N at *
  have HN := Lib.hid hN
  clear hN
  go_enter Tryz.func56, Tryz.ntmps56
  go_wp2_with fail
  refine HC.out.mono ?_
  rintro e w' ⟨rfl, rfl⟩
  go_wp2_with fail
  refine HPa.out.mono ?_
  rintro e w1 ⟨hb, ⟨n', hn', rfl⟩ | ⟨hn', -⟩⟩
  · have hnn : n' = n := by rw [HP.out] at hn'; exact (Option.some.inj hn').symm
    subst hnn
    have HB := Lib.hid hb
    have HNa := name_yes n' HV.out w1 (HL.out.below hb)
    rw [HN.out] at HNa
    have HNb := Lib.hid HNa
    clear hb hn' HNa HPa HC
    go_wp2_with fail
    refine HNb.out.mono ?_
    rintro e w2 ⟨rfl, hb2⟩
    have HB2 := Lib.hid (HB.out.trans (hb2.mono HB.out.size))
    clear hb2
    go_wp2_with fail
    go_ret2
    exact ⟨rfl, HB2.out⟩
  · rw [HP.out] at hn'
    cases hn'

set_option maxRecDepth 100000 in
set_option maxHeartbeats 1000000 in
theorem byname_not (s : List UInt8) (h : ∀ n : Nat, vld (n : Int) = true → s ≠ nm n) (hlen : s.length ≤ 140737488355328) (w : World) (hL : Ld w) :
    Calls Tryz.prog 56 #[.string ⟨s.toArray⟩] w fun e w' => e = .returned (.tuple #[.int .i32 0, .int .i64 6]) ∧ Below w.heap.size w w' := by
  have HH := Lib.hid h
  have HL := Lib.hid hL
  clear h hL
  by_cases hp : Lib.hasPrefix s [85, 43] = true
  · obtain ⟨t, rfl⟩ := pre_parts hp
    have HC := Lib.hid (cut_yes ⟨([85, 43] ++ t).toArray⟩ t rfl w)
    have HPa := Lib.hid (parse16 t w HL.out (by rw [List.length_append] at hlen; omega))
    have HS : Hid ((⟨([85, 43] ++ t).toArray⟩ : ByteArray).toList = [85, 43] ++ t) := by show _ = _; simp
    clear hp hlen
    generalize (⟨([85, 43] ++ t).toArray⟩ : ByteArray) = N at *
    go_enter Tryz.func56, Tryz.ntmps56
    go_wp2_with fail
    refine HC.out.mono ?_
    rintro e w' ⟨rfl, rfl⟩
    go_wp2_with fail
    refine HPa.out.mono ?_
    rintro e w1 ⟨hb, ⟨n, hn, rfl⟩ | ⟨hn, v, k, rfl⟩⟩
    · have hn31 := pU_le hn
      have HB := Lib.hid hb
      have HL1 := Lib.hid (HL.out.below hb)
      clear hb hn HPa HC HL
      by_cases hv : vld (n : Int) = true
      · have HNa := Lib.hid (name_yes n hv w1 HL1.out)
        have hne : (((⟨(nm n).toArray⟩ : ByteArray).toList == N.toList)) = false := by
          rw [beq_eq_false_iff_ne, HS.out]
          intro e
          exact HH.out n hv (by rw [← e]; simp)
        clear hv
        generalize (⟨(nm n).toArray⟩ : ByteArray) = M at *
        go_wp2_with fail
        refine HNa.out.mono ?_
        rintro e w2 ⟨rfl, hb2⟩
        have HB2 := Lib.hid (HB.out.trans (hb2.mono HB.out.size))
        clear hb2
        go_wp2_with fail
        go_ret2
        exact ⟨rfl, HB2.out⟩
      · have HNa := Lib.hid (name_not (n : Int) (by simpa using hv) w1)
        clear hv
        go_wp2_with fail
        refine HNa.out.mono ?_
        rintro e w2 ⟨rfl, rfl⟩
        go_wp2_with fail
        go_ret2
        exact ⟨rfl, HB.out⟩
    · have HB := Lib.hid hb
      clear hb hn
      go_wp2_with fail
      go_ret2
      exact ⟨rfl, HB.out⟩
  · have hp' : Lib.hasPrefix s [85, 43] = false := by simpa using hp
    have HC := Lib.hid (cut_not ⟨s.toArray⟩ hp' w)
    clear hp hp'
    go_enter Tryz.func56, Tryz.ntmps56
    go_wp2_with fail
    refine HC.out.mono ?_
    rintro e w' ⟨x, rfl, rfl⟩
    go_wp2_with fail
    go_ret2
    exact ⟨rfl, Below.refl _ _⟩
end Go.Proofs.YtmmcnpcijeahcabGreatDoor.R
