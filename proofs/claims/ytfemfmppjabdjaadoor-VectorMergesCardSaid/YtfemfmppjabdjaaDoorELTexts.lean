/-
  The fourth law: texts.
-/
import Derived.Test.YtfemfmppjabdjaaDoorEKnown
namespace Go.Proofs.YtfemfmppjabdjaaDoor.E
set_option linter.unusedVariables false
open Go.RowKit V Go.Sort D

theorem prsE_both (s : List UInt8) : (∃ m, prsVB s = (m, true) ∧ prsE s = (m, 0)) ∨ (prsVB s = ([], false) ∧ prsE s = ([], 6)) := by
  unfold prsVB prsE
  cases prsV s with
  | none => exact .inr ⟨rfl, rfl⟩
  | some m => exact .inl ⟨m, rfl, rfl⟩
theorem prsV_len {s : List UInt8} {m : List Dt} (h : prsE s = (m, 0)) : m.length ≤ 64 := by
  unfold prsE at h
  cases hp : prsV s with
  | none => rw [hp] at h; cases h
  | some u =>
    rw [hp] at h
    cases h
    exact vd_len (prsV_back hp).1
set_option maxRecDepth 100000 in
set_option maxHeartbeats 8000000 in
theorem texts_law (v : List Dt) (a : Option Addr) (c : Nat) (s : List UInt8) (w : World) (hL : Ld w) (hx : RowD w a v) (hlx : v.length ≤ 9223372036854775807) (hls : s.length ≤ 9223372036854775807) :
    Calls Tryd.prog 6 #[.slice a v.length c, .string ⟨s.toArray⟩] w fun e w' => e = .returned (.bool true) ∧ Below w.heap.size w w' := by
  have HLd := Lib.hid hL
  have HRa := Lib.hid hx
  have HKn := Lib.hid (fun w hL => known_any w hL)
  have HB : Hid (Below w.heap.size w w) := Below.refl _ _
  have hsz := ba_size s
  clear hL hx
  by_cases h1 : 40 < v.length
  · have hg : (40 : Int) < (v.length : Int) := by omega
    clear h1 hlx
    generalize (⟨s.toArray⟩ : ByteArray) = S at *
    go_enter Tryd.func6, Tryd.ntmps6
    go_wp2_with fail
    refine (HKn.out _ (HLd.out.below HB.out)).mono ?_
    rintro e w2 ⟨rfl, hb⟩
    replace HB := bel_tr HB hb
    clear hb
    go_wp2_with fail
    go_ret
    exact ⟨rfl, HB.out⟩
  have hg : ¬ (40 : Int) < (v.length : Int) := by omega
  by_cases h2 : 300 < s.length
  · have hg2 : (300 : Int) < (s.length : Int) := by omega
    clear h1 hlx h2 hls
    generalize (⟨s.toArray⟩ : ByteArray) = S at *
    go_enter Tryd.func6, Tryd.ntmps6
    go_wp2_with fail
    refine (HKn.out _ (HLd.out.below HB.out)).mono ?_
    rintro e w2 ⟨rfl, hb⟩
    replace HB := bel_tr HB hb
    clear hb
    go_wp2_with fail
    go_ret
    exact ⟨rfl, HB.out⟩
  have hg2 : ¬ (300 : Int) < (s.length : Int) := by omega
  have H1 := Lib.hid (fun w hx => validV_ref v a c w hx (by omega))
  have HPr := Lib.hid (fun w => parse_ref5 s w (by omega))
  have HPs := Lib.hid (fun (u : Value) m q w hL hu hm h => parses_true s u m q w hL (by omega) hu hm h)
  have HTx := Lib.hid (fun s q w hL hx h => texts_true v a c s q w hL hx (by omega) h)
  have HTr := Lib.hid (fun hv w hx => text_ref5 v hv a c w hx)
  have HCase := Lib.hid (prsE_both s)
  have HLm := Lib.hid (fun m (h : prsE s = (m, 0)) => prsV_len h)
  clear h1 h2 hlx hls
  generalize prsVB s = R at *
  generalize prsE s = R2 at *
  generalize (⟨s.toArray⟩ : ByteArray) = S at *
  rcases hv : validV v with _ | _
  · have HE : Hid (txtB v = ([], 2)) := by show _ = _; unfold txtB; rw [hv, if_neg (by simp)]
    rw [hv] at H1
    clear hv HTr
    go_enter Tryd.func6, Tryd.ntmps6
    go_wp2_with fail
    refine (H1.out _ (HRa.out.keep HB.out)).mono ?_
    rintro e w2 ⟨rfl, hl⟩
    replace HB := bel_tr HB hl.bel
    clear hl
    go_wp2_with fail
    refine (HTx.out [] 2 _ (HLd.out.below HB.out) (HRa.out.keep HB.out) HE.out).mono ?_
    rintro e w3 ⟨rfl, hb⟩
    replace HB := bel_tr HB hb
    clear hb
    go_wp2_with fail
    refine (HPr.out _).mono ?_
    rintro e w7 ⟨v7, rfl, hsv, hb⟩
    have HSV := Lib.hid hsv
    replace HB := bel_tr HB hb
    clear hb hsv
    rcases HCase.out with ⟨m, hR, hR2⟩ | ⟨hR, hR2⟩
    · subst hR
      have HR2 := Lib.hid hR2
      have HLm2 := Lib.hid (HLm.out m hR2)
      clear hR2
      obtain ⟨a7, c7, rfl⟩ := HSV.out.len
      go_wp2_with fail
      refine (HPs.out _ m 0 _ (HLd.out.below HB.out) HSV.out (by have := HLm2.out; omega) HR2.out).mono ?_
      rintro e w8 ⟨rfl, hb⟩
      replace HB := bel_tr HB hb
      clear hb
      go_wp2_with fail
      refine (HKn.out _ (HLd.out.below HB.out)).mono ?_
      rintro e w9 ⟨rfl, hb⟩
      replace HB := bel_tr HB hb
      clear hb
      go_wp2_with fail
      go_ret
      exact ⟨rfl, HB.out⟩
    · subst hR
      have HR2 := Lib.hid hR2
      clear hR2
      obtain ⟨a7, c7, rfl⟩ := HSV.out.len
      go_wp2_with fail
      refine (HPs.out (.slice none 0 0) [] 6 _ (HLd.out.below HB.out) (SV.nil _) (by simp) HR2.out).mono ?_
      rintro e w8 ⟨rfl, hb⟩
      replace HB := bel_tr HB hb
      clear hb
      go_wp2_with fail
      refine (HKn.out _ (HLd.out.below HB.out)).mono ?_
      rintro e w9 ⟨rfl, hb⟩
      replace HB := bel_tr HB hb
      clear hb
      go_wp2_with fail
      go_ret
      exact ⟨rfl, HB.out⟩
  · have HE : Hid (txtB v = (txtV v, 0)) := by show _ = _; unfold txtB; rw [hv, if_pos rfl]
    have HTr2 := Lib.hid (HTr.out ((valid_vd v).1 hv))
    rw [hv] at H1
    clear hv HTr
    go_enter Tryd.func6, Tryd.ntmps6
    go_wp2_with fail
    refine (H1.out _ (HRa.out.keep HB.out)).mono ?_
    rintro e w2 ⟨rfl, hl⟩
    replace HB := bel_tr HB hl.bel
    clear hl
    have HTx2 := Lib.hid (fun w hL hx => HTx.out (txtV v) 0 w hL hx HE.out)
    generalize (⟨(txtV v).toArray⟩ : ByteArray) = TS at *
    go_wp2_with fail
    refine (HTr2.out _ (HRa.out.keep HB.out)).mono ?_
    rintro e w3 ⟨rfl, hb⟩
    replace HB := bel_tr HB hb
    clear hb
    go_wp2_with fail
    refine (HTx2.out _ (HLd.out.below HB.out) (HRa.out.keep HB.out)).mono ?_
    rintro e w4 ⟨rfl, hb⟩
    replace HB := bel_tr HB hb
    clear hb
    go_wp2_with fail
    refine (HPr.out _).mono ?_
    rintro e w7 ⟨v7, rfl, hsv, hb⟩
    have HSV := Lib.hid hsv
    replace HB := bel_tr HB hb
    clear hb hsv
    rcases HCase.out with ⟨m, hR, hR2⟩ | ⟨hR, hR2⟩
    · subst hR
      have HR2 := Lib.hid hR2
      have HLm2 := Lib.hid (HLm.out m hR2)
      clear hR2
      obtain ⟨a7, c7, rfl⟩ := HSV.out.len
      go_wp2_with fail
      refine (HPs.out _ m 0 _ (HLd.out.below HB.out) HSV.out (by have := HLm2.out; omega) HR2.out).mono ?_
      rintro e w8 ⟨rfl, hb⟩
      replace HB := bel_tr HB hb
      clear hb
      go_wp2_with fail
      refine (HKn.out _ (HLd.out.below HB.out)).mono ?_
      rintro e w9 ⟨rfl, hb⟩
      replace HB := bel_tr HB hb
      clear hb
      go_wp2_with fail
      go_ret
      exact ⟨rfl, HB.out⟩
    · subst hR
      have HR2 := Lib.hid hR2
      clear hR2
      obtain ⟨a7, c7, rfl⟩ := HSV.out.len
      go_wp2_with fail
      refine (HPs.out (.slice none 0 0) [] 6 _ (HLd.out.below HB.out) (SV.nil _) (by simp) HR2.out).mono ?_
      rintro e w8 ⟨rfl, hb⟩
      replace HB := bel_tr HB hb
      clear hb
      go_wp2_with fail
      refine (HKn.out _ (HLd.out.below HB.out)).mono ?_
      rintro e w9 ⟨rfl, hb⟩
      replace HB := bel_tr HB hb
      clear hb
      go_wp2_with fail
      go_ret
      exact ⟨rfl, HB.out⟩
end Go.Proofs.YtfemfmppjabdjaaDoor.E
