/-
  The laws on sums and texts.
-/
import Derived.Test.YtgakbncglkegiaaDoorCKnown
namespace Go.Proofs.YtgakbncglkegiaaDoor.C
set_option linter.unusedVariables false
open Go.RowKit V

/-- A copy of a row of bytes that came in. -/
theorem copy_ok {l : List UInt8} {n : Nat} (h : l.length ≤ n) (hn : n ≤ 1000) : ([] : List UInt8).length + l.length ≤ 70368744177664 := by simp; omega

set_option maxRecDepth 100000 in
set_option maxHeartbeats 2000000 in
theorem sums_any (s : Nat) (hs : s < 4294967296) (l : List UInt8) (a : Option Addr) (c : Nat) (w : World) (hL : Ld w) (hrow : Row8 w a l) (hnil : a = none → c = 0) (hlen : l.length ≤ 9223372036854775807) :
    Calls Tryd.prog 3 #[.int .u32 (s : Int), .slice a l.length c] w fun e w' => e = .returned (.bool true) ∧ Below w.heap.size w w' := by
  have HL := Lib.hid hL
  have HK := Lib.hid (fun (wx : World) h => known_any wx h)
  have HR := Lib.hid hrow
  have HN := Lib.hid hnil
  have HLn0 := Lib.hid hlen
  clear hL hrow hnil hlen
  by_cases hl : (1000 : Int) < (l.length : Int)
  · clear HR HN HLn0
    go_enter Tryd.func3, Tryd.ntmps3
    go_wp2_with fail
    refine (HK.out _ HL.out).mono ?_
    rintro e w1 ⟨rfl, hb⟩
    have HB := Lib.hid hb
    clear hb
    go_wp2_with fail
    go_ret
    exact ⟨rfl, HB.out⟩
  · have HLn : Hid (l.length ≤ 1000) := by show _ ≤ _; omega
    go_enter Tryd.func3, Tryd.ntmps3
    go_wp2_with (at_builtin; refine wpList_app8 rfl _ _ rfl w.heap.size _ _ rfl (O8.nil w w.heap.size) a l c rfl HR.out HN.out (copy_ok HLn.out (Nat.le_refl _)) (Nat.le_refl _) ?_)
    intro v w1 ho hg _
    have ho' : O8 w1 w.heap.size v l := ho
    have hb : Below w.heap.size w w1 := (Below.refl _ _).grown hg (Nat.le_refl _) (fun k hk => by cases hk)
    obtain ⟨x, y, rfl, hrx, -, -⟩ := ho'.row
    have HX := Lib.hid hrx
    have HB := Lib.hid hb
    have HR1 := Lib.hid (HR.out.keep hb)
    have HL1 := Lib.hid (HL.out.below hb)
    have HS := Lib.hid (sum_any l x y w1 HL1.out HX.out (by have := HLn.out; omega))
    have HSr := Lib.hid (sum_ref l a c w1 HR1.out (by have := HLn.out; omega))
    have HU := Lib.hid (update_any s hs l x y w1 HL1.out HX.out (by have := HLn.out; omega))
    have HUr := Lib.hid (update_ref s hs l a c w1 HR1.out (by have := HLn.out; omega))
    have hc1 := G.conv_row (P := Tryd.prog) HX.out _ rfl y 23 9 5 Tryd.underlying23 Tryd.underlying5 Tryd.underlying9
    have hc2 := G.conv_row (P := Tryd.prog) HR1.out _ rfl c 23 9 5 Tryd.underlying23 Tryd.underlying5 Tryd.underlying9
    have h1 : ((sum l : Int) == (sum l : Int)) = true := by rw [beq_iff_eq]
    have h2 : ((upd s l : Int) == (upd s l : Int)) = true := by rw [beq_iff_eq]
    have h3 : ((⟨l.toArray⟩ : ByteArray).toList == (⟨l.toArray⟩ : ByteArray).toList) = true := by rw [beq_iff_eq]
    clear ho ho' hg hb hrx hs HR HN HLn0
    generalize sum l = z at *
    generalize upd s l = q at *
    generalize (⟨l.toArray⟩ : ByteArray) = S at *
    go_wp2_with fail
    refine HS.out.mono ?_
    rintro e w' ⟨rfl, rfl⟩
    go_wp2_with fail
    refine HSr.out.mono ?_
    rintro e w' ⟨rfl, rfl⟩
    go_wp2_with fail
    refine HU.out.mono ?_
    rintro e w' ⟨rfl, rfl⟩
    go_wp2_with fail
    refine HUr.out.mono ?_
    rintro e w' ⟨rfl, rfl⟩
    go_wp2_with fail
    refine (HK.out _ HL1.out).mono ?_
    rintro e w2 ⟨rfl, hb⟩
    have HB2 := bel_tr HB hb
    clear hb
    go_wp2_with fail
    go_ret
    exact ⟨rfl, HB2.out⟩

set_option maxRecDepth 100000 in
set_option maxHeartbeats 2000000 in
theorem texts_any (n : Nat) (hn : n < 4294967296) (s : List UInt8) (w : World) (hL : Ld w) (hlen : s.length ≤ 9223372036854775807) :
    Calls Tryd.prog 6 #[.int .u32 (n : Int), .string ⟨s.toArray⟩] w fun e w' => e = .returned (.bool true) ∧ Below w.heap.size w w' := by
  have HL := Lib.hid hL
  have HK := Lib.hid (fun (wx : World) h => known_any wx h)
  have hsz : (⟨s.toArray⟩ : ByteArray).size = s.length := by simp [ByteArray.size]
  clear hL hlen
  by_cases hl : (60 : Int) < (s.length : Int)
  · generalize (⟨s.toArray⟩ : ByteArray) = S at *
    clear hn
    go_enter Tryd.func6, Tryd.ntmps6
    go_wp2_with fail
    refine (HK.out _ HL.out).mono ?_
    rintro e w1 ⟨rfl, hb⟩
    have HB := Lib.hid hb
    clear hb
    go_wp2_with fail
    go_ret
    exact ⟨rfl, HB.out⟩
  · have HT := Lib.hid (text_any n hn w HL.out)
    have HTr := Lib.hid (fun wx : World => text_ref n hn wx)
    have HP := Lib.hid (fun wx : World => parse_ref s wx (by omega))
    have HPn := Lib.hid (fun (h : prs s = none) (wx : World) hl => parses_not s (prs_none h) (by omega) wx hl)
    have HPy := Lib.hid (fun (m : Nat) (h : prs s = some m) (wx : World) hl => parses_yes m (prs_back h).1 ⟨s.toArray⟩ (by rw [(prs_back h).2]) wx hl)
    have h1 : ((⟨(txt n).toArray⟩ : ByteArray).toList == (⟨(txt n).toArray⟩ : ByteArray).toList) = true := by rw [beq_iff_eq]
    clear hn
    generalize (⟨(txt n).toArray⟩ : ByteArray) = T at *
    generalize (⟨s.toArray⟩ : ByteArray) = S at *
    go_enter Tryd.func6, Tryd.ntmps6
    go_wp2_with fail
    refine HT.out.mono ?_
    rintro e w1 ⟨rfl, hb⟩
    have HB := Lib.hid hb
    clear hb HT
    go_wp2_with fail
    refine (HTr.out w1).mono ?_
    rintro e w' ⟨rfl, rfl⟩
    go_wp2_with fail
    refine (HP.out w1).mono ?_
    rintro e w' ⟨⟨m, hm, rfl⟩ | ⟨hm, rfl⟩, rfl⟩
    · have HM := Lib.hid hm
      clear hm
      go_wp2_with fail
      refine (HPy.out m HM.out w1 (HL.out.below HB.out)).mono ?_
      rintro e w2 ⟨rfl, hb⟩
      have HB2 := bel_tr HB hb
      clear hb
      go_wp2_with fail
      refine (HK.out _ (HL.out.below HB2.out)).mono ?_
      rintro e w3 ⟨rfl, hb⟩
      have HB3 := bel_tr HB2 hb
      clear hb
      go_wp2_with fail
      go_ret
      exact ⟨rfl, HB3.out⟩
    · have HM := Lib.hid hm
      clear hm
      go_wp2_with fail
      refine (HPn.out HM.out w1 (HL.out.below HB.out)).mono ?_
      rintro e w2 ⟨rfl, hb⟩
      have HB2 := bel_tr HB hb
      clear hb
      go_wp2_with fail
      refine (HK.out _ (HL.out.below HB2.out)).mono ?_
      rintro e w3 ⟨rfl, hb⟩
      have HB3 := bel_tr HB2 hb
      clear hb
      go_wp2_with fail
      go_ret
      exact ⟨rfl, HB3.out⟩
end Go.Proofs.YtgakbncglkegiaaDoor.C
