/-
  The law StoreValid.
-/
import Derived.Test.YtfpfihmihlmobaaGreatMQLLooks
import Derived.Test.YtfpfihmihlmobaaGreatQPX
namespace Go.Proofs.YtfpfihmihlmobaaGreat.Qs
set_option linter.unusedVariables false
open Go.RowKit V Go.Sort D Nd

set_option maxRecDepth 100000 in
theorem neqB (v : Bool) : ∀ w, Sem.run Tryz.prog (binOp .neq 4 (.bool v) (.bool v)) w = .ok (.bool false) w := by
  cases v <;> exact fun w => by kernel_rfl
set_option maxRecDepth 100000 in
set_option maxHeartbeats 8000000 in
theorem valid_law (l m : List Nt) (a b : Option Addr) (c n : Nat) (w : World) (hf : ∀ x ∈ l, fitN x) (hi : ∀ x ∈ l, i32 x.2.2.2) (hx : RowN w a l) (hy : RowN w b m) (hna : a = none → c = 0) (hl : l.length ≤ 9223372036854775807) (hl2 : m.length ≤ 9223372036854775807) :
    Calls Tryz.prog 3 #[.slice a l.length c, .slice b m.length n] w fun e w' => e = .returned (.bool true) ∧ Below w.heap.size w w' := by
  have HX := Lib.hid hx
  have HY := Lib.hid hy
  have HF := Lib.hid hf
  have HI := Lib.hid hi
  clear hx hy hf hi
  rcases Nat.lt_or_ge 60 l.length with h60 | h60
  · have hg : decide ((60 : Int) < (l.length : Int)) = true := by simp; omega
    go_enter Tryz.func3, Tryz.ntmps3
    go_wp2_with fail
    refine (known_any _).mono ?_
    rintro e w902 ⟨rfl, hb⟩
    have HB := Lib.hid hb
    clear hb
    go_wp2_with fail
    go_ret
    exact ⟨rfl, HB.out⟩
  have hg : decide ((60 : Int) < (l.length : Int)) = false := by simp; omega
  rcases Nat.lt_or_ge 60 m.length with h62 | h62
  · have hg2 : decide ((60 : Int) < (m.length : Int)) = true := by simp; omega
    go_enter Tryz.func3, Tryz.ntmps3
    go_wp2_with fail
    refine (known_any _).mono ?_
    rintro e w903 ⟨rfl, hb⟩
    have HB := Lib.hid hb
    clear hb
    go_wp2_with fail
    go_ret
    exact ⟨rfl, HB.out⟩
  have hg2 : decide ((60 : Int) < (m.length : Int)) = false := by simp; omega
  have HV := Lib.hid (fun w h => validS_any l a c w h (by omega))
  have HVr := Lib.hid (fun w h => validS_ref l a c w HI.out h (by omega))
  have HE := Lib.hid (fun w h k => equal_any l m a b c n w h k (by omega) (by omega))
  have HEr := Lib.hid (fun w h k => equal_ref l m a b c n w h k (by omega) (by omega))
  have HS := Lib.hid (fun w h => equal_any l l a a c c w h h (by omega) (by omega))
  rw [decide_eq_true rfl] at HS
  have HOr := Lib.hid (fun w h => of_ref l a c w HI.out h (by omega))
  have HRl := of_len l
  obtain ⟨vv, hvv⟩ : ∃ vv, vv = validS l := ⟨_, rfl⟩
  rw [← hvv] at HV HVr
  obtain ⟨ee, hee⟩ : ∃ ee, ee = decide (l = m) := ⟨_, rfl⟩
  rw [← hee] at HE HEr
  clear hvv hee
  have hnv := neqB vv
  have hne := neqB ee
  go_enter Tryz.func3, Tryz.ntmps3
  go_wp2_with fail
  refine (HV.out _ HX.out).mono ?_
  rintro e w2 ⟨rfl, hb⟩
  replace HX := Lib.hid (HX.out.keep hb)
  replace HY := Lib.hid (HY.out.keep hb)
  have HB := Lib.hid hb
  clear hb HV
  go_wp2_with fail
  refine (HVr.out _ HX.out).mono ?_
  rintro e w3 ⟨rfl, hb⟩
  replace HX := Lib.hid (HX.out.keep hb)
  replace HY := Lib.hid (HY.out.keep hb)
  replace HB := bel_tr HB hb
  clear hb HVr
  go_wp2_with fail
  refine (HE.out _ HX.out HY.out).mono ?_
  rintro e w4 ⟨rfl, hb⟩
  replace HX := Lib.hid (HX.out.keep hb)
  replace HY := Lib.hid (HY.out.keep hb)
  replace HB := bel_tr HB hb
  clear hb HE
  go_wp2_with fail
  refine (HEr.out _ HX.out HY.out).mono ?_
  rintro e w5 ⟨rfl, hb⟩
  replace HX := Lib.hid (HX.out.keep hb)
  replace HY := Lib.hid (HY.out.keep hb)
  replace HB := bel_tr HB hb
  clear hb HEr
  go_wp2_with fail
  refine (HS.out _ HX.out).mono ?_
  rintro e w6 ⟨rfl, hb⟩
  replace HX := Lib.hid (HX.out.keep hb)
  replace HY := Lib.hid (HY.out.keep hb)
  replace HB := bel_tr HB hb
  clear hb HS HY
  go_wp2_with (at_builtin; refine wpList_appN rfl _ _ _ rfl Tryz.underlying22 infoN _ _ rfl (ON.nil _ _ E) a l c l.length rfl rfl HX.out hna (by simp; omega) (Nat.le_refl _) ?_)
  intro v1 w7 ho hg3 _
  have hb := (Below.refl _ _).grown hg3 (Nat.le_refl _) (fun k hk => by cases hk)
  obtain ⟨a1, c1, rfl, hr1, hn1, -, -⟩ := ho.row
  replace HX := Lib.hid (HX.out.keep hb)
  replace HB := bel_tr HB hb
  have HR1 := Lib.hid hr1
  clear hb ho hg3 hr1 hn1
  have HC := Lib.hid (HOr.out w7 HX.out)
  have HP := Lib.hid (fun w h => of_prog l a1 c1 w HF.out h (by omega))
  generalize ofN l = R at *
  obtain ⟨y, q⟩ := R
  simp only at HC HP HRl
  go_wp2_with fail
  refine HC.out.mono ?_
  rintro e w8 ⟨v, rfl, ho, hb⟩
  obtain ⟨a2, c2, rfl, hr2, -, -, -⟩ := ho.row
  replace HX := Lib.hid (HX.out.keep hb)
  replace HR1 := Lib.hid (HR1.out.keep hb)
  replace HB := bel_tr HB hb
  have HR2 := Lib.hid hr2
  clear hb ho hr2 HC HOr
  go_wp2_with fail
  refine (HP.out _ HR1.out).mono ?_
  rintro e w9 ⟨v, rfl, ho, hb⟩
  obtain ⟨a3, c3, rfl, hr3, -, -, hA⟩ := ho.row
  have HA : Hid (∀ x, a3 = some x → x = ⟨x.block, 0, none⟩) := fun x hx => (hA x hx).1
  replace HR2 := Lib.hid (HR2.out.keep hb)
  have HZ := Lib.hid hb
  have HO := Lib.hid ho
  have HR3 := Lib.hid hr3
  clear hb ho hr3 hA HP
  have HC := Lib.hid (gives_true y y q a3 a2 c3 c2 w9 rfl HR3.out HR2.out (by omega))
  go_wp2_with fail
  refine HC.out.mono ?_
  rintro e w10 ⟨rfl, hb⟩
  replace HO := Lib.hid (HO.out.below hb)
  replace HZ := bel_tr HZ hb
  clear hb HC HR2 HR3
  have hly : (y.length : Int) ≤ 60 := by omega
  go_wp2_with fail
  go_loopw [10, 60] (fun _ i wr => ∃ k : Nat, k ≤ y.length ∧ i = .int .i64 (k : Int) ∧ Hid (Below w8.heap.size w8 wr) ∧ ∃ zs : List Nt, Hid (zs.length = y.length) ∧ Hid (ON wr w8.heap.size E (.slice a3 y.length c3) zs)) (fun _ i _ => y.length - (intOf i).toNat)
  case atStart => exact ⟨0, Nat.zero_le _, rfl, HZ, y, rfl, HO⟩
  case round =>
    clear HZ HO
    obtain ⟨k, hk, rfl, HZ, zs, HLz, HO⟩ := hrel
    by_cases hlt : k < y.length
    · have hi0 : (k : Int) < (y.length : Int) := by omega
      obtain ⟨g, rfl⟩ : ∃ g, a3 = some ⟨g, 0, none⟩ := by
        rcases a3 with _ | x
        · obtain ⟨a', c', e, hr, hn, -⟩ := HO.out.row
          simp only [Value.slice.injEq] at e
          have h1 := (hn e.1.symm).2
          have h2 := HLz.out
          subst h1
          simp at h2
          omega
        · exact ⟨x.block, by rw [HA.out x rfl]⟩
      have HLk : Hid (k < zs.length) := by have := HLz.out; show _ < _; omega
      obtain ⟨n0, n1, n2, n3, n4, n5⟩ := HO.out.na k HLk.out
      clear n0 n1 n2 n3 n5
      have f4 := HO.out.free (k * 6 + 4)
      have hix : ∀ w, (Instr.indexAt 22 (.slice (some ⟨g, 0, none⟩) y.length c3) (.int .i64 (k : Int))).run Tryz.prog w = .ok (.pointer (some ⟨g, k * 6, none⟩)) w := by simpa using ixN g 0 y.length c3 k (k : Int) rfl hlt
      have HO2 := Lib.hid (fun z => HO.out.putTime HLk.out z)
      have HG := Lib.hid (HO.out.lt g rfl).1
      have HZ2 := Lib.hid (fun z => HZ.out.setCell (p := ⟨g, k * 6 + 4, none⟩) HG.out z)
      generalize (zs[k]'HLk.out).2.2.1 = tt at n4
      go_wp2_with fail
      go_roundw
      case rel => exact ⟨k + 1, by omega, by go_num, HZ2.out _, _, by show _ = _; simpa using HLz.out, HO2.out _⟩
      case measure => simp [intOf]; omega
    · obtain rfl : k = y.length := by omega
      have hend : ¬ (y.length : Int) < (y.length : Int) := by omega
      replace HB : Hid (Below w.heap.size w wr) := HB.out.trans (HZ.out.mono HB.out.size)
      have HC := Lib.hid (equal_ref l l a1 a c1 c wr (HR1.out.keep HZ.out) (HX.out.keep HZ.out) (by omega) (by omega))
      rw [decide_eq_true rfl] at HC
      clear HZ HO
      go_wp2_with fail
      refine HC.out.mono ?_
      rintro e w11 ⟨rfl, hb⟩
      replace HB := bel_tr HB hb
      clear hb HC
      go_wp2_with fail
      refine (known_any _).mono ?_
      rintro e w901 ⟨rfl, hb⟩
      replace HB := bel_tr HB hb
      clear hb
      go_wp2_with fail
      go_ret
      exact ⟨rfl, HB.out⟩
end Go.Proofs.YtfpfihmihlmobaaGreat.Qs
