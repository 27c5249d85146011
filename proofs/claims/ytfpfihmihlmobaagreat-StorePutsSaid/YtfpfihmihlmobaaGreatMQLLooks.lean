/-
  The law StoreLooks.
-/
import Derived.Test.YtfpfihmihlmobaaGreatQKnA

section
namespace Go.Proofs.YtfpfihmihlmobaaGreat.Qs
set_option linter.unusedVariables false
open Go.RowKit V Go.Sort D Nd

theorem ctxP_store {l : List Nt} (h : validS l = true) (b : Bool) : ctxP l (chs b) = (ctxS l b, 0) := by
  unfold ctxP
  rw [if_pos h]
  exact F.made_eq (dots_valid h b)
theorem ctxP_no {l : List Nt} (h : validS l = false) (b : Bool) : ctxP l (chs b) = (([], []), 2) := by
  unfold ctxP
  rw [if_neg (by rw [h]; decide)]
theorem timeP_store {l : List Nt} (h : validS l = true) : timeP l = (timeS l, 0) := by
  unfold timeP
  rw [if_pos h]
theorem timeP_no {l : List Nt} (h : validS l = false) : timeP l = (0, 2) := by
  unfold timeP
  rw [if_neg (by rw [h]; decide)]
theorem lackP_store {l : List Nt} (h : validS l = true) : lackP l = (lackS l, 0) := by
  unfold lackP
  rw [if_pos h]
theorem lackP_no {l : List Nt} (h : validS l = false) : lackP l = ([], 2) := by
  unfold lackP
  rw [if_neg (by rw [h]; decide)]
theorem ctx_len {l : List Nt} (h : validS l = true) (b : Bool) : (ctxS l b).1.length ≤ 64 ∧ (ctxS l b).2.length ≤ l.length := by
  have h1 := F.add_len (c := ([], [])) vc_nil (dots_valid h b)
  have h2 := dots_len l b
  exact ⟨h1.1, Nat.le_trans h1.2 (by simpa using h2)⟩

theorem lack_len_go (p : Nt → Bool) (l : List Nt) (o : List Dt) : (l.foldl (fun o n => if p n = true then ins o n.2.1 else o) o).length ≤ o.length + l.length := by
  induction l generalizing o with
  | nil => simp
  | cons x l ih =>
    rw [List.foldl_cons]
    refine Nat.le_trans (ih _) ?_
    split
    · have := ins_len o x.2.1
      simp only [List.length_cons]; omega
    · simp only [List.length_cons]; omega
theorem lack_len (l : List Nt) : (lackS l).length ≤ l.length := by
  have := lack_len_go (lacksS l) l []
  simpa [lackS] using this
/-- A box with the empty context. -/
def Cz (w : World) (g : Nat) : Prop := w.cell? ⟨g, 0, none⟩ = some (.slice none 0 0) ∧ w.cell? ⟨g, 1, none⟩ = some (.slice none 0 0)
theorem Cz.keep {w w' : World} {g : Nat} (h : Cz w g) (hb : Below w.heap.size w w') : Cz w' g :=
  ⟨(hb.cell (p := ⟨g, 0, none⟩) (lt_of_cell h.1)).trans h.1, (hb.cell (p := ⟨g, 1, none⟩) (lt_of_cell h.2)).trans h.2⟩
theorem Cz.new (w : World) : Cz (w.alloc (.cells #[.slice none 0 0, .slice none 0 0] 51)) w.heap.size := by
  refine ⟨?_, ?_⟩ <;> go_simp

set_option maxRecDepth 100000 in
set_option maxHeartbeats 4000000 in
theorem looks_law (l : List Nt) (a : Option Addr) (c : Nat) (w : World) (hf : ∀ x ∈ l, fitN x) (hi : ∀ x ∈ l, i32 x.2.2.2) (hx : RowN w a l) (hl : l.length ≤ 9223372036854775807) :
    Calls Tryz.prog 6 #[.slice a l.length c] w fun e w' => e = .returned (.bool true) ∧ Below w.heap.size w w' := by
  have HX := Lib.hid hx
  have HF := Lib.hid hf
  clear hx hf
  rcases Nat.lt_or_ge 60 l.length with h60 | h60
  · have hg : decide ((60 : Int) < (l.length : Int)) = true := by simp; omega
    go_enter Tryz.func6, Tryz.ntmps6
    go_wp2_with fail
    refine (known_any _).mono ?_
    rintro e w2 ⟨rfl, hb⟩
    have HB := Lib.hid hb
    clear hb
    go_wp2_with fail
    go_ret
    exact ⟨rfl, HB.out⟩
  · have hg : decide ((60 : Int) < (l.length : Int)) = false := by simp; omega
    have HV := Lib.hid (validS_ref l a c w hi HX.out (by omega))
    go_enter Tryz.func6, Tryz.ntmps6
    go_wp2_with fail
    refine HV.out.mono ?_
    rintro e w2 ⟨rfl, hb⟩
    replace HX := Lib.hid (HX.out.keep hb)
    have HB := Lib.hid hb
    clear hb HV
    rcases hv : validS l with _ | _
    · have HH := Lib.hid hv
      clear hv
      have hbn := bel_box w2 (.cells #[.slice none 0 0, .slice none 0 0] 51)
      replace HX := Lib.hid (HX.out.keep hbn)
      have HZ := Lib.hid (Cz.new w2)
      replace HB := bel_tr HB hbn
      clear hbn
      go_wp2_with fail
      generalize w2.alloc (.cells #[.slice none 0 0, .slice none 0 0] 51) = w3 at *
      generalize w2.heap.size = g at *
      obtain ⟨z0, z1⟩ := HZ.out
      go_wp2_with fail
      clear z0 z1
      refine (seen_true l ([], []) 2 a none none c 0 0 w3 (ctxP_no HH.out false) HX.out (.inl rfl) (.inl rfl) (by omega) (by simp) (by simp)).mono ?_
      rintro e w4 ⟨rfl, hb⟩
      replace HX := Lib.hid (HX.out.keep hb)
      replace HZ := Lib.hid (HZ.out.keep hb)
      replace HB := bel_tr HB hb
      clear hb
      obtain ⟨z0, z1⟩ := HZ.out
      go_wp2_with fail
      clear z0 z1
      refine (dead_true l ([], []) 2 a none none c 0 0 w4 (ctxP_no HH.out true) HX.out (.inl rfl) (.inl rfl) (by omega) (by simp) (by simp)).mono ?_
      rintro e w5 ⟨rfl, hb⟩
      replace HX := Lib.hid (HX.out.keep hb)
      replace HZ := Lib.hid (HZ.out.keep hb)
      replace HB := bel_tr HB hb
      clear hb
      obtain ⟨z0, z1⟩ := HZ.out
      go_wp2_with fail
      clear z0 z1
      refine (timed_true l 0 2 a c w5 (timeP_no HH.out) HX.out (by omega)).mono ?_
      rintro e w6 ⟨rfl, hb⟩
      replace HX := Lib.hid (HX.out.keep hb)
      replace HZ := Lib.hid (HZ.out.keep hb)
      replace HB := bel_tr HB hb
      clear hb
      obtain ⟨z0, z1⟩ := HZ.out
      go_wp2_with fail
      clear z0 z1
      refine (lacks_true l [] 2 a none c 0 w6 (lackP_no HH.out) HF.out HX.out (.inl rfl) (by omega) (by simp)).mono ?_
      rintro e w7 ⟨rfl, hb⟩
      replace HX := Lib.hid (HX.out.keep hb)
      replace HZ := Lib.hid (HZ.out.keep hb)
      replace HB := bel_tr HB hb
      clear hb
      obtain ⟨z0, z1⟩ := HZ.out
      go_wp2_with fail
      clear z0 z1
      refine (known_any _).mono ?_
      rintro e w8 ⟨rfl, hb⟩
      replace HB := bel_tr HB hb
      clear hb
      go_wp2_with fail
      go_ret
      exact ⟨rfl, HB.out⟩
    · have hcl := Lib.hid (ctx_len hv false)
      have hcd := Lib.hid (ctx_len hv true)
      have HH := Lib.hid hv
      have HC0 := Lib.hid (ctx_ref l false a c w2 hv HX.out (by omega))
      clear hv
      go_wp2_with fail
      refine HC0.out.mono ?_
      rintro e w3 ⟨x, y, rfl, hs, hb⟩
      obtain ⟨⟨b1, d1, rfl, hr1, -, -⟩, b2, d2, rfl, hr2, -, -⟩ := hs
      replace HX := Lib.hid (HX.out.keep hb)
      replace HB := bel_tr HB hb
      have HR1 := Lib.hid hr1
      have HR2 := Lib.hid hr2
      clear hb HC0 hr1 hr2
      go_wp2_with fail
      refine (seen_true l (ctxS l false) 0 a b1 b2 c d1 d2 w3 (ctxP_store HH.out false) HX.out HR1.out HR2.out (by omega) (by have := hcl.out; omega) (by have := hcl.out; omega)).mono ?_
      rintro e w4 ⟨rfl, hb⟩
      replace HX := Lib.hid (HX.out.keep hb)
      replace HB := bel_tr HB hb
      clear hb HR1 HR2
      have HC0 := Lib.hid (ctx_ref l true a c w4 HH.out HX.out (by omega))
      go_wp2_with fail
      refine HC0.out.mono ?_
      rintro e w5 ⟨x, y, rfl, hs, hb⟩
      obtain ⟨⟨b1, d1, rfl, hr1, -, -⟩, b2, d2, rfl, hr2, -, -⟩ := hs
      replace HX := Lib.hid (HX.out.keep hb)
      replace HB := bel_tr HB hb
      have HR1 := Lib.hid hr1
      have HR2 := Lib.hid hr2
      clear hb HC0 hr1 hr2
      go_wp2_with fail
      refine (dead_true l (ctxS l true) 0 a b1 b2 c d1 d2 w5 (ctxP_store HH.out true) HX.out HR1.out HR2.out (by omega) (by have := hcd.out; omega) (by have := hcd.out; omega)).mono ?_
      rintro e w6 ⟨rfl, hb⟩
      replace HX := Lib.hid (HX.out.keep hb)
      replace HB := bel_tr HB hb
      clear hb HR1 HR2
      have HC0 := Lib.hid (time_ref l a c w6 HX.out (by omega))
      go_wp2_with fail
      refine HC0.out.mono ?_
      rintro e w7 ⟨rfl, hb⟩
      replace HX := Lib.hid (HX.out.keep hb)
      replace HB := bel_tr HB hb
      clear hb HC0
      have HC0 := Lib.hid (timed_true l (timeS l) 0 a c w7 (timeP_store HH.out) HX.out (by omega))
      go_wp2_with fail
      refine HC0.out.mono ?_
      rintro e w8 ⟨rfl, hb⟩
      replace HX := Lib.hid (HX.out.keep hb)
      replace HB := bel_tr HB hb
      clear hb HC0
      have HC0 := Lib.hid (lack_ref l a c w8 HX.out (by omega))
      go_wp2_with fail
      refine HC0.out.mono ?_
      rintro e w9 ⟨v, rfl, ho, hb⟩
      obtain ⟨b3, d3, rfl, hr3, -, -, -⟩ := ho.row
      replace HX := Lib.hid (HX.out.keep hb)
      replace HB := bel_tr HB hb
      clear hb HC0 ho
      have HC0 := Lib.hid (lacks_true l (lackS l) 0 a b3 c d3 w9 (lackP_store HH.out) HF.out HX.out hr3 (by omega) (by have := lack_len l; omega))
      clear hr3
      go_wp2_with fail
      refine HC0.out.mono ?_
      rintro e w10 ⟨rfl, hb⟩
      replace HB := bel_tr HB hb
      clear hb HC0
      go_wp2_with fail
      refine (known_any _).mono ?_
      rintro e w11 ⟨rfl, hb⟩
      replace HB := bel_tr HB hb
      clear hb
      go_wp2_with fail
      go_ret
      exact ⟨rfl, HB.out⟩
end Go.Proofs.YtfpfihmihlmobaaGreat.Qs
end

/-
  The law StoreKills.
-/
section
namespace Go.Proofs.YtfpfihmihlmobaaGreat.Qs
set_option linter.unusedVariables false
open Go.RowKit V Go.Sort D Nd

theorem kill_le (l : List Nt) (dots : List Dt) : (killS l dots).1.length ≤ l.length := by
  unfold killS
  split <;> simp
set_option maxRecDepth 100000 in
set_option maxHeartbeats 4000000 in
theorem kills_law (l : List Nt) (dots : List Dt) (a b : Option Addr) (c n : Nat) (w : World) (hf : ∀ x ∈ l, fitN x) (hi : ∀ x ∈ l, i32 x.2.2.2) (hd : ∀ x ∈ dots, fitD x) (hx : RowN w a l) (hy : RowD w b dots) (hna : a = none → c = 0) (hnb : b = none → n = 0) (hl : l.length ≤ 9223372036854775807) (hl2 : dots.length ≤ 9223372036854775807) :
    Calls Tryz.prog 5 #[.slice a l.length c, .slice b dots.length n] w fun e w' => e = .returned (.bool true) ∧ Below w.heap.size w w' := by
  have HX := Lib.hid hx
  have HY := Lib.hid hy
  have HF := Lib.hid hf
  have HD := Lib.hid hd
  clear hx hy hf hd
  rcases Nat.lt_or_ge 60 l.length with h60 | h60
  · have hg : decide ((60 : Int) < (l.length : Int)) = true := by simp; omega
    go_enter Tryz.func5, Tryz.ntmps5
    go_wp2_with fail
    refine (known_any _).mono ?_
    rintro e w20 ⟨rfl, hb⟩
    have HB := Lib.hid hb
    clear hb
    go_wp2_with fail
    go_ret
    exact ⟨rfl, HB.out⟩
  have hg : decide ((60 : Int) < (l.length : Int)) = false := by simp; omega
  rcases Nat.lt_or_ge 40 dots.length with h40 | h40
  · have hg2 : decide ((40 : Int) < (dots.length : Int)) = true := by simp; omega
    go_enter Tryz.func5, Tryz.ntmps5
    go_wp2_with fail
    refine (known_any _).mono ?_
    rintro e w20 ⟨rfl, hb⟩
    have HB := Lib.hid hb
    clear hb
    go_wp2_with fail
    go_ret
    exact ⟨rfl, HB.out⟩
  have hg2 : decide ((40 : Int) < (dots.length : Int)) = false := by simp; omega
  have HV := Lib.hid (validS_ref l a c w hi HX.out (by omega))
  rcases hv : validS l with _ | _
  · have HN : killP l dots = ([], 2) := by unfold killP; rw [hv]; rfl
    rw [hv] at HV
    clear hv
    replace HN := Lib.hid HN
    go_enter Tryz.func5, Tryz.ntmps5
    go_wp2_with fail
    refine HV.out.mono ?_
    rintro e w2 ⟨rfl, hb⟩
    replace HX := Lib.hid (HX.out.keep hb)
    replace HY := Lib.hid (HY.out.keep hb)
    have HB := Lib.hid hb
    clear hb HV
    go_wp2_with fail
    refine (kills_true l dots a b c n [] 2 none 0 _ HN.out HF.out HD.out HX.out HY.out hna (by omega) (by omega) (.inl rfl) (by simp)).mono ?_
    rintro e w8 ⟨rfl, hb⟩
    replace HB := bel_tr HB hb
    clear hb
    go_wp2_with fail
    refine (known_any _).mono ?_
    rintro e w20 ⟨rfl, hb⟩
    replace HB := bel_tr HB hb
    clear hb
    go_wp2_with fail
    go_ret
    exact ⟨rfl, HB.out⟩
  have HH := Lib.hid hv
  rw [hv] at HV
  clear hv
  go_enter Tryz.func5, Tryz.ntmps5
  go_wp2_with fail
  refine HV.out.mono ?_
  rintro e w2 ⟨rfl, hb⟩
  replace HX := Lib.hid (HX.out.keep hb)
  replace HY := Lib.hid (HY.out.keep hb)
  have HB := Lib.hid hb
  clear hb HV
  have HC0 := Lib.hid (F.dots_ref dots b n w2 HY.out (by omega))
  rcases ha : dots.all validR with _ | _
  · have HN := Lib.hid (show killP l dots = ([], 2) by unfold killP; rw [HH.out, ha]; rfl)
    rw [ha] at HC0
    clear ha
    go_wp2_with fail
    refine HC0.out.mono ?_
    rintro e w3 ⟨rfl, hb⟩
    replace HX := Lib.hid (HX.out.keep hb)
    replace HY := Lib.hid (HY.out.keep hb)
    replace HB := bel_tr HB hb
    clear hb HC0
    go_wp2_with fail
    refine (kills_true l dots a b c n [] 2 none 0 _ HN.out HF.out HD.out HX.out HY.out hna (by omega) (by omega) (.inl rfl) (by simp)).mono ?_
    rintro e w8 ⟨rfl, hb⟩
    replace HB := bel_tr HB hb
    clear hb
    go_wp2_with fail
    refine (known_any _).mono ?_
    rintro e w20 ⟨rfl, hb⟩
    replace HB := bel_tr HB hb
    clear hb
    go_wp2_with fail
    go_ret
    exact ⟨rfl, HB.out⟩
  have HN := Lib.hid (show killP l dots = ((killS l dots).1, (killS l dots).2) by unfold killP; rw [HH.out, ha]; rfl)
  rw [ha] at HC0
  clear ha
  go_wp2_with fail
  refine HC0.out.mono ?_
  rintro e w3 ⟨rfl, hb⟩
  replace HX := Lib.hid (HX.out.keep hb)
  replace HY := Lib.hid (HY.out.keep hb)
  replace HB := bel_tr HB hb
  clear hb HC0
  go_wp2_with (at_builtin; refine wpList_appN rfl _ _ _ rfl Tryz.underlying22 infoN _ _ rfl (ON.nil w3 w3.heap.size E) a l c l.length rfl rfl HX.out hna (by simp; omega) (Nat.le_refl _) ?_)
  intro v1 w4 ho hg3 _
  have hb : Below w3.heap.size w3 w4 := (Below.refl _ _).grown hg3 (Nat.le_refl _) (fun k hk => by cases hk)
  skip
  obtain ⟨a1, c1, rfl, hr1, hn1, -, -⟩ := ho.row
  replace HX := Lib.hid (HX.out.keep hb)
  replace HY := Lib.hid (HY.out.keep hb)
  replace HB := bel_tr HB hb
  have HR1 := Lib.hid hr1
  have HN1 := Lib.hid hn1
  clear hb ho hg3 hr1 hn1
  go_wp2_with (at_builtin; refine wpList_appD rfl _ _ _ rfl Tryz.underlying43 infoD _ _ rfl (OD.nil w4 w4.heap.size D.E) b dots n rfl HY.out hnb (by simp; omega) (Nat.le_refl _) ?_)
  intro v2 w5 ho hg3 _
  have hb : Below w4.heap.size w4 w5 := (Below.refl _ _).grown hg3 (Nat.le_refl _) (fun k hk => by cases hk)
  skip
  obtain ⟨b1, n1, rfl, hr2, hn2, -, -⟩ := ho.row
  replace HX := Lib.hid (HX.out.keep hb)
  replace HY := Lib.hid (HY.out.keep hb)
  replace HB := bel_tr HB hb
  replace HR1 := Lib.hid (HR1.out.keep hb)
  have HR2 := Lib.hid hr2
  clear hb ho hg3 hr2 hn2
  have HC0 := Lib.hid (kill_ref l dots a b c n w5 HX.out HY.out (by omega) (by omega))
  have HLe := kill_le l dots
  generalize hkk : killS l dots = kk at *
  obtain ⟨y, q⟩ := kk
  simp only at HN HC0 HLe
  clear hkk
  go_wp2_with fail
  refine HC0.out.mono ?_
  rintro e w6 ⟨v, rfl, ho, hb⟩
  obtain ⟨d1, m1, rfl, hr3, -, -, -⟩ := ho.row
  replace HX := Lib.hid (HX.out.keep hb)
  replace HY := Lib.hid (HY.out.keep hb)
  replace HB := bel_tr HB hb
  replace HR1 := Lib.hid (HR1.out.keep hb)
  replace HR2 := Lib.hid (HR2.out.keep hb)
  have HR3 := Lib.hid hr3
  clear hb ho hr3 HC0
  have HC0 := Lib.hid (kills_true l dots a1 b1 c1 n1 y q d1 m1 w6 HN.out HF.out HD.out HR1.out HR2.out (fun e => (HN1.out e).1) (by omega) (by omega) HR3.out (by omega))
  go_wp2_with fail
  refine HC0.out.mono ?_
  rintro e w7 ⟨rfl, hb⟩
  replace HX := Lib.hid (HX.out.keep hb)
  replace HY := Lib.hid (HY.out.keep hb)
  replace HB := bel_tr HB hb
  replace HR1 := Lib.hid (HR1.out.keep hb)
  replace HR2 := Lib.hid (HR2.out.keep hb)
  clear hb HC0 HR3
  have HC0 := Lib.hid (equal_ref l l a1 a c1 c w7 HR1.out HX.out (by omega) (by omega))
  rw [decide_eq_true rfl] at HC0
  go_wp2_with fail
  refine HC0.out.mono ?_
  rintro e w8 ⟨rfl, hb⟩
  replace HX := Lib.hid (HX.out.keep hb)
  replace HY := Lib.hid (HY.out.keep hb)
  replace HB := bel_tr HB hb
  replace HR2 := Lib.hid (HR2.out.keep hb)
  clear hb HC0 HR1
  have HC0 := Lib.hid (D.same_ref dots dots b1 b n1 n w8 HR2.out HY.out (by omega) (by omega))
  rw [decide_eq_true rfl] at HC0
  go_wp2_with fail
  refine HC0.out.mono ?_
  rintro e w9 ⟨rfl, hb⟩
  replace HX := Lib.hid (HX.out.keep hb)
  replace HY := Lib.hid (HY.out.keep hb)
  replace HB := bel_tr HB hb
  clear hb HC0 HR2
  go_wp2_with fail
  refine (known_any _).mono ?_
  rintro e w20 ⟨rfl, hb⟩
  replace HB := bel_tr HB hb
  clear hb
  go_wp2_with fail
  go_ret
  exact ⟨rfl, HB.out⟩
end Go.Proofs.YtfpfihmihlmobaaGreat.Qs
end
