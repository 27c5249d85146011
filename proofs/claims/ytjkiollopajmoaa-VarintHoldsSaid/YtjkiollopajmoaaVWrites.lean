/-
  VarintWrites: every list of parts gives true.
-/
import Derived.Test.YtjkiollopajmoaaVPartsB
import Derived.Test.YtjkiollopajmoaaVLawB
import Derived.Test.YtjkiollopajmoaaVKnown
import Derived.Test.YtjkiollopajmoaaVReads
namespace Go.Proofs.Ytjkiollopajmoaa.V
set_option linter.unusedVariables false
open Go.RowKit

theorem Wr.gb {w w' : World} {base b : Nat} {v : Value} {l : List UInt8} {row : Option Nat} (h : Wr w base b v l) (hg : w.grownBy w' row) (hb : some b ≠ row) (hv : v.ownBlock = none ∨ v.ownBlock ≠ row) : Wr w' base b v l := by
  have hlt := h.lt
  obtain ⟨⟨T, hh⟩, ho, hne⟩ := h
  exact ⟨⟨T, by rw [hg.block b hlt hb, hh]⟩, ho.keep hg hv, hne⟩
/-- A row of the call's own behind a write to a writer. -/
theorem O8.wf {w w' : World} {base b : Nat} {v x : Value} {l : List UInt8} (h : O8 w base x l) (hf : Wf w w' b v) (hb : x.ownBlock ≠ some b) (hv : ∀ k, x.ownBlock = some k → v.ownBlock ≠ some k) : O8 w' base x l := by
  refine ⟨h.1, ?_⟩
  rcases h.2 with hn | ⟨g, cap, cur, rfl, hbg, hgg, rest⟩
  · exact .inl hn
  · refine .inr ⟨g, cap, cur, rfl, hbg, ?_, rest⟩
    rw [hf.block g (Array.getElem?_eq_some_iff.1 hgg).1 (fun e => hb (by rw [e]; rfl)) (fun e => hv g rfl e.symm)]
    exact hgg

/-- Two slices have rows apart. -/
def Apart (u v : Value) : Prop := ∀ g, u.ownBlock = some g → v.ownBlock ≠ some g
theorem Apart.symm {u v : Value} (h : Apart u v) : Apart v u := fun g hv hu => h g hu hv
theorem Apart.grew {w : World} {u v v' : Value} (h : Apart u v) (hg : Grew w v v') (hu : ∀ g, u.ownBlock = some g → g < w.heap.size) : Apart u v' := by
  intro g hug hv
  rcases hg with e | ⟨k, e, hk⟩
  · exact h g hug (e ▸ hv)
  · rw [e] at hv; cases hv; have := hu g hug; omega
theorem apart_lt {u v : Value} {s : Nat} (hu : ∀ g, u.ownBlock = some g → g < s) (hv : ∀ g, v.ownBlock = some g → s ≤ g) : Apart u v := by
  intro g h1 h2
  have := hu g h1
  have := hv g h2
  omega
theorem Apart.none (u : Value) : Apart u (.slice none 0 0) := by intro g _ h; cases h
theorem O8.keepA {w w' : World} {base : Nat} {u v : Value} {l : List UInt8} (h : O8 w base v l) (hg : w.grownBy w' u.ownBlock) (ha : Apart v u) : O8 w' base v l := by
  refine h.keep hg ?_
  rcases hv : v.ownBlock with _ | k
  · exact .inl rfl
  · right; intro e; exact ha k hv e.symm
theorem Wr.keepA {w w' : World} {base b : Nat} {u v : Value} {l : List UInt8} (h : Wr w base b v l) (hg : w.grownBy w' u.ownBlock) (hb : u.ownBlock ≠ some b) (ha : Apart v u) : Wr w' base b v l := by
  refine h.gb hg (fun e => hb e.symm) ?_
  rcases hv : v.ownBlock with _ | k
  · exact .inl rfl
  · right; intro e; exact ha k hv e.symm
theorem O8.wfA {w w' : World} {base b : Nat} {v x : Value} {l : List UInt8} (h : O8 w base x l) (hf : Wf w w' b v) (hb : ∀ g, x.ownBlock = some g → g ≠ b) (hv : Apart x v) : O8 w' base x l :=
  h.wf hf (fun e => hb b e rfl) hv

theorem O8.form {w : World} {base n c : Nat} {a : Option Addr} {l : List UInt8} (h : O8 w base (.slice a n c) l) (hl : l ≠ []) : ∃ g, a = some ⟨g, 0, none⟩ := by
  obtain ⟨a', c', e, _, hnil, hown⟩ := h.row
  injection e with e1 e2 e3
  subst e1
  rcases a with _ | x
  · exact absurd (hnil rfl).2 hl
  · exact ⟨x.block, by rw [(hown x rfl).1]⟩

/-- Block g is a record of four cells. -/
def Bx (w : World) (g : Nat) (a b c d : Value) : Prop := ∃ T, w.heap[g]? = some (.cells #[a, b, c, d] T (0, 0))
theorem Bx.lt {w : World} {g : Nat} {a b c d : Value} (h : Bx w g a b c d) : g < w.heap.size := by
  obtain ⟨T, h⟩ := h
  exact (Array.getElem?_eq_some_iff.1 h).1
theorem Bx.cells {w : World} {g : Nat} {a b c d : Value} (h : Bx w g a b c d) : w.cell? ⟨g, 0, none⟩ = some a ∧ w.cell? ⟨g, 1, none⟩ = some b ∧ w.cell? ⟨g, 2, none⟩ = some c ∧ w.cell? ⟨g, 3, none⟩ = some d := by
  obtain ⟨T, h⟩ := h
  simp [World.cell?, h]
theorem Bx.new (w : World) (a b c d : Value) (T : TypeId) : Bx (w.alloc (.cells #[a, b, c, d] T)) w.heap.size a b c d := by
  refine ⟨T, ?_⟩
  show (w.heap.push _)[w.heap.size]? = _
  simp
theorem Bx.gb {w w' : World} {g : Nat} {a b c d : Value} {row : Option Nat} (h : Bx w g a b c d) (hg : w.grownBy w' row) (hne : some g ≠ row) : Bx w' g a b c d := by
  have hl := h.lt
  obtain ⟨T, h⟩ := h
  exact ⟨T, by rw [hg.block g hl hne, h]⟩
theorem Bx.wf {w w' : World} {g bw : Nat} {v : Value} {a b c d : Value} (h : Bx w g a b c d) (hf : Wf w w' bw v) (h1 : g ≠ bw) (h2 : some g ≠ v.ownBlock) : Bx w' g a b c d := by
  have hl := h.lt
  obtain ⟨T, h⟩ := h
  exact ⟨T, by rw [hf.block g hl h1 h2, h]⟩

set_option maxRecDepth 100000 in
set_option maxHeartbeats 8000000 in
theorem writes_walk (a0 : Option Addr) (len0 cap0 : Nat) (q : Nat → PartV) (w : World) (h0 : IsParts w a0 len0 q) :
    Calls Try.prog 4 #[.slice a0 len0 cap0] w fun e w' => e = .returned (.bool true) ∧ Below w.heap.size w w' := by
  have HS := Lib.hid (small_any w a0 len0 cap0 q h0)
  obtain ⟨hm0, hfit, hq⟩ := h0
  have HQ := Lib.hid hq
  have HF := Lib.hid hfit
  clear hq hfit
  go_enter Try.func4, Try.ntmps4
  go_wp2_with fail
  go_fit HS.out
  rintro e w' ⟨bb, rfl, hbb, rfl⟩
  rcases bb with _ | _
  · go_wp2_with (go_at_call 20; refine (known_any _).mono ?_; rintro e w' ⟨rfl, hb⟩)
    go_ret
    exact ⟨rfl, hb⟩
  obtain ⟨h40, hd⟩ := hbb rfl
  have HD := Lib.hid hd
  have hcl := cat_le q len0 HF.out hd
  have HCl := Lib.hid hcl
  have hW0 := wr_new w w.heap.size 40 (Nat.le_refl _)
  have hB0 : Below w.heap.size w (w.alloc (.cells #[.slice none 0 0] 40)) := (Below.refl _ _).alloc (Nat.le_refl _) _
  have HW0 := Lib.hid hW0
  have HB0 := Lib.hid hB0
  clear hbb hd hcl hW0 hB0 HS
  go_wp2_with fail
  go_loopw [4, 17] (fun x i wr => ∃ (k : Nat) (v : Value), k ≤ len0 ∧ i = .int .i64 k ∧ O8 wr (w.heap.size + 1) x (cat q k) ∧ Wr wr w.heap.size w.heap.size v (cat q k) ∧ (∀ g, x.ownBlock = some g → v.ownBlock ≠ some g) ∧ Below w.heap.size w wr) (fun _ i _ => len0 - (intOf i).toNat)
  case atStart => exact ⟨0, _, by omega, rfl, O8.nil _ _, HW0.out, (by intro g hg; cases hg), HB0.out⟩
  case round =>
    obtain ⟨k, v, hk, rfl, ho, hw, hxv, hB⟩ := hrel
    obtain ⟨a4, c4, rfl, hrow4, hnil4, -⟩ := ho.row
    have HO := Lib.hid ho
    have HW := Lib.hid hw
    have HXV := Lib.hid hxv
    have HB := Lib.hid hB
    have hwlt := hw.lt
    have hclk : (cat q k).length ≤ 12400 := by have := HCl.out k hk; omega
    have HClk := Lib.hid hclk
    clear ho hw hxv hB hrow4 hnil4 hclk
    by_cases hlt : k < len0
    · obtain ⟨b, o, rfl, hc⟩ := HQ.out.resolve_left (by omega)
      obtain ⟨c0, c1, c2, c3, hrow⟩ := hc k hlt
      obtain ⟨hn64, hs64, hdn, hdc, hdl⟩ := HF.out k hlt
      have hd300 := HD.out k hlt
      have hcat : cat q (k + 1) = cat q k ++ pb (q k).what (q k).n (q k).s (q k).d := rfl
      have hclk2 : (cat q (k + 1)).length ≤ 12400 := by have := HCl.out (k + 1) (by omega); omega
      rw [hcat] at hclk2
      generalize (q k).what = what at *
      generalize (q k).n = n at *
      generalize (q k).s = s at *
      generalize (q k).a = ad at *
      generalize (q k).d = d at *
      generalize (q k).c = cd at *
      rw [← HB.out.cell (p := ⟨b, _, none⟩) (lt_of_cell c0)] at c0
      rw [← HB.out.cell (p := ⟨b, _, none⟩) (lt_of_cell c1)] at c1
      rw [← HB.out.cell (p := ⟨b, _, none⟩) (lt_of_cell c2)] at c2
      rw [← HB.out.cell (p := ⟨b, _, none⟩) (lt_of_cell c3)] at c3
      have HRow := Lib.hid hrow
      have HCat := Lib.hid hcat
      have HCl2 := Lib.hid hclk2
      have HDn := Lib.hid hdn
      have HHs := Lib.hid hs64
      clear hc hrow hcat hclk2 hdn hs64
      go_upto_region 8 with fail
      have hba : Below wr.heap.size wr (wr.alloc (.cells #[.int .i64 what, .int .u64 (n : Int), .int .i64 s, .slice ad d.length cd] 42)) := (Below.refl _ _).alloc (Nat.le_refl _) _
      have hbx := Bx.new wr (.int .i64 what) (.int .u64 (n : Int)) (.int .i64 s) (.slice ad d.length cd) 42
      have hsz : (wr.alloc (.cells #[.int .i64 what, .int .u64 (n : Int), .int .i64 s, .slice ad d.length cd] 42)).heap.size = wr.heap.size + 1 := by simp
      generalize wr.alloc (.cells #[.int .i64 what, .int .u64 (n : Int), .int .i64 s, .slice ad d.length cd] 42) = wa at *
      have HWa := Lib.hid (HW.out.keep hba)
      have HOa := Lib.hid (HO.out.below hba)
      have HBa := Lib.hid (HB.out.trans (hba.mono HB.out.size))
      have hgw : w.heap.size < wr.heap.size := hwlt
      have HVlt := Lib.hid (fun g hg => (HW.out.2.1.lt g hg).2)
      have HXlt := Lib.hid (fun g hg => (HO.out.lt g hg).2)
      have HXge := Lib.hid (fun g hg => (HO.out.lt g hg).1)
      have HRa := Lib.hid (HRow.out.keep HBa.out)
      have HBx := Lib.hid hbx
      obtain ⟨e0, e1, e2, e3⟩ := hbx.cells
      generalize wr.heap.size = gx at *
      clear hba hbx HW HO HB c0 c1 c2 c3
      go_upto_region 9 with (at_builtin; refine wpList_app8 rfl (.const (.slice none 0 0)) (.tmp 22) rfl wa.heap.size _ [] rfl (O8.nil _ _) ad d cd rfl HRa.out HDn.out (by simp only [List.length_nil]; omega) (Nat.le_refl _) ?_; intro v7 w7 ho7 hg7 _; simp only [List.nil_append] at ho7)
      clear e0 e1 e2 e3
      replace hg7 : wa.grownBy w7 (Value.slice none 0 0).ownBlock := hg7
      have HO7 := Lib.hid (HOa.out.keepA hg7 (Apart.none _))
      have HW7 := Lib.hid (HWa.out.keepA hg7 (by simp [Value.ownBlock]) (Apart.none _))
      have HB7 := Lib.hid (HBa.out.grown hg7 (by omega) (by intro k hk; cases hk))
      have HBx7 := Lib.hid (HBx.out.gb hg7 (by simp [Value.ownBlock]))
      obtain ⟨e0, e1, e2, e3⟩ := HBx7.out.cells
      obtain ⟨a7, c7, rfl, hrow7, hnil7, hown7⟩ := ho7.row
      have HP7 := Lib.hid ho7
      have hs7 : wa.heap.size ≤ w7.heap.size := hg7.size
      have HG7 := Lib.hid ho7.lt
      have HC := Lib.hid (write_any w7 w.heap.size w.heap.size v (cat q k) what n s (.slice ad d.length cd) a7 d c7 HW7.out hn64 HHs.out hrow7 (fun h => (hnil7 h).1)
        (fun b' o' e hne => by have := hown7 _ e; have h3 := this.2.2.1; exact ⟨by simp at h3; omega, fun e2 => by have := HVlt.out b' e2.symm; simp at h3; omega⟩) (by have := HClk.out; omega) (by omega))
      clear ho7 hg7 hrow7 hnil7 HOa HWa HBa HBx HRa
      go_upto_region 10 with (go_at_call 22; go_fit HC.out; rintro e w8 ⟨rfl, v8, hw8, hf8, hg8⟩)
      have HG8 := Lib.hid hg8
      have hxb : ∀ g, (Value.slice a4 (cat q k).length c4).ownBlock = some g → g ≠ w.heap.size := fun g hg => by have := HXge.out g hg; omega
      have HO8 := Lib.hid (HO7.out.wfA hf8 hxb HXV.out)
      have hvp : Apart (Value.slice a7 d.length c7) v := (apart_lt (s := wa.heap.size) (fun g hg => by have := HVlt.out g hg; omega) (fun g hg => (HG7.out g hg).1)).symm
      have hpb : ∀ g, (Value.slice a7 d.length c7).ownBlock = some g → g ≠ w.heap.size := fun g hg => by have := (HG7.out g hg).1; omega
      have HP8 := Lib.hid (HP7.out.wfA hf8 hpb hvp)
      have HBx8 := Lib.hid (HBx7.out.wf hf8 (by omega) (fun e => by have := HVlt.out gx e.symm; omega))
      have HB8 := Lib.hid (hf8.below HB7.out (by omega) (Nat.le_refl _) (fun g hg => (HW7.out.2.1.lt g hg).1))
      have HXV8 := Lib.hid ((show Apart (Value.slice a4 (cat q k).length c4) v from HXV.out).grew hg8 (fun g hg => by have := HXlt.out g hg; omega))
      have HPV8 := Lib.hid (hvp.grew hg8 (fun g hg => (HG7.out g hg).2))
      have HW8 := Lib.hid hw8
      have hs8 : w7.heap.size ≤ w8.heap.size := hf8.size
      have hV8 := hw8.2.1.lt
      have HV8 := Lib.hid hV8
      have HC2 := Lib.hid (bytes_of w8 what n s ad d cd hn64 HHs.out (HRow.out.keep HB8.out) HDn.out (by omega))
      have HPB := Lib.hid hpb
      obtain ⟨e0, e1, e2, e3⟩ := HBx8.out.cells
      clear hw8 hf8 hg8 hxb hvp hpb HO7 HW7 HB7 HBx7 HC HP7 hV8 hown7 HXV HG8 HRow
      go_upto_region 11 with (first | (go_at_call 23; go_fit HC2.out; rintro e w9 ⟨a9, c9, rfl, hrow9, hnil9, hb9⟩; have HR9 := Lib.hid hrow9; have HN9 := Lib.hid hnil9; have HB9 := Lib.hid hb9; have hs9 := hb9.size; clear hrow9 hnil9 hb9) | (at_builtin; refine wpList_app8 rfl (.tmp 27) (.tmp 29) rfl (w.heap.size + 1) _ _ rfl (HO8.out.below HB9.out) a9 _ c9 rfl HR9.out HN9.out (by have := HCl2.out; rw [List.length_append] at this; omega) (by omega) ?_; intro v10 w10 ho10 hg10 hgr10))
      replace hg10 : w9.grownBy w10 (Value.slice a4 (cat q k).length c4).ownBlock := hg10
      replace hgr10 : Grew w9 (Value.slice a4 (cat q k).length c4) v10 := hgr10
      generalize cat q k ++ pb what n s d = M at *
      have hpx : Apart (Value.slice a7 d.length c7) (Value.slice a4 (cat q k).length c4) := (apart_lt (s := gx) HXlt.out (fun g hg => by have := (HG7.out g hg).1; omega)).symm
      have HW10 := Lib.hid ((HW8.out.keep HB9.out).keepA hg10 (fun e => by have := HXge.out _ e; omega) HXV8.out.symm)
      have HP10 := Lib.hid ((HP8.out.below HB9.out).keepA hg10 hpx)
      have HXV10 := Lib.hid (HXV8.out.symm.grew hgr10 (fun g hg => by have := (HV8.out g hg).2; omega))
      have HPX10 := Lib.hid (hpx.grew hgr10 (fun g hg => by have := (HG7.out g hg).2; omega))
      have HB10 := Lib.hid ((HB8.out.trans (HB9.out.mono (by omega))).grown hg10 (by omega) (fun g hg => by have := HXge.out g hg; omega))
      have hs10 := hg10.size
      obtain ⟨a10, c10, rfl, -, -, -⟩ := ho10.row
      have HX10 := Lib.hid ho10
      clear e0 e1 e2 e3 ho10 hg10 hgr10 hpx HW8 HP8 HB8 HB9 HXV8 HBx8 HO8 HR9 HN9 HC2 HXlt HXge
      go_wp2_with fail
      obtain ⟨wo, rfl⟩ : ∃ wo : World, wo = wr := ⟨_, rfl⟩
      go_loopw [33] (fun i wy => ∃ (j : Nat) (l' : List UInt8), j ≤ d.length ∧ i = .int .i64 j ∧ l'.length = d.length ∧ O8 wy wa.heap.size (.slice a7 d.length c7) l' ∧ w10.grownBy wy (Value.slice a7 d.length c7).ownBlock) (fun i _ => d.length - (intOf i).toNat)
      case atStart => exact ⟨0, d, by omega, rfl, rfl, HP10.out, gb_refl _ _⟩
      case round =>
        obtain ⟨j, l', hj, rfl, hl', ho, hG⟩ := hrel
        have HOi := Lib.hid ho
        have HGi := Lib.hid hG
        have HLi := Lib.hid hl'
        clear ho hG
        by_cases hjlt : j < d.length
        · have hjlt' : j < l'.length := by omega
          obtain ⟨g, rfl⟩ := HOi.out.form (by intro e; subst e; simp at hjlt')
          obtain ⟨m, hm, hm2⟩ : ∃ m : Nat, m = l'[j].toNat ∧ m < 256 := ⟨_, rfl, by have := l'[j].toNat_lt; omega⟩
          have hcell : wr.cell? ⟨g, j, none⟩ = some (.int .u8 (m : Int)) := by
            have ho := HOi.out
            unfold O8 at ho
            rw [hl'] at ho
            rw [World.ownsRow.cellAt ho j (by omega), hm]
            simp [cells8, hjlt']
          have hfree : wr.frozen? ⟨g, j, none⟩ = false := by
            have ho := HOi.out
            unfold O8 at ho
            rw [hl'] at ho
            exact World.ownsRow.frozenAt ho _
          clear hm hl'
          go_wp2_with fail
          go_roundw
          case rel =>
            obtain ⟨⟨l2, h1, h2⟩, h3⟩ := HOi.out.bump HLi.out j m
            exact ⟨j + 1, l2, by omega, by go_num, h1, h2, gb_trans HGi.out h3⟩
          case measure => simp [intOf]; omega
        · obtain rfl : j = d.length := by omega
          have hend : ¬ (d.length : Int) < (d.length : Int) := by omega
          clear hl' HLi HOi
          have HW11 := Lib.hid (HW10.out.keepA HGi.out (fun e => by have := (HG7.out _ e).1; omega) HPV8.out.symm)
          have HX11 := Lib.hid (HX10.out.keepA HGi.out HPX10.out.symm)
          have HB11 := Lib.hid (HB10.out.grown HGi.out (by omega) (fun g hg => by have := (HG7.out g hg).1; omega))
          have hs11 := HGi.out.size
          have HC3 := Lib.hid (wbytes_any wr w.heap.size w.heap.size v8 M HW11.out (by have := HCl2.out; omega))
          clear HW10 HX10 HB10 HP10 HGi
          go_upto_region 17 with (go_at_call 24; go_fit HC3.out; rintro e w12 ⟨v12, rfl, ho12, hb12⟩; obtain ⟨a12, c12, rfl, hrow12, -, -⟩ := ho12.row)
          have HW12 := Lib.hid (HW11.out.keep hb12)
          have HX12 := Lib.hid (HX11.out.below hb12)
          have HB12 := Lib.hid (HB11.out.trans (hb12.mono HB11.out.size))
          have HV12 := Lib.hid (fun g hg => (HW11.out.2.1.lt g hg).2)
          have HY12 := Lib.hid (fun g hg => (HX11.out.lt g hg).2)
          obtain ⟨a10', c10', e10, hrow10, -, -⟩ := HX12.out.row
          injection e10 with e1 _ e3
          subst e1 e3
          have hcv1 := conv_row (P := Try.prog) hrow12 c12 23 9 5 Try.underlying23 Try.underlying5 Try.underlying9
          have hcv2 := conv_row (P := Try.prog) hrow10 c10 23 9 5 Try.underlying23 Try.underlying5 Try.underlying9
          have HP12 := Lib.hid ho12
          have hs12 := hb12.size
          have HC4 := Lib.hid (wlen_any w12 w.heap.size w.heap.size v8 M HW12.out)
          have hwr2 : w.heap.size < wr.heap.size := HW11.out.lt
          clear HW11 HX11 HB11 hrow12 hrow10 ho12 hb12 HC3
          go_wp2_with (go_at_call 25; go_fit HC4.out; rintro e w13 ⟨rfl, rfl⟩)
          clear hcv1 hcv2 HC4
          have hM12 : M.length ≤ 12400 := HCl2.out
          generalize wr.heap.size = sb at *
          obtain ⟨wp, rfl⟩ : ∃ wp : World, wp = wr := ⟨_, rfl⟩
          go_loopw [57] (fun i wy => ∃ (j : Nat) (l' : List UInt8), j ≤ M.length ∧ i = .int .i64 j ∧ l'.length = M.length ∧ O8 wy sb (.slice a12 M.length c12) l' ∧ w12.grownBy wy (Value.slice a12 M.length c12).ownBlock) (fun i _ => M.length - (intOf i).toNat)
          case atStart => exact ⟨0, M, by omega, rfl, rfl, HP12.out, gb_refl _ _⟩
          case round =>
            obtain ⟨j, l', hj, rfl, hl', ho, hG⟩ := hrel
            have HOi := Lib.hid ho
            have HGi := Lib.hid hG
            have HLi := Lib.hid hl'
            clear ho hG
            by_cases hjlt : j < M.length
            · have hjlt' : j < l'.length := by omega
              obtain ⟨g, rfl⟩ := HOi.out.form (by intro e; subst e; simp at hjlt')
              obtain ⟨m, hm, hm2⟩ : ∃ m : Nat, m = l'[j].toNat ∧ m < 256 := ⟨_, rfl, by have := l'[j].toNat_lt; omega⟩
              have hcell : wr.cell? ⟨g, j, none⟩ = some (.int .u8 (m : Int)) := by
                have ho := HOi.out
                unfold O8 at ho
                rw [hl'] at ho
                rw [World.ownsRow.cellAt ho j (by omega), hm]
                simp [cells8, hjlt']
              have hfree : wr.frozen? ⟨g, j, none⟩ = false := by
                have ho := HOi.out
                unfold O8 at ho
                rw [hl'] at ho
                exact World.ownsRow.frozenAt ho _
              clear hm hl'
              go_wp2_with fail
              go_roundw
              case rel =>
                obtain ⟨⟨l2, h1, h2⟩, h3⟩ := HOi.out.bump HLi.out j m
                exact ⟨j + 1, l2, by omega, by go_num, h1, h2, gb_trans HGi.out h3⟩
              case measure => simp [intOf]; omega
            · obtain rfl : j = M.length := by omega
              have hend2 : ¬ (M.length : Int) < (M.length : Int) := by omega
              have hlow := fun g hg => (HOi.out.lt g hg).1
              have HW13 := Lib.hid (HW12.out.keepA HGi.out (fun e => by have := hlow _ e; omega) (apart_lt HV12.out hlow))
              have HX13 := Lib.hid (HX12.out.keepA HGi.out (apart_lt HY12.out hlow))
              have HB13 := Lib.hid (HB12.out.grown HGi.out (by have := HB12.out.size; omega) (fun g hg => by have := hlow g hg; omega))
              clear hl' HLi HOi hlow HW12 HX12 HB12
              go_wp2_with fail
              go_roundw
              case rel =>
                exact ⟨k + 1, v8, by omega, by go_num, by rw [HCat.out]; exact HX13.out, by rw [HCat.out]; exact HW13.out, HXV10.out.symm, HB13.out⟩
              case measure => simp [intOf]; omega
    · obtain rfl : k = len0 := by omega
      have hend : ¬ (k : Int) < (k : Int) := by omega
      clear HO HW HXV HQ
      go_wp2_with (go_at_call 20; refine (known_any _).mono ?_; rintro e w' ⟨rfl, hb⟩)
      go_ret
      exact ⟨rfl, HB.out.trans (hb.mono HB.out.size)⟩

end Go.Proofs.Ytjkiollopajmoaa.V
