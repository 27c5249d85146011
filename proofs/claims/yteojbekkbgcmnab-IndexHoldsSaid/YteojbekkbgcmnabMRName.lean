/-
  The names of runes: what Name and ByName return.
-/
import Derived.Test.YteojbekkbgcmnabRParse
import Derived.StillTailTactics
import Derived.Test.YteojbekkbgcmnabMRUtf
import Derived.Laws.RangeAny
import Derived.Deep.CutRange

section
namespace Go.Proofs.Yteojbekkbgcmnab.R
set_option linter.unusedVariables false
open Go.RowKit V

theorem valid_lib (r : Int) : vld r = (r != 0 && Lib.validRune r) := by
  rw [Bool.eq_iff_iff, vld_iff, Bool.and_eq_true, bne_iff_ne]
  unfold Lib.validRune
  simp
  omega

set_option maxHeartbeats 400000 in
theorem valid_any (r : Int) (w : World) : Calls Try.prog 71 #[.int .i32 r] w fun e w' => e = .returned (.bool (vld r)) ∧ w = w' := by
  have HV := Lib.hid (valid_lib r)
  by_cases h : r = 0
  · subst h
    go_enter Try.func71, Try.ntmps71
    go_wp2_with fail
    go_ret
    exact ⟨rfl, rfl⟩
  · have h1 : (r != 0) = true := by rw [bne_iff_ne]; exact h
    have hb : Lib.validRune r = vld r := by rw [HV.out, h1, Bool.true_and]
    have HC := Lib.hid (Try.utf8_ValidRune r w)
    rw [hb] at HC
    clear hb
    go_enter Try.func71, Try.ntmps71
    go_wp2_with (go_at_call 82; refine HC.out.mono ?_; rintro e w' ⟨rfl, rfl⟩)
    go_ret
    exact ⟨rfl, rfl⟩
theorem valid_yes (r : Int) (w : World) (h : vld r = true) : Calls Try.prog 71 #[.int .i32 r] w fun e w' => e = .returned (.bool true) ∧ w = w' := by
  have := valid_any r w; rw [h] at this; exact this
theorem valid_not (r : Int) (w : World) (h : vld r = false) : Calls Try.prog 71 #[.int .i32 r] w fun e w' => e = .returned (.bool false) ∧ w = w' := by
  have := valid_any r w; rw [h] at this; exact this

/-- How many bytes a rune has. -/
def szr (r : Int) : Nat := if vld r = true then (enc r.toNat).length else 0
theorem szr_lib {r : Int} (h : vld r = true) : Lib.runeLen r = (szr r : Int) := by
  rw [vld_iff] at h
  unfold szr
  rw [if_pos (vld_iff.2 h)]
  unfold Lib.runeLen enc
  obtain ⟨n, rfl⟩ := Int.eq_ofNat_of_zero_le (show 0 ≤ r by omega)
  rw [Int.toNat_natCast, if_neg (by omega)]
  by_cases h1 : n < 128
  · rw [if_pos (by omega), if_pos h1]; rfl
  · rw [if_neg (by omega), if_neg h1]
    by_cases h2 : n < 2048
    · rw [if_pos (by omega), if_pos h2]; rfl
    · rw [if_neg (by omega), if_neg h2, if_neg (by omega)]
      by_cases h3 : n < 65536
      · rw [if_pos (by omega), if_pos h3]; rfl
      · rw [if_neg (by omega), if_neg h3, if_pos (by omega)]; rfl
theorem hex_ascii (n : Nat) : ∀ (j : Nat) (b : UInt8), (hex n)[j]? = some b → b.toNat < 128 := by
  intro j b h
  have := List.mem_of_getElem? h
  unfold hex at this
  simp only [List.mem_map] at this
  obtain ⟨d, hd, rfl⟩ := this
  exact dl_ascii (digs_lt n d hd)
theorem rep48 (c : Nat) : Lib.repeatL [48] c = List.replicate c 48 := by
  induction c with
  | zero => rfl
  | succ c ih => rw [Lib.repeatL, ih, List.replicate_succ]; rfl

end Go.Proofs.Yteojbekkbgcmnab.R
end

/-
  The reference of layer 2: single runes.
-/
section
namespace Go.Proofs.Yteojbekkbgcmnab.R
set_option linter.unusedVariables false
open Go.RowKit V

/-- A scalar value, of any number. -/
def sclI (n : Int) : Bool := decide (0 ≤ n) && scal n.toNat
theorem sclI_nat (n : Nat) : sclI (n : Int) = scal n := by simp [sclI]
theorem sclI_iff {n : Int} : sclI n = true ↔ (0 ≤ n ∧ n < 55296) ∨ (57344 ≤ n ∧ n ≤ 1114111) := by
  simp only [sclI, Bool.and_eq_true, decide_eq_true_eq, scal_iff]; omega
set_option maxHeartbeats 400000 in
theorem scalar_any (n : Int) (w : World) : Calls Try.prog 74 #[.int .i64 n] w fun e w' => e = .returned (.bool (sclI n)) ∧ w = w' := by
  by_cases h0 : 0 ≤ n
  · have b0 : decide (0 ≤ n) = true := by simpa using h0
    by_cases h1 : n ≤ 1114111
    · have b1 : decide (n ≤ 1114111) = true := by simpa using h1
      by_cases h2 : n < 55296
      · have b2 : decide (n < 55296) = true := by simpa using h2
        have HN : Hid (sclI n = true) := sclI_iff.2 (by omega)
        go_enter Try.func74, Try.ntmps74
        go_wp2_with fail
        go_ret
        exact ⟨by rw [HN.out]; rfl, rfl⟩
      · have b2 : decide (n < 55296) = false := by simpa using h2
        by_cases h3 : 57343 < n
        · have b3 : decide (57343 < n) = true := by simpa using h3
          have HN : Hid (sclI n = true) := sclI_iff.2 (by omega)
          go_enter Try.func74, Try.ntmps74
          go_wp2_with fail
          go_ret
          exact ⟨by rw [HN.out]; rfl, rfl⟩
        · have b3 : decide (57343 < n) = false := by simpa using h3
          have HN : Hid (sclI n = false) := by show _ = _; rw [Bool.eq_false_iff]; intro h; rw [sclI_iff] at h; omega
          go_enter Try.func74, Try.ntmps74
          go_wp2_with fail
          go_ret
          exact ⟨by rw [HN.out]; rfl, rfl⟩
    · have b1 : decide (n ≤ 1114111) = false := by simpa using h1
      have HN : Hid (sclI n = false) := by show _ = _; rw [Bool.eq_false_iff]; intro h; rw [sclI_iff] at h; omega
      go_enter Try.func74, Try.ntmps74
      go_wp2_with fail
      go_ret
      exact ⟨by rw [HN.out]; rfl, rfl⟩
  · have b0 : decide (0 ≤ n) = false := by simpa using h0
    have HN : Hid (sclI n = false) := by show _ = _; rw [Bool.eq_false_iff]; intro h; rw [sclI_iff] at h; omega
    go_enter Try.func74, Try.ntmps74
    go_wp2_with fail
    go_ret
    exact ⟨by rw [HN.out]; rfl, rfl⟩

theorem vld_scl (r : Int) : vld r = (r != 0 && sclI r) := by
  rw [Bool.eq_iff_iff, vld_iff, Bool.and_eq_true, bne_iff_ne, sclI_iff]; omega
set_option maxHeartbeats 400000 in
theorem rvalid_any (r : Int) (w : World) (hr : -2147483648 ≤ r ∧ r ≤ 2147483647) : Calls Try.prog 61 #[.int .i32 r] w fun e w' => e = .returned (.bool (vld r)) ∧ w = w' := by
  have HV := Lib.hid (vld_scl r)
  by_cases h : r = 0
  · subst h
    go_enter Try.func61, Try.ntmps61
    go_wp2_with fail
    go_ret
    exact ⟨rfl, rfl⟩
  · have h1 : (r != 0) = true := by rw [bne_iff_ne]; exact h
    have hb : sclI r = vld r := by rw [HV.out, h1, Bool.true_and]
    have HC := Lib.hid (scalar_any r w)
    rw [hb] at HC
    obtain ⟨hr1, hr2⟩ := hr
    clear hb
    go_enter Try.func61, Try.ntmps61
    go_wp2_with (go_at_call 74; refine HC.out.mono ?_; rintro e w' ⟨rfl, rfl⟩)
    go_ret
    exact ⟨rfl, rfl⟩
theorem rvalid_yes (r : Int) (w : World) (h : vld r = true) : Calls Try.prog 61 #[.int .i32 r] w fun e w' => e = .returned (.bool true) ∧ w = w' := by
  have := rvalid_any r w (by rw [vld_iff] at h; omega); rw [h] at this; exact this
theorem rvalid_not (r : Int) (w : World) (hr : -2147483648 ≤ r ∧ r ≤ 2147483647) (h : vld r = false) : Calls Try.prog 61 #[.int .i32 r] w fun e w' => e = .returned (.bool false) ∧ w = w' := by
  have := rvalid_any r w hr; rw [h] at this; exact this

theorem row_cells (w : World) (l : List UInt8) (C : Array Value) (t : TypeId) (hC : C.toList = cells8 l) : Row8 (w.alloc (.cells C t)) (some ⟨w.heap.size, 0, none⟩) l := by
  by_cases hl : l = []
  · exact .inl hl
  refine .inr ⟨_, _, rfl, fun i hi => ?_⟩
  rw [Nat.zero_add, World.cell?_alloc_new w C t i, ← Array.getElem?_toList, hC]
  simp [cells8, hi]

set_option maxRecDepth 100000 in
set_option maxHeartbeats 400000 in
theorem rbytes_any (n : Nat) (hn : n ≤ 1114111) (w : World) :
    Calls Try.prog 62 #[.int .i64 (n : Int)] w fun e w' => ∃ g c, e = .returned (.slice (some ⟨g, 0, none⟩) (enc n).length c) ∧ Row8 w' (some ⟨g, 0, none⟩) (enc n) ∧ Below w.heap.size w w' ∧ w.heap.size ≤ g := by
  by_cases h1 : n < 128
  · have HE : Hid (enc n = [u n]) := by show _ = _; unfold enc; rw [if_pos h1]
    go_enter Try.func62, Try.ntmps62
    go_wp2_with fail
    go_ret
    rw [HE.out]
    refine ⟨_, _, rfl, row_cells _ _ _ _ ?_, (Below.refl _ _).alloc (Nat.le_refl _) _, Nat.le_refl _⟩
    simp only [cells8, List.map_cons, List.map_nil, u_toNat (show n < 256 by omega)]
  · by_cases h2 : n < 2048
    · have HE : Hid (enc n = [u (192 + n / 64), u (128 + n % 64)]) := by show _ = _; unfold enc; rw [if_neg h1, if_pos h2]
      go_enter Try.func62, Try.ntmps62
      go_wp2_with fail
      go_ret
      rw [HE.out]
      refine ⟨_, _, rfl, row_cells _ _ _ _ ?_, (Below.refl _ _).alloc (Nat.le_refl _) _, Nat.le_refl _⟩
      simp only [cells8, List.map_cons, List.map_nil, u_toNat (show 192 + n / 64 < 256 by omega), u_toNat (show 128 + n % 64 < 256 by omega)]
      simp
    · by_cases h3 : n < 65536
      · have b3 : decide ((n : Int) < 65536) = true := by simp; omega
        have HE : Hid (enc n = [u (224 + n / 4096), u (128 + n / 64 % 64), u (128 + n % 64)]) := by show _ = _; unfold enc; rw [if_neg h1, if_neg h2, if_pos h3]
        have b1 : decide ((n : Int) < 128) = false := by simp; omega
        have b2 : decide ((n : Int) < 2048) = false := by simp; omega
        have H1 := Lib.hid h1
        have H2 := Lib.hid h2
        have H3 := Lib.hid h3
        clear h1 h2 h3
        go_enter Try.func62, Try.ntmps62
        go_wp2_with fail
        go_ret
        rw [HE.out]
        refine ⟨_, _, rfl, row_cells _ _ _ _ ?_, (Below.refl _ _).alloc (Nat.le_refl _) _, Nat.le_refl _⟩
        simp only [cells8, List.map_cons, List.map_nil, u_toNat (show 224 + n / 4096 < 256 by have := H3.out; omega), u_toNat (show 128 + n / 64 % 64 < 256 by omega), u_toNat (show 128 + n % 64 < 256 by omega)]
        simp
        have := H3.out
        omega
      · have b3 : decide ((n : Int) < 65536) = false := by simp; omega
        have HE : Hid (enc n = [u (240 + n / 262144), u (128 + n / 4096 % 64), u (128 + n / 64 % 64), u (128 + n % 64)]) := by show _ = _; unfold enc; rw [if_neg h1, if_neg h2, if_neg h3]
        have b1 : decide ((n : Int) < 128) = false := by simp; omega
        have b2 : decide ((n : Int) < 2048) = false := by simp; omega
        have H1 := Lib.hid h1
        have H2 := Lib.hid h2
        have H3 := Lib.hid h3
        clear h1 h2 h3
        go_enter Try.func62, Try.ntmps62
        go_wp2_with fail
        go_ret
        rw [HE.out]
        refine ⟨_, _, rfl, row_cells _ _ _ _ ?_, (Below.refl _ _).alloc (Nat.le_refl _) _, Nat.le_refl _⟩
        simp only [cells8, List.map_cons, List.map_nil, u_toNat (show 240 + n / 262144 < 256 by omega), u_toNat (show 128 + n / 4096 % 64 < 256 by omega), u_toNat (show 128 + n / 64 % 64 < 256 by omega), u_toNat (show 128 + n % 64 < 256 by omega)]
        simp

end Go.Proofs.Yteojbekkbgcmnab.R
end

/-
  The reference of layer 2: the first character, and all of them.
-/
section
namespace Go.Proofs.Yteojbekkbgcmnab.R
set_option linter.unusedVariables false
open Go.RowKit V

theorem idx_str (l : List UInt8) (k : Nat) (hk : k < l.length) (kd : IntKind) (w : World) :
    (Instr.index 9 (.string ⟨l.toArray⟩) (.int kd (k : Int))).run Try.prog w = .ok (.int .u8 (at8 l k : Int)) w := by
  have h1 : (⟨l.toArray⟩ : ByteArray)[k]? = some l[k] := by
    show (l.toArray)[k]? = _
    simp [hk]
  simp [Instr.index, run_underlying Try.underlying9, asIntOf, Result.andThen, h1, at8, hk]

end Go.Proofs.Yteojbekkbgcmnab.R
end

/-
  Strings as characters: what Len, Decode, Encode, split and Cut return.
-/
section
namespace Go.Proofs.Yteojbekkbgcmnab.R
set_option linter.unusedVariables false
open Go.RowKit V

theorem enc_rep : enc 65533 = [239, 191, 189] := by decide
theorem rep_iff (l : List UInt8) (hl : l ≠ []) : bad (fst1 l) = ((fst1 l).1 == 65533 && !Lib.hasPrefix l [239, 191, 189]) := by
  by_cases hp : Lib.hasPrefix l [239, 191, 189] = true
  · obtain ⟨t, ht⟩ := List.isPrefixOf_iff_prefix.1 hp
    have h := fst1_enc 65533 t (by decide)
    rw [enc_rep, ht] at h
    rw [h, hp]
    rfl
  · have hp' : Lib.hasPrefix l [239, 191, 189] = false := by simpa using hp
    rw [hp']
    unfold bad
    rcases fst1_at l hl with ⟨h1, h2⟩ | ⟨h1, h2, h3, h4⟩
    · rw [h1, h2]; rfl
    · by_cases hc : (fst1 l).1 = 65533
      · exfalso
        apply hp
        rw [hc, enc_rep] at h2
        exact List.isPrefixOf_iff_prefix.2 ⟨l.drop (fst1 l).2, by rw [← h2, List.take_append_drop]⟩
      · have : ((fst1 l).1 == 65533) = false := by rw [beq_eq_false_iff_ne]; exact hc
        rw [this]; rfl

set_option maxHeartbeats 400000 in
theorem isrep_any (s : ByteArray) (w : World) : Calls Try.prog 59 #[.string s] w fun e w' => e = .returned (.bool (Lib.hasPrefix s.data.toList [239, 191, 189])) ∧ w = w' := by
  have HC := Lib.hid (Try.strings_HasPrefix s ⟨#[239, 191, 189]⟩ w)
  rw [show (⟨#[239, 191, 189]⟩ : ByteArray).data.toList = [239, 191, 189] from rfl] at HC
  go_enter Try.func59, Try.ntmps59
  go_wp2_with (go_at_call 73; refine HC.out.mono ?_; rintro e w' ⟨rfl, rfl⟩)
  go_ret
  exact ⟨rfl, rfl⟩

theorem isrep_at (S : ByteArray) (d : List UInt8) (pos : Nat) (w : World) (b : Bool) (hd : (S.extract pos S.size).data.toList = d) (hb : Lib.hasPrefix d [239, 191, 189] = b) :
    Calls Try.prog 59 #[.string (S.extract pos S.size)] w fun e w' => e = .returned (.bool b) ∧ w = w' := by
  have := isrep_any (S.extract pos S.size) w
  rw [hd, hb] at this
  exact this
theorem step_bad {l : List UInt8} {rs : List Nat} {p : Nat} (hp : p < l.length) (h : dec l = (dec (l.drop p)).map (rs ++ ·)) (hb : bad (fst1 (l.drop p)) = true) : dec l = none := by
  have hne : l.drop p ≠ [] := by intro e; have := congrArg List.length e; rw [List.length_drop, List.length_nil] at this; omega
  rw [h, dec_bad hne hb]; rfl
theorem step_good {l : List UInt8} {rs : List Nat} {p : Nat} (hp : p < l.length) (h : dec l = (dec (l.drop p)).map (rs ++ ·)) (hb : bad (fst1 (l.drop p)) = false) :
    dec l = (dec (l.drop (p + (fst1 (l.drop p)).2))).map ((rs ++ [(fst1 (l.drop p)).1]) ++ ·) := by
  have hne : l.drop p ≠ [] := by intro e; have := congrArg List.length e; rw [List.length_drop, List.length_nil] at this; omega
  rw [h, dec_good hne hb, List.drop_drop]
  cases dec (l.drop (p + (fst1 (l.drop p)).2)) <;> simp
theorem step_size {l : List UInt8} {p : Nat} (hp : p < l.length) : 1 ≤ (fst1 (l.drop p)).2 ∧ p + (fst1 (l.drop p)).2 ≤ l.length := by
  have hne : l.drop p ≠ [] := by intro e; have := congrArg List.length e; rw [List.length_drop, List.length_nil] at this; omega
  have := fst1_size _ hne
  rw [List.length_drop] at this
  omega
theorem step_end {l : List UInt8} {rs : List Nat} {p : Nat} (hp : l.length ≤ p) (h : dec l = (dec (l.drop p)).map (rs ++ ·)) : dec l = some rs := by
  rw [h, List.drop_of_length_le hp, dec_nil]; simp
theorem step_ne {l : List UInt8} {p : Nat} (hp : p < l.length) : l.drop p ≠ [] := by intro e; have := congrArg List.length e; rw [List.length_drop, List.length_nil] at this; omega

set_option maxRecDepth 100000 in
set_option maxHeartbeats 1000000 in
theorem len_any (l : List UInt8) (w : World) (hl : l.length ≤ 140737488355328) :
    Calls Try.prog 32 #[.string ⟨l.toArray⟩] w fun e w' => e = .returned (.tuple #[.int .i64 ((lenR l).1 : Int), .int .i64 ((lenR l).2 : Int)]) ∧ Below w.heap.size w w' := by
  obtain ⟨S, hS⟩ : ∃ S : ByteArray, S = ⟨l.toArray⟩ := ⟨_, rfl⟩
  have hSl : S.data.toList = l := by rw [hS]
  have hSz : S.size = l.length := by rw [hS]; simp [ByteArray.size]
  rw [← hS]
  have HSl := Lib.hid hSl
  have HSz := Lib.hid hSz
  clear hS hSl hSz
  go_enter Try.func32, Try.ntmps32
  go_wp2_with fail
  go_loopw [4, 5] (fun n z wr => ∃ (pos : Nat) (rs : List Nat) (b : Bool), wr = w.iter S pos ∧ pos ≤ l.length ∧ n = .int .i64 rs.length ∧ z = .bool b ∧ rs.length ≤ pos ∧ Hid (b = decide (0 ∈ rs)) ∧ Hid (dec l = (dec (l.drop pos)).map (rs ++ ·))) (fun _ _ w' => l.length - w'.iterPos w.heap.size)
  case atStart => exact ⟨0, [], false, rfl, Nat.zero_le _, rfl, rfl, Nat.le_refl _, by show _ = _; rfl, by show _ = _; cases h : dec (l.drop 0) <;> simp_all⟩
  case round =>
    obtain ⟨pos, rs, b, rfl, hpos, rfl, rfl, hrp, HZ, HD⟩ := hrel
    by_cases hlt : pos < l.length
    · have hnx : ∀ ty, (Instr.next (.pointer (some ⟨w.heap.size, 0, none⟩)) true ty).run Try.prog (w.iter S pos) = _ := fun ty => run_next_any w S pos ty (by rw [HSz.out]; exact hlt)
      rw [utf8_decode S pos (by rw [HSz.out]; omega), HSl.out] at hnx
      have hsz := step_size hlt
      have HR := Lib.hid (rep_iff _ (step_ne hlt))
      have HB := Lib.hid (step_bad hlt HD.out)
      have HG := Lib.hid (step_good hlt HD.out)
      clear HD
      generalize fst1 (l.drop pos) = F at *
      obtain ⟨c, k⟩ := F
      simp only at hnx hsz HR HG
      have hps : pos ≤ S.size := by rw [HSz.out]; exact hpos
      by_cases hc : c = 65533
      · subst hc
        by_cases hP : Lib.hasPrefix (l.drop pos) [239, 191, 189] = true
        · have HI := fun wx => isrep_at S (l.drop pos) pos wx true (by rw [drop_bytes, HSl.out]) hP
          have HI2 := Lib.hid HI
          have hb : bad (65533, k) = false := by rw [HR.out, hP]; rfl
          have HG2 := Lib.hid (HG.out hb)
          clear hb hP HI
          rcases b with _ | _
          all_goals
            go_wp2_with (go_at_call 59; refine (HI2.out _).mono ?_; rintro e w' ⟨rfl, rfl⟩)
          · go_roundw
            case rel => exact ⟨pos + k, rs ++ [65533], false, rfl, by omega, by rw [List.length_append]; rfl, rfl, by rw [List.length_append]; simp; omega, by show _ = _; have := HZ.out; simp_all, HG2.out⟩
            case measure => simp; omega
          · go_roundw
            case rel => exact ⟨pos + k, rs ++ [65533], true, rfl, by omega, by rw [List.length_append]; rfl, rfl, by rw [List.length_append]; simp; omega, by show _ = _; have := HZ.out; simp_all, HG2.out⟩
            case measure => simp; omega
        · have hP' : Lib.hasPrefix (l.drop pos) [239, 191, 189] = false := by simpa using hP
          have HI := fun wx => isrep_at S (l.drop pos) pos wx false (by rw [drop_bytes, HSl.out]) hP'
          have HI2 := Lib.hid HI
          have hb : bad (65533, k) = true := by rw [HR.out, hP']; rfl
          have hd := HB.out hb
          have HN : Hid (lenR l = (0, 12)) := by show _ = _; unfold lenR; rw [hd]
          clear hb hP hP' HI hd
          go_wp2_with (go_at_call 59; refine (HI2.out _).mono ?_; rintro e w' ⟨rfl, rfl⟩)
          go_ret2
          exact ⟨by rw [HN.out]; rfl, (Below.refl _ _).alloc (Nat.le_refl _) _⟩
      · have h1 : ((c : Int) == 65533) = false := by rw [beq_eq_false_iff_ne]; omega
        have hb : bad (c, k) = false := by rw [HR.out, show (c == 65533) = false by rw [beq_eq_false_iff_ne]; exact hc]; rfl
        have HG2 := Lib.hid (HG.out hb)
        clear hb hc
        rcases b with _ | _
        · by_cases h0 : c = 0
          · subst h0
            go_wp2_with fail
            go_roundw
            case rel => exact ⟨pos + k, rs ++ [0], true, rfl, by omega, by rw [List.length_append]; rfl, rfl, by rw [List.length_append]; simp; omega, by show _ = _; have := HZ.out; simp_all, HG2.out⟩
            case measure => simp; omega
          · have h2 : ((c : Int) == 0) = false := by rw [beq_eq_false_iff_ne]; omega
            have h0' : ¬ 0 = c := fun e => h0 e.symm
            go_wp2_with fail
            go_roundw
            case rel => exact ⟨pos + k, rs ++ [c], false, rfl, by omega, by rw [List.length_append]; rfl, rfl, by rw [List.length_append]; simp; omega, by show _ = _; have := HZ.out; simp_all, HG2.out⟩
            case measure => simp; omega
        · go_wp2_with fail
          go_roundw
          case rel => exact ⟨pos + k, rs ++ [c], true, rfl, by omega, by rw [List.length_append]; rfl, rfl, by rw [List.length_append]; simp; omega, by show _ = _; have := HZ.out; simp_all, HG2.out⟩
          case measure => simp; omega
    · have hnx : ∀ ty, (Instr.next (.pointer (some ⟨w.heap.size, 0, none⟩)) true ty).run Try.prog (w.iter S pos) = _ := fun ty => run_next_end w S pos ty (by rw [HSz.out]; exact hlt)
      have HE := Lib.hid (step_end (by omega) HD.out)
      clear HD
      rcases b with _ | _
      · have HN : Hid (lenR l = (rs.length, 0)) := by
          show _ = _; unfold lenR; rw [HE.out]; simp only
          rw [if_neg (of_decide_eq_false HZ.out.symm)]
        go_wp2_with fail
        go_ret2
        exact ⟨by rw [HN.out]; rfl, (Below.refl _ _).alloc (Nat.le_refl _) _⟩
      · have HN : Hid (lenR l = (0, 13)) := by
          show _ = _; unfold lenR; rw [HE.out]; simp only
          rw [if_pos (of_decide_eq_true HZ.out.symm)]
        go_wp2_with fail
        go_ret2
        exact ⟨by rw [HN.out]; rfl, (Below.refl _ _).alloc (Nat.le_refl _) _⟩
end Go.Proofs.Yteojbekkbgcmnab.R
end

/-
  Decode and Encode.
-/
section
namespace Go.Proofs.Yteojbekkbgcmnab.R
set_option linter.unusedVariables false
open Go.RowKit V

theorem info32 : (Try.prog.info? 21).map (fun i => (i.zero, i.size, i.bytes)) = some (some (.int .i32 0), 1, 4) := by kernel_rfl
def ints (rs : List Nat) : List Int := rs.map Int.ofNat
theorem ints_length (rs : List Nat) : (ints rs).length = rs.length := by simp [ints]
theorem ints_append (rs ts : List Nat) : ints (rs ++ ts) = ints rs ++ ints ts := by simp [ints]
/-- A row of runes that a call has made. -/
def O32 (w : World) (base : Nat) (v : Value) (l : List Int) : Prop := G.OI w base 21 .i32 v l

end Go.Proofs.Yteojbekkbgcmnab.R
end

/-
  The reference's Decode and Encode.
-/
section
namespace Go.Proofs.Yteojbekkbgcmnab.R
set_option linter.unusedVariables false
open Go.RowKit V

end Go.Proofs.Yteojbekkbgcmnab.R
end
