/-
  The names of runes: what Name and ByName return.
-/
import Derived.Test.YtfmlenhakejefaaRParse
import Derived.StillTailTactics
import Derived.Laws.RangeAny
import Derived.Deep.CutRange

section
namespace Go.Proofs.Ytfmlenhakejefaa.R
set_option linter.unusedVariables false
open Go.RowKit V

theorem valid_lib (r : Int) : vld r = (r != 0 && Lib.validRune r) := by
  rw [Bool.eq_iff_iff, vld_iff, Bool.and_eq_true, bne_iff_ne]
  unfold Lib.validRune
  simp
  omega

set_option maxHeartbeats 400000 in
theorem valid_any (r : Int) (w : World) : Calls Try.prog 64 #[.int .i32 r] w fun e w' => e = .returned (.bool (vld r)) ∧ w = w' := by
  have HV := Lib.hid (valid_lib r)
  by_cases h : r = 0
  · subst h
    go_enter Try.func64, Try.ntmps64
    go_wp2_with fail
    go_ret
    exact ⟨rfl, rfl⟩
  · have h1 : (r != 0) = true := by rw [bne_iff_ne]; exact h
    have hb : Lib.validRune r = vld r := by rw [HV.out, h1, Bool.true_and]
    have HC := Lib.hid (Try.utf8_ValidRune r w)
    rw [hb] at HC
    clear hb
    go_enter Try.func64, Try.ntmps64
    go_wp2_with (go_at_call 68; refine HC.out.mono ?_; rintro e w' ⟨rfl, rfl⟩)
    go_ret
    exact ⟨rfl, rfl⟩
theorem valid_yes (r : Int) (w : World) (h : vld r = true) : Calls Try.prog 64 #[.int .i32 r] w fun e w' => e = .returned (.bool true) ∧ w = w' := by
  have := valid_any r w; rw [h] at this; exact this
theorem valid_not (r : Int) (w : World) (h : vld r = false) : Calls Try.prog 64 #[.int .i32 r] w fun e w' => e = .returned (.bool false) ∧ w = w' := by
  have := valid_any r w; rw [h] at this; exact this

/-- How many bytes a rune has. -/
def szr (r : Int) : Nat := if vld r = true then (enc r.toNat).length else 0
theorem szr_lib {r : Int} (h : vld r = true) : Lib.runeLen r = (szr r : Int) := by
  rw [vld_iff] at h
  unfold szr
  rw [if_pos (vld_iff.2 h)]
  unfold Lib.runeLen enc
  obtain ⟨n, rfl⟩ := Int.eq_ofNat_of_zero_le (show 0 ≤ r by omega)
  rw [Int.toNat_natCast, if_neg (by omega)]
  by_cases h1 : n < 128
  · rw [if_pos (by omega), if_pos h1]; rfl
  · rw [if_neg (by omega), if_neg h1]
    by_cases h2 : n < 2048
    · rw [if_pos (by omega), if_pos h2]; rfl
    · rw [if_neg (by omega), if_neg h2, if_neg (by omega)]
      by_cases h3 : n < 65536
      · rw [if_pos (by omega), if_pos h3]; rfl
      · rw [if_neg (by omega), if_neg h3, if_pos (by omega)]; rfl
theorem hex_ascii (n : Nat) : ∀ (j : Nat) (b : UInt8), (hex n)[j]? = some b → b.toNat < 128 := by
  intro j b h
  have := List.mem_of_getElem? h
  unfold hex at this
  simp only [List.mem_map] at this
  obtain ⟨d, hd, rfl⟩ := this
  exact dl_ascii (digs_lt n d hd)
theorem rep48 (c : Nat) : Lib.repeatL [48] c = List.replicate c 48 := by
  induction c with
  | zero => rfl
  | succ c ih => rw [Lib.repeatL, ih, List.replicate_succ]; rfl

end Go.Proofs.Ytfmlenhakejefaa.R
end

/-
  Strings as characters: what Len, Decode, Encode, split and Cut return.
-/
section
namespace Go.Proofs.Ytfmlenhakejefaa.R
set_option linter.unusedVariables false
open Go.RowKit V

theorem enc_rep : enc 65533 = [239, 191, 189] := by decide
theorem rep_iff (l : List UInt8) (hl : l ≠ []) : bad (fst1 l) = ((fst1 l).1 == 65533 && !Lib.hasPrefix l [239, 191, 189]) := by
  by_cases hp : Lib.hasPrefix l [239, 191, 189] = true
  · obtain ⟨t, ht⟩ := List.isPrefixOf_iff_prefix.1 hp
    have h := fst1_enc 65533 t (by decide)
    rw [enc_rep, ht] at h
    rw [h, hp]
    rfl
  · have hp' : Lib.hasPrefix l [239, 191, 189] = false := by simpa using hp
    rw [hp']
    unfold bad
    rcases fst1_at l hl with ⟨h1, h2⟩ | ⟨h1, h2, h3, h4⟩
    · rw [h1, h2]; rfl
    · by_cases hc : (fst1 l).1 = 65533
      · exfalso
        apply hp
        rw [hc, enc_rep] at h2
        exact List.isPrefixOf_iff_prefix.2 ⟨l.drop (fst1 l).2, by rw [← h2, List.take_append_drop]⟩
      · have : ((fst1 l).1 == 65533) = false := by rw [beq_eq_false_iff_ne]; exact hc
        rw [this]; rfl

theorem step_bad {l : List UInt8} {rs : List Nat} {p : Nat} (hp : p < l.length) (h : dec l = (dec (l.drop p)).map (rs ++ ·)) (hb : bad (fst1 (l.drop p)) = true) : dec l = none := by
  have hne : l.drop p ≠ [] := by intro e; have := congrArg List.length e; rw [List.length_drop, List.length_nil] at this; omega
  rw [h, dec_bad hne hb]; rfl
theorem step_good {l : List UInt8} {rs : List Nat} {p : Nat} (hp : p < l.length) (h : dec l = (dec (l.drop p)).map (rs ++ ·)) (hb : bad (fst1 (l.drop p)) = false) :
    dec l = (dec (l.drop (p + (fst1 (l.drop p)).2))).map ((rs ++ [(fst1 (l.drop p)).1]) ++ ·) := by
  have hne : l.drop p ≠ [] := by intro e; have := congrArg List.length e; rw [List.length_drop, List.length_nil] at this; omega
  rw [h, dec_good hne hb, List.drop_drop]
  cases dec (l.drop (p + (fst1 (l.drop p)).2)) <;> simp
theorem step_size {l : List UInt8} {p : Nat} (hp : p < l.length) : 1 ≤ (fst1 (l.drop p)).2 ∧ p + (fst1 (l.drop p)).2 ≤ l.length := by
  have hne : l.drop p ≠ [] := by intro e; have := congrArg List.length e; rw [List.length_drop, List.length_nil] at this; omega
  have := fst1_size _ hne
  rw [List.length_drop] at this
  omega
theorem step_end {l : List UInt8} {rs : List Nat} {p : Nat} (hp : l.length ≤ p) (h : dec l = (dec (l.drop p)).map (rs ++ ·)) : dec l = some rs := by
  rw [h, List.drop_of_length_le hp, dec_nil]; simp
theorem step_ne {l : List UInt8} {p : Nat} (hp : p < l.length) : l.drop p ≠ [] := by intro e; have := congrArg List.length e; rw [List.length_drop, List.length_nil] at this; omega

end Go.Proofs.Ytfmlenhakejefaa.R
end

/-
  Decode and Encode.
-/
section
namespace Go.Proofs.Ytfmlenhakejefaa.R
set_option linter.unusedVariables false
open Go.RowKit V

theorem info32 : (Try.prog.info? 21).map (fun i => (i.zero, i.size, i.bytes)) = some (some (.int .i32 0), 1, 4) := by kernel_rfl
def ints (rs : List Nat) : List Int := rs.map Int.ofNat
theorem ints_length (rs : List Nat) : (ints rs).length = rs.length := by simp [ints]
theorem ints_append (rs ts : List Nat) : ints (rs ++ ts) = ints rs ++ ints ts := by simp [ints]
/-- A row of runes that a call has made. -/
def O32 (w : World) (base : Nat) (v : Value) (l : List Int) : Prop := G.OI w base 21 .i32 v l

end Go.Proofs.Ytfmlenhakejefaa.R
end
