/-
  The law's small asks: all say yes.
-/
import Derived.Test.YtjkiollopajmoabDoorRRefG
import Derived.Test.YtjkiollopajmoabDoorRByName
namespace Go.Proofs.YtjkiollopajmoabDoor.R
set_option linter.unusedVariables false
open Go.RowKit V

set_option maxRecDepth 100000 in
set_option maxHeartbeats 1000000 in
theorem decodes_any (l : List UInt8) (a : Option Addr) (n c : Nat) (no : Int) (zs : List Int) (w : World) (hl : l.length ≤ 4398046511104) (hn : n = zs.length) (hz : zs = ints (decR l).1) (hno : no = ((decR l).2 : Int)) (hrow : G.RowI .i32 w a zs) :
    Calls Tryd.prog 19 #[.string ⟨l.toArray⟩, .slice a n c, .int .i64 no] w fun e w' => e = .returned (.bool true) ∧ Below w.heap.size w w' := by
  subst hn hz hno
  have HD := Lib.hid (decode_any l w hl)
  have hrl : (decR l).1.length ≤ 4398046511104 := by
    by_cases he : (decR l).2 = 0
    · have := encs_len (decR l).1
      rw [(decR_ok he).1] at this
      omega
    · rw [(decR_fail he).1]; simp
  have hself : (((decR l).2 : Int) == ((decR l).2 : Int)) = true := by rw [beq_iff_eq]
  have HR := Lib.hid hrow
  have HIl : Hid ((ints (decR l).1).length ≤ 4398046511104) := by show _ ≤ _; rw [ints_length]; exact hrl
  clear hrl hl
  generalize (decR l).1 = R at *
  generalize (decR l).2 = E at *
  generalize (⟨l.toArray⟩ : ByteArray) = S at *
  clear hrow
  go_enter Tryd.func19, Tryd.ntmps19
  go_wp2_with fail
  refine HD.out.mono ?_
  rintro e w1 ⟨v, rfl, ho, hb⟩
  have HB := Lib.hid hb
  obtain ⟨a1, c1, rfl, hrow1, -⟩ := ho.row2
  have HS := same_any (ints R) (ints R) a1 a c1 c w1 HIl.out HIl.out hrow1 (HR.out.keep hb (Nat.le_refl _))
  rw [decide_eq_true rfl] at HS
  have HSa := Lib.hid HS
  clear hb ho hrow1 HS HD HIl
  generalize (ints R).length = K at *
  go_wp2_with (go_at_call 23; refine HSa.out.mono ?_; rintro e w2 ⟨rfl, hb2⟩; have HB2 := Lib.hid (HB.out.trans (hb2.mono HB.out.size)); clear hb2)
  go_ret
  exact ⟨rfl, HB2.out⟩

set_option maxRecDepth 100000 in
set_option maxHeartbeats 1000000 in
theorem encodes_any (zs : List Int) (a : Option Addr) (n c : Nat) (s : ByteArray) (no : Int) (w : World) (hlen : zs.length ≤ 140737488355328) (hn : n = zs.length) (hs : s = ⟨(encR zs).1.toArray⟩) (hno : no = ((encR zs).2 : Int)) (hrow : G.RowI .i32 w a zs) :
    Calls Tryd.prog 14 #[.slice a n c, .string s, .int .i64 no] w fun e w' => e = .returned (.bool true) ∧ w = w' := by
  subst hn hs hno
  have HE := Lib.hid (encode_any zs a c w hlen hrow)
  generalize (⟨(encR zs).1.toArray⟩ : ByteArray) = S at *
  have h1 : (S.toList == S.toList) = true := by rw [beq_iff_eq]
  have h2 : (((encR zs).2 : Int) == ((encR zs).2 : Int)) = true := by rw [beq_iff_eq]
  generalize (encR zs).2 = E at *
  clear hrow
  go_enter Tryd.func14, Tryd.ntmps14
  go_wp2_with (go_at_call 27; refine HE.out.mono ?_; rintro e w1 ⟨rfl, rfl⟩)
  go_ret
  exact ⟨rfl, rfl⟩

set_option maxRecDepth 100000 in
set_option maxHeartbeats 1000000 in
theorem has_any (l : List UInt8) (n no : Int) (w : World) (hl : l.length ≤ 4398046511104) (hn : n = ((decR l).1.length : Int)) (hno : no = ((decR l).2 : Int)) :
    Calls Tryd.prog 21 #[.string ⟨l.toArray⟩, .int .i64 n, .int .i64 no] w fun e w' => e = .returned (.bool true) ∧ Below w.heap.size w w' := by
  subst hn hno
  have hE := len_any l w (by omega)
  rw [lenR_decR] at hE
  have HE := Lib.hid hE
  clear hE
  generalize (decR l).1.length = K at *
  generalize (decR l).2 = E at *
  have h1 : ((K : Int) == (K : Int)) = true := by rw [beq_iff_eq]
  have h2 : ((E : Int) == (E : Int)) = true := by rw [beq_iff_eq]
  generalize (⟨l.toArray⟩ : ByteArray) = S at *
  go_enter Tryd.func21, Tryd.ntmps21
  go_wp2_with (go_at_call 36; refine HE.out.mono ?_; rintro e w1 ⟨rfl, hb⟩; have HB := Lib.hid hb; clear hb)
  go_ret
  exact ⟨rfl, HB.out⟩

set_option maxRecDepth 100000 in
set_option maxHeartbeats 1000000 in
theorem cuts_any (l : List UInt8) (x y : Int) (s : ByteArray) (no : Int) (w : World) (hl : l.length ≤ 4398046511104) (hx : -9223372036854775808 ≤ x ∧ x ≤ 9223372036854775807) (hy : -9223372036854775808 ≤ y ∧ y ≤ 9223372036854775807)
    (hs : s = ⟨(cutR l x y).1.toArray⟩) (hno : no = ((cutR l x y).2 : Int)) :
    Calls Tryd.prog 25 #[.string ⟨l.toArray⟩, .int .i64 x, .int .i64 y, .string s, .int .i64 no] w fun e w' => e = .returned (.bool true) ∧ Below w.heap.size w w' := by
  subst hs hno
  have HE := Lib.hid (cut_any l x y w hl hx hy)
  generalize (⟨(cutR l x y).1.toArray⟩ : ByteArray) = S at *
  generalize (cutR l x y).2 = E at *
  have h1 : (S.toList == S.toList) = true := by rw [beq_iff_eq]
  have h2 : ((E : Int) == (E : Int)) = true := by rw [beq_iff_eq]
  generalize (⟨l.toArray⟩ : ByteArray) = L at *
  go_enter Tryd.func25, Tryd.ntmps25
  go_wp2_with (go_at_call 29; refine HE.out.mono ?_; rintro e w1 ⟨rfl, hb⟩; have HB := Lib.hid hb; clear hb)
  go_ret
  exact ⟨rfl, HB.out⟩

set_option maxRecDepth 100000 in
set_option maxHeartbeats 1000000 in
theorem named_yes (n : Nat) (h : vld (n : Int) = true) (s : ByteArray) (hs : s = ⟨(nm n).toArray⟩) (w : World) (hL : Ld w) :
    Calls Tryd.prog 13 #[.int .i32 (n : Int), .string s, .int .i64 0] w fun e w' => e = .returned (.bool true) ∧ Below w.heap.size w w' := by
  subst hs
  have HE := Lib.hid (name_yes n h w hL)
  generalize (⟨(nm n).toArray⟩ : ByteArray) = S at *
  have h1 : (S.toList == S.toList) = true := by rw [beq_iff_eq]
  clear h hL
  go_enter Tryd.func13, Tryd.ntmps13
  go_wp2_with (go_at_call 33; refine HE.out.mono ?_; rintro e w1 ⟨rfl, hb⟩; have HB := Lib.hid hb; clear hb)
  go_ret
  exact ⟨rfl, HB.out⟩

set_option maxRecDepth 100000 in
set_option maxHeartbeats 1000000 in
theorem named_not (r : Int) (h : vld r = false) (w : World) :
    Calls Tryd.prog 13 #[.int .i32 r, .string ⟨#[]⟩, .int .i64 13] w fun e w' => e = .returned (.bool true) ∧ w = w' := by
  have HE := Lib.hid (name_not r h w)
  clear h
  go_enter Tryd.func13, Tryd.ntmps13
  go_wp2_with (go_at_call 33; refine HE.out.mono ?_; rintro e w1 ⟨rfl, rfl⟩)
  go_ret
  exact ⟨rfl, rfl⟩

set_option maxRecDepth 100000 in
set_option maxHeartbeats 1000000 in
theorem found_yes (n : Nat) (h : vld (n : Int) = true) (s : ByteArray) (hs : s = ⟨(nm n).toArray⟩) (w : World) (hL : Ld w) :
    Calls Tryd.prog 18 #[.string s, .int .i32 (n : Int), .int .i64 0] w fun e w' => e = .returned (.bool true) ∧ Below w.heap.size w w' := by
  subst hs
  have HE := Lib.hid (byname_yes n h w hL)
  generalize (⟨(nm n).toArray⟩ : ByteArray) = S at *
  have h1 : ((n : Int) == (n : Int)) = true := by rw [beq_iff_eq]
  clear h hL
  go_enter Tryd.func18, Tryd.ntmps18
  go_wp2_with (go_at_call 34; refine HE.out.mono ?_; rintro e w1 ⟨rfl, hb⟩; have HB := Lib.hid hb; clear hb)
  go_ret
  exact ⟨rfl, HB.out⟩

set_option maxRecDepth 100000 in
set_option maxHeartbeats 1000000 in
theorem found_not (s : List UInt8) (h : ∀ n : Nat, vld (n : Int) = true → s ≠ nm n) (hlen : s.length ≤ 140737488355328) (w : World) (hL : Ld w) :
    Calls Tryd.prog 18 #[.string ⟨s.toArray⟩, .int .i32 0, .int .i64 6] w fun e w' => e = .returned (.bool true) ∧ Below w.heap.size w w' := by
  have HE := Lib.hid (byname_not s h hlen w hL)
  generalize (⟨s.toArray⟩ : ByteArray) = S at *
  clear h hL
  go_enter Tryd.func18, Tryd.ntmps18
  go_wp2_with (go_at_call 34; refine HE.out.mono ?_; rintro e w1 ⟨rfl, hb⟩; have HB := Lib.hid hb; clear hb)
  go_ret
  exact ⟨rfl, HB.out⟩
end Go.Proofs.YtjkiollopajmoabDoor.R
