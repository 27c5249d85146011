/-
  What the program reads as numbers: the library's Cut at a full stop, and Atoi.
-/
import Derived.Test.YtmmcnpcijeahcabGreatDoorDCmp
import Derived.Test.YtmmcnpcijeahcabGreatDoorDText
import Derived.Test.YtmmcnpcijeahcabGreatDoorShelf
import Derived.Lib.SmallJoins
import Derived.Lib.IndexLaws
namespace Go.Proofs.YtmmcnpcijeahcabGreatDoor.D
set_option linter.unusedVariables false
open Go.RowKit V Go.Sort

/-- What the library's variables hold. -/
def Ld (w : World) : Prop :=
  Lib.TabIs Tryz.prog w "internal/strconv.uint64pow10" .u64 Lib.pow10Tab ∧
  (∃ ev, w.cell? ⟨0, 0, none⟩ = some ev ∧ (ev = .nilIface ∨ ∃ te pe, ev = .iface te pe)) ∧
  (∃ ev, w.cell? ⟨1, 0, none⟩ = some ev ∧ (ev = .nilIface ∨ ∃ te pe, ev = .iface te pe))
theorem Ld.keep {w w' : World} {B : Nat} (h : Ld w) (hb : Below B w w') (hB : w.heap.size ≤ B) : Ld w' := by
  obtain ⟨h1, ⟨e2, h2, g2⟩, ⟨e3, h3, g3⟩⟩ := h
  refine ⟨Joins.tab_stays (g := 3) (by kernel_rfl) h1 hb hB, ⟨e2, ?_, g2⟩, ⟨e3, ?_, g3⟩⟩
  · rw [hb.cell (p := ⟨_, _, none⟩) (Nat.lt_of_lt_of_le (lt_of_cell h2) hB)]; exact h2
  · rw [hb.cell (p := ⟨_, _, none⟩) (Nat.lt_of_lt_of_le (lt_of_cell h3) hB)]; exact h3
theorem Ld.below {w w' : World} (h : Ld w) (hb : Below w.heap.size w w') : Ld w' := h.keep hb (Nat.le_refl _)

theorem ba_ext {S : ByteArray} {l : List UInt8} (h : S.data.toList = l) : S = ⟨l.toArray⟩ := by
  apply ByteArray.ext
  rw [← h]
theorem ba_size (l : List UInt8) : (⟨l.toArray⟩ : ByteArray).size = l.length := by simp [ByteArray.size]

/-- What stands before and behind the first full stop. -/
def Cuts (l x y : List UInt8) : Prop := ((46 : UInt8) ∉ l ∧ x = l ∧ y = []) ∨ (l = x ++ 46 :: y ∧ (46 : UInt8) ∉ x)
theorem cuts_len {l x y : List UInt8} (h : Cuts l x y) : x.length ≤ l.length ∧ y.length ≤ l.length := by
  rcases h with ⟨-, rfl, rfl⟩ | ⟨rfl, -⟩
  · simp
  · simp; omega
theorem cuts_no {l : List UInt8} (h : Lib.indexByte l 46 = -1) : Cuts l l [] := by
  refine .inl ⟨fun hm => ?_, rfl, rfl⟩
  obtain ⟨k, hk, e⟩ := List.mem_iff_getElem.1 hm
  exact Lib.indexByte_none h k (by rw [List.getElem?_eq_getElem hk, e])
theorem cuts_at {l : List UInt8} {o : Nat} (h : Lib.indexByte l 46 = o) : o < l.length ∧ Cuts l (l.take o) (l.drop (o + 1)) := by
  obtain ⟨h1, h2⟩ := Lib.indexByte_some h
  obtain ⟨ho, he⟩ := List.getElem?_eq_some_iff.1 h1
  refine ⟨ho, .inr ⟨?_, fun hm => ?_⟩⟩
  · conv => lhs; rw [← List.take_append_drop o l, List.drop_eq_getElem_cons ho, he]
  · obtain ⟨k, hk, e⟩ := List.mem_iff_getElem.1 hm
    rw [List.length_take] at hk
    rw [List.getElem_take] at e
    exact h2 k (by omega) (by rw [List.getElem?_eq_getElem (by omega), e])

set_option maxRecDepth 100000 in
theorem cut2_any (l : List UInt8) (w : World) (hlen : l.length ≤ 1000000) :
    Calls Tryz.prog 78 #[.string ⟨l.toArray⟩, .string ⟨#[46]⟩] w fun e w' => ∃ x y b, e = .returned (.tuple #[.string ⟨x.toArray⟩, .string ⟨y.toArray⟩, .bool b]) ∧ Cuts l x y ∧ ∃ n, w' = w.drewN n := by
  have HI := Lib.hid (Tryz.stringslite_Index_one ⟨l.toArray⟩ 46 w)
  have hge := Lib.indexByte_ge l 46
  have hS := ba_size l
  by_cases h : Lib.indexByte l 46 = -1
  · have HC := Lib.hid (cuts_no h)
    have h' : Lib.indexByte ((⟨l.toArray⟩ : ByteArray).data.toList) 46 = -1 := h
    rw [h'] at HI
    clear h h' hge hlen hS
    generalize hs : (⟨l.toArray⟩ : ByteArray) = S at *
    have Hs := Lib.hid hs
    clear hs
    go_enter Tryz.func78, Tryz.ntmps78
    go_wp2_with fail
    refine HI.out.mono ?_
    rintro e w2 ⟨rfl, rfl⟩
    go_wp2_with fail
    go_ret3
    rw [← Hs.out]
    exact ⟨l, [], false, rfl, HC.out, 0, rfl⟩
  · obtain ⟨o, ho⟩ : ∃ o : Nat, Lib.indexByte l 46 = o := ⟨(Lib.indexByte l 46).toNat, by omega⟩
    obtain ⟨hlt, hc⟩ := cuts_at ho
    have HC := Lib.hid hc
    have h' : Lib.indexByte ((⟨l.toArray⟩ : ByteArray).data.toList) 46 = o := ho
    rw [h'] at HI
    have e1 : (⟨l.toArray⟩ : ByteArray).extract 0 o = ⟨(l.take o).toArray⟩ := ba_ext (by rw [Lib.extract_data]; simp)
    have e2 : (⟨l.toArray⟩ : ByteArray).extract (o + 1) (⟨l.toArray⟩ : ByteArray).size = ⟨(l.drop (o + 1)).toArray⟩ := ba_ext (by rw [Lib.extract_data, hS]; simp; exact List.take_of_length_le (by rw [List.length_drop]; omega))
    have He1 := Lib.hid e1
    have He2 := Lib.hid e2
    have c2 : (o : Int) ≤ ((⟨l.toArray⟩ : ByteArray).size : Int) := by omega
    have c4 : (o : Int) + 1 ≤ ((⟨l.toArray⟩ : ByteArray).size : Int) := by omega
    have c5 : (o : Int) ≤ 1000000 := by omega
    clear h h' hge hS hc e1 e2 ho hlen hlt
    generalize (⟨l.toArray⟩ : ByteArray) = S at *
    go_enter Tryz.func78, Tryz.ntmps78
    go_wp2_with fail
    refine HI.out.mono ?_
    rintro e w2 ⟨rfl, rfl⟩
    go_wp2_with fail
    go_quiet (fail)
    go_wp2_with fail
    go_ret3
    rw [He1.out, He2.out]
    exact ⟨_, _, true, rfl, HC.out, nq, rfl⟩
set_option maxRecDepth 100000 in
theorem cut_any (l : List UInt8) (w : World) (hlen : l.length ≤ 1000000) :
    Calls Tryz.prog 63 #[.string ⟨l.toArray⟩, .string ⟨#[46]⟩] w fun e w' => ∃ x y b, e = .returned (.tuple #[.string ⟨x.toArray⟩, .string ⟨y.toArray⟩, .bool b]) ∧ Cuts l x y ∧ ∃ n, w' = w.drewN n := by
  have HC := Lib.hid (cut2_any l w hlen)
  clear hlen
  generalize hs : (⟨l.toArray⟩ : ByteArray) = S at *
  clear hs
  go_enter Tryz.func63, Tryz.ntmps63
  go_wp2_with fail
  refine HC.out.mono ?_
  rintro e w2 ⟨x, y, b, rfl, hc, n, rfl⟩
  have HC2 := Lib.hid hc
  clear hc HC
  generalize hx : (⟨x.toArray⟩ : ByteArray) = X
  generalize hy : (⟨y.toArray⟩ : ByteArray) = Y
  have Hx := Lib.hid hx
  have Hy := Lib.hid hy
  clear hx hy
  go_wp2_with fail
  go_ret3
  exact ⟨x, y, b, by rw [Hx.out, Hy.out]; rfl, HC2.out, n, rfl⟩

/-- The number that a text is read as, and 0 if there is none. -/
def numD (l : List UInt8) : Int := match Lib.atoiAll l with | .ok v => v | _ => 0
theorem bel_bytesWorld (w : World) (e : TypeId) (t : ByteArray) : Below w.heap.size w (Lib.bytesWorld w e t) := by
  unfold Lib.bytesWorld
  have h := ((Below.refl w.heap.size w).drew).alloc (Nat.le_refl _) (.cells (Lib.bytesCells w e t) e)
  refine h.trans ⟨rfl, rfl, rfl, ?_, fun b hb => ?_⟩
  · unfold World.freeze; simp
  · unfold World.freeze
    show (Array.modify _ _ _)[b]? = _
    rw [Array.getElem?_modify, if_neg (by show ¬ w.heap.size = b; omega)]
set_option maxRecDepth 100000 in
theorem number_any (l : List UInt8) (w : World) (hL : Ld w) (hlen : l.length ≤ 1000000) :
    Calls Tryz.prog 64 #[.string ⟨l.toArray⟩] w fun e w' => e = .returned (.int .i64 (numD l)) ∧ Below w.heap.size w w' := by
  obtain ⟨-, ⟨ev, hv, hev⟩, ⟨ev2, hv2, hev2⟩⟩ := hL
  have hsz := ba_size l
  unfold numD
  rcases h : Lib.atoiAll l with v | _ | _
  · have HC := Lib.hid (Tryz.strconv_Atoi_ok ⟨l.toArray⟩ (by omega) v h w)
    clear hv hev hv2 hev2 hsz h
    generalize (⟨l.toArray⟩ : ByteArray) = S at *
    go_enter Tryz.func64, Tryz.ntmps64
    go_wp2_with fail
    refine HC.out.mono ?_
    rintro e w2 ⟨rfl, hw⟩
    have HB : Hid (Below w.heap.size w w2) := by
      rcases hw with rfl | ⟨t, rfl⟩
      · exact Below.refl _ _
      · exact bel_bytesWorld w _ t
    clear hw HC
    go_wp2_with fail
    go_ret
    exact ⟨rfl, HB.out⟩
  · have HC : Hid (Calls Tryz.prog 55 #[.string ⟨l.toArray⟩] w fun e w' => ∃ N, e = .returned (.tuple #[.int .i64 0, .iface 102 (.pointer (some ⟨N, 0, none⟩))]) ∧ Below w.heap.size w w') :=
      (Any.strconv_Atoi_syntax Tryz.laysC172 ⟨l.toArray⟩ (by omega) h ev w hv hev).mono fun _ _ ⟨N, h1, _, _, h4⟩ => ⟨N, h1, h4⟩
    clear hv hev hv2 hev2 hsz h
    generalize (⟨l.toArray⟩ : ByteArray) = S at *
    go_enter Tryz.func64, Tryz.ntmps64
    go_wp2_with fail
    refine HC.out.mono ?_
    rintro e w2 ⟨N, rfl, hb⟩
    have HB := Lib.hid hb
    clear hb HC
    go_wp2_with fail
    go_ret
    exact ⟨rfl, HB.out⟩
  · have HC := Lib.hid (Tryz.strconv_Atoi_range ⟨l.toArray⟩ (by omega) h ev2 w hv2 hev2)
    clear hv hev hv2 hev2 hsz h
    generalize (⟨l.toArray⟩ : ByteArray) = S at *
    generalize Lib.atoiSat _ = z at HC
    go_enter Tryz.func64, Tryz.ntmps64
    go_wp2_with fail
    refine HC.out.mono ?_
    rintro e w2 ⟨N, rfl, -, -, hb⟩
    have HB := Lib.hid hb
    clear hb HC
    go_wp2_with fail
    go_ret
    exact ⟨rfl, HB.out⟩
end Go.Proofs.YtmmcnpcijeahcabGreatDoor.D
