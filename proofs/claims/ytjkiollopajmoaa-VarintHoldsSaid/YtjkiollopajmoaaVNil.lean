/-
  VarintNil: every input gives true. The readers that are nil or zero, and the writers that are nil, return what the chapter says.
-/
import Derived.Test.YtjkiollopajmoaaVKnown
namespace Go.Proofs.Ytjkiollopajmoaa.V
set_option linter.unusedVariables false
open Go.RowKit

/-- A slice of integers that came in: nil, or a row of numbers that fit their kind. -/
def IsRow (k : IntKind) (w : World) (a : Option Addr) (len cap : Nat) (zs : List Int) : Prop :=
  (a = none ∧ len = 0 ∧ cap = 0 ∧ zs = []) ∨
  ∃ x, a = some x ∧ len ≤ cap ∧ cap ≤ maxLen ∧ zs.length = cap ∧ (∀ i, i < zs.length → w.cell? (x.add i) = some (.int k (zs.getD i 0))) ∧ ∀ n ∈ zs, (Lit.int k n).wf = true

theorem isRow_len {k : IntKind} {w : World} {a : Option Addr} {len cap : Nat} {zs : List Int} (h : IsRow k w a len cap zs) : len ≤ 9223372036854775807 ∧ (a = none → cap = 0) ∧ len ≤ zs.length := by
  rcases h with ⟨rfl, rfl, rfl, rfl⟩ | ⟨x, rfl, hl, hm, hz, _⟩
  · exact ⟨by omega, fun _ => rfl, by simp⟩
  · unfold maxLen at hm
    exact ⟨by omega, (fun h => by cases h), by omega⟩

/-- Its cells, where there are any. -/
theorem isRow_cells {k : IntKind} {w : World} {a : Option Addr} {len cap : Nat} {zs : List Int} (h : IsRow k w a len cap zs) : RowV w a ((zs.take len).map (Value.int k)) := by
  by_cases h0 : len = 0
  · subst h0; exact .inl (by simp)
  · rcases h with ⟨rfl, rfl, rfl, rfl⟩ | ⟨x, rfl, hl, hm, hz, hcell, hwz⟩
    · exact .inl (by simp)
    · obtain ⟨b, off, spot⟩ := x
      have hc := hcell 0 (by omega)
      have hspot : spot = none := by simpa [Addr.add] using World.cell?_spot hc
      subst hspot
      refine .inr ⟨b, off, rfl, fun i hi => ?_⟩
      have hi' : i < zs.length := by simp at hi; omega
      have := hcell i hi'
      have e2 : (⟨b, off, none⟩ : Addr).add i = ⟨b, off + i, none⟩ := by unfold Addr.add; split <;> simp_all
      rw [e2] at this
      rw [this]
      simp [hi']

/-- A slice of bytes. -/
theorem isRow_bytes {w : World} {a : Option Addr} {len cap : Nat} {zs : List Int} (h : IsRow .u8 w a len cap zs) : ∃ l : List UInt8, l.length = len ∧ Row8 w a l := by
  have hc := isRow_cells h
  have hl := (isRow_len h).2.2
  have hwz : ∀ n ∈ zs, (Lit.int .u8 n).wf = true := by
    rcases h with ⟨_, _, _, rfl⟩ | ⟨x, _, _, _, _, _, hwz⟩
    · simp
    · exact hwz
  refine ⟨(zs.take len).map (fun z => UInt8.ofNat z.toNat), by simp; omega, ?_⟩
  rcases hc with hc | ⟨b, o, rfl, hc⟩
  · left
    have : zs.take len = [] := List.map_eq_nil_iff.1 hc
    rw [this]; rfl
  · refine .inr ⟨b, o, rfl, fun i hi => ?_⟩
    have hi' : i < (zs.take len).length := by simpa using hi
    have h1 := hc i (by simpa using hi')
    rw [h1]
    have hz : (zs.take len)[i] ∈ zs := List.mem_of_mem_take (List.getElem_mem hi')
    have hb : 0 ≤ (zs.take len)[i] ∧ (zs.take len)[i] ≤ 255 := by simpa [Lit.wf, IntKind.min, IntKind.max, IntKind.signed, IntKind.bits] using hwz _ hz
    simp only [List.getElem_map]
    congr 2
    have : ((UInt8.ofNat ((zs.take len)[i]).toNat).toNat : Int) = (zs.take len)[i] := by
      rw [UInt8.toNat_ofNat']
      omega
    exact this.symm

set_option maxRecDepth 100000 in
set_option maxHeartbeats 4000000 in
theorem nil_walk (n most : Int) (a : Option Addr) (len cap : Nat) (zs : List Int) (w : World) (hn : (Lit.int .u64 n).wf = true) (hm : (Lit.int .i64 most).wf = true) (hb : IsRow .u8 w a len cap zs) :
    Calls Try.prog 7 #[.int .u64 n, .int .i64 most, .slice a len cap] w fun e w' => e = .returned (.bool true) ∧ Below w.heap.size w w' := by
  have hn2 : 0 ≤ n ∧ n ≤ 18446744073709551615 := by simpa [Lit.wf, IntKind.min, IntKind.max, IntKind.signed, IntKind.bits] using hn
  have hm2 : -9223372036854775808 ≤ most ∧ most ≤ 9223372036854775807 := by simpa [Lit.wf, IntKind.min, IntKind.max, IntKind.signed, IntKind.bits] using hm
  obtain ⟨hn3, hn4⟩ := hn2
  obtain ⟨hm3, hm4⟩ := hm2
  obtain ⟨hl1, hl2, _⟩ := isRow_len hb
  clear hn hm hb
  by_cases hlen : 100 < len
  · go_enter Try.func7, Try.ntmps7
    go_wp2_with (go_at_call 20; refine (known_any _).mono ?_; rintro e w' ⟨rfl, hb⟩)
    go_ret
    exact ⟨rfl, hb⟩
  · go_enter Try.func7, Try.ntmps7
    go_wp2
    have hz0 : Zr ((w.alloc (.cells #[.string ⟨#[]⟩, .int .i64 0, .bool false] 64)).alloc (.cells #[.pointer none, .pointer (some ⟨w.heap.size, 0, none⟩)] 28)) (some ⟨w.heap.size, 0, none⟩) := by
      refine .inr ⟨w.heap.size, 64, ⟨#[]⟩, 0, rfl, ?_⟩
      rw [Below.heap_alloc _ _ _ (by simp)]
      show (w.heap.push _)[w.heap.size]? = _
      simp
    have c0 : ((w.alloc (.cells #[.string ⟨#[]⟩, .int .i64 0, .bool false] 64)).alloc (.cells #[.pointer none, .pointer (some ⟨w.heap.size, 0, none⟩)] 28)).cell? ⟨w.heap.size + 1, 0, none⟩ = some (.pointer none) := by
      rw [World.cell?_alloc_at _ _ _ _ (by simp)]; rfl
    have c1 : ((w.alloc (.cells #[.string ⟨#[]⟩, .int .i64 0, .bool false] 64)).alloc (.cells #[.pointer none, .pointer (some ⟨w.heap.size, 0, none⟩)] 28)).cell? ⟨w.heap.size + 1, 1, none⟩ = some (.pointer (some ⟨w.heap.size, 0, none⟩)) := by
      rw [World.cell?_alloc_at _ _ _ _ (by simp)]; rfl
    have hB : Below w.heap.size w ((w.alloc (.cells #[.string ⟨#[]⟩, .int .i64 0, .bool false] 64)).alloc (.cells #[.pointer none, .pointer (some ⟨w.heap.size, 0, none⟩)] 28)) := ((Below.refl w.heap.size w).alloc (Nat.le_refl _) _).alloc (by simp) _
    generalize (w.alloc (.cells #[.string ⟨#[]⟩, .int .i64 0, .bool false] 64)).alloc (.cells #[.pointer none, .pointer (some ⟨w.heap.size, 0, none⟩)] 28) = W at *
    have HZ0 := Lib.hid hz0
    have HB := Lib.hid hB
    clear hz0 hB
    go_loop [21] (fun i => ∃ k : Nat, k ≤ 2 ∧ i = .int .i64 k) (fun i => 2 - (intOf i).toNat)
    case atStart => exact ⟨0, by omega, rfl⟩
    case round =>
      obtain ⟨k, hk, rfl⟩ := hrel
      rcases Nat.lt_or_ge k 2 with hlt | hge
      · rcases Nat.eq_zero_or_pos k with rfl | hpos
        · have HZ : Hid (Zr W none) := Or.inl rfl
          go_wp2_with (first | (go_at_call 16; refine (reads_yes _ _ _ HZ.out).mono ?_; rintro e w' ⟨rfl, rfl⟩) | (go_at_call 18; refine (signed_yes _ _ HZ.out).mono ?_; rintro e w' ⟨rfl, rfl⟩) | (go_at_call 35; refine (hears_yes _ _ _ HZ.out).mono ?_; rintro e w' ⟨rfl, rfl⟩) | (go_at_call 36; refine (takes_yes _ _ _ HZ.out).mono ?_; rintro e w' ⟨rfl, rfl⟩) | (go_at_call 34; refine (left_yes _ _ HZ.out).mono ?_; rintro e w' ⟨rfl, rfl⟩) | (go_at_call 33; refine (at_yes _ _ HZ.out).mono ?_; rintro e w' ⟨rfl, rfl⟩) | (go_at_call 17; refine (end_yes _ _ HZ.out).mono ?_; rintro e w' ⟨rfl, rfl⟩) | (go_at_call 29; refine (copy_yes _ _ HZ.out).mono ?_; rintro e w' ⟨rfl, rfl⟩))
          go_round
          case rel => exact ⟨1, by omega, by go_num⟩
          case measure => simp [intOf]
        · obtain rfl : k = 1 := by omega
          have HZ := HZ0
          go_wp2_with (first | (go_at_call 16; refine (reads_yes _ _ _ HZ.out).mono ?_; rintro e w' ⟨rfl, rfl⟩) | (go_at_call 18; refine (signed_yes _ _ HZ.out).mono ?_; rintro e w' ⟨rfl, rfl⟩) | (go_at_call 35; refine (hears_yes _ _ _ HZ.out).mono ?_; rintro e w' ⟨rfl, rfl⟩) | (go_at_call 36; refine (takes_yes _ _ _ HZ.out).mono ?_; rintro e w' ⟨rfl, rfl⟩) | (go_at_call 34; refine (left_yes _ _ HZ.out).mono ?_; rintro e w' ⟨rfl, rfl⟩) | (go_at_call 33; refine (at_yes _ _ HZ.out).mono ?_; rintro e w' ⟨rfl, rfl⟩) | (go_at_call 17; refine (end_yes _ _ HZ.out).mono ?_; rintro e w' ⟨rfl, rfl⟩) | (go_at_call 29; refine (copy_yes _ _ HZ.out).mono ?_; rintro e w' ⟨rfl, rfl⟩))
          go_round
          case rel => exact ⟨2, by omega, by go_num⟩
          case measure => simp [intOf]
      · obtain rfl : k = 2 := by omega
        go_wp2_with fail
        refine (wnum_nil _ _ _ _).mono ?_
        rintro e w' ⟨rfl, rfl⟩
        go_wp2_with fail
        refine (wint_nil _ _ _ most hm3 hm4 ?_).mono ?_
        · rw [World.cell?_alloc_at _ _ _ _ (by simp)]; rfl
        rintro e w3 ⟨rfl, hb3⟩
        have HB3 := Lib.hid (((HB.out.alloc HB.out.size (.cells #[.int .u64 n] 22)).alloc (by have := HB.out.size; simp; omega) (.cells #[.int .i64 most] 3)).trans (hb3.mono (by have := HB.out.size; simp; omega)))
        clear hb3
        go_wp2_with fail
        refine (wput_nil _ _ _ _ hl1).mono ?_
        rintro e w4 ⟨rfl, hb4⟩
        have HB4 := Lib.hid (HB3.out.trans (hb4.mono HB3.out.size))
        clear hb4
        go_wp2_with fail
        refine (wraw_nil _ _ _ _).mono ?_
        rintro e w' ⟨rfl, rfl⟩
        go_wp2_with fail
        refine (new_any _ none [] 0 (by simp) (.inl rfl)).mono ?_
        rintro e w5 ⟨rfl, hR, hb5⟩
        have hlo := HB4.out.size
        have HB5 := Lib.hid (HB4.out.trans (hb5.mono HB4.out.size))
        have HR := Lib.hid hR
        clear hR hb5
        generalize w4.heap.size = r at *
        go_wp2_with fail
        refine (wlen_nil _).mono ?_
        rintro e w' ⟨rfl, rfl⟩
        go_wp2_with fail
        refine (wbytes_nil _).mono ?_
        rintro e w' ⟨rfl, rfl⟩
        go_wp2_with fail
        refine (end_of _ r _ 0 0 HR.out rfl).mono ?_
        rintro e w6 ⟨rfl, hR, hG⟩
        have HB6 := Lib.hid (below_gb HB5.out hG HB5.out.size hlo)
        have HR6 := Lib.hid hR
        clear hR hG
        go_wp2_with fail
        refine (left_no _ r _ 0 HR6.out).mono ?_
        rintro e w7 ⟨rfl, q, rfl⟩
        have HR7 := Lib.hid (HR6.out.drewN q)
        have HB7 := Lib.hid (below_drewN HB6.out q)
        go_wp2_with fail
        obtain ⟨m, rfl⟩ := Int.eq_ofNat_of_zero_le hn3
        refine (reads_no _ r _ 0 m _ _ _ HR7.out rfl rfl rfl).mono ?_
        rintro e w8 ⟨rfl, _, hG⟩
        have HB8 := Lib.hid (below_gb HB7.out hG HB7.out.size hlo)
        clear hG
        go_wp2_with fail
        refine (known_any _).mono ?_
        rintro e w9 ⟨rfl, hb9⟩
        have HB9 := Lib.hid (HB8.out.trans (hb9.mono HB8.out.size))
        clear hb9
        go_wp2_with fail
        go_ret
        exact ⟨rfl, HB9.out⟩

end Go.Proofs.Ytjkiollopajmoaa.V
