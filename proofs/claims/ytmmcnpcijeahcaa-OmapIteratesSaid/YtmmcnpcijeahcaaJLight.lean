/-
  The law's light; maps beside each other.
-/
import Derived.Test.YtmmcnpcijeahcaaJKnown
import Derived.Test.YtmmcnpcijeahcaaJActs
import Derived.Test.YtmmcnpcijeahcaaJPure2
namespace Go.Proofs.Ytmmcnpcijeahcaa.J
set_option linter.unusedVariables false
open Go.RowKit V Go.Shelf

/-- What light asks of a call. -/
def okA (x : Ac) : Prop := x.2.2.size ≤ 100 ∧ x.2.1 ≤ 4611686018427387904 ∧ -4611686018427387904 ≤ x.2.1
/-- What light returns, and what it means. -/
def LightQ (l : List Ac) (w : World) (e : Ending) (w' : World) : Prop := ∃ bb, e = .returned (.bool bb) ∧ w' = w ∧ (bb = true → l.length ≤ 60 ∧ ∀ x ∈ l, okA x)
set_option maxRecDepth 100000 in
set_option maxHeartbeats 1000000 in
theorem light_any (l : List Ac) (a : Option Addr) (c : Nat) (w : World) (hx : RowA w a l) (hl : l.length ≤ 9223372036854775807) :
    Calls Try.prog 8 #[.slice a l.length c] w fun e w' => LightQ l w e w' := by
  have HX := Lib.hid hx
  have hli : (l.length : Int) ≤ 9223372036854775807 := by omega
  clear hx hl
  go_enter Try.func8, Try.ntmps8
  go_wp2_with fail
  go_loop [3] (fun i => ∃ k : Nat, k ≤ l.length ∧ k ≤ 61 ∧ i = .int .i64 k ∧ Hid (∀ j (hj : j < l.length), j < k → okA l[j])) (fun i => 61 - (intOf i).toNat)
  case atStart => exact ⟨0, Nat.zero_le _, by omega, rfl, fun j _ h => by omega⟩
  case round =>
    obtain ⟨k, hk, hk2, rfl, hh⟩ := hrel
    by_cases hlt : k < l.length
    · by_cases hlt2 : k < 61
      · obtain ⟨b, o, rfl, c0, c1, c2⟩ := HX.out.get k hlt
        obtain ⟨x, hx⟩ : ∃ x, x = l[k] := ⟨_, rfl⟩
        rw [← hx] at c0 c1 c2
        have HXk := Lib.hid hx
        clear hx
        obtain ⟨x0, x1, x2⟩ := x
        have hki : (k : Int) < (l.length : Int) := by omega
        have hk61 : (k : Int) < 61 := by omega
        have hk0 : (k : Int) ≤ 61 := by omega
        simp only at c0 c1 c2
        by_cases h1 : (100 : Int) < (x2.size : Int)
        · go_wp2_with fail
          go_ret
          exact ⟨false, rfl, rfl, fun h => by cases h⟩
        · by_cases h2 : (4611686018427387904 : Int) < x1
          · go_wp2_with fail
            go_ret
            exact ⟨false, rfl, rfl, fun h => by cases h⟩
          · by_cases h3 : x1 < (-4611686018427387904 : Int)
            · go_wp2_with fail
              go_ret
              exact ⟨false, rfl, rfl, fun h => by cases h⟩
            · go_wp2_with fail
              go_round
              case rel =>
                refine ⟨k + 1, by omega, by omega, by go_num, fun j hj hjk => ?_⟩
                by_cases hjk2 : j = k
                · subst hjk2; rw [← HXk.out]; exact ⟨by simp only; omega, by simp only; omega, by simp only; omega⟩
                · exact hh.out j hj (by omega)
              case measure => simp [intOf]; omega
      · have hk61 : ¬ (k : Int) < 61 := by omega
        have hki : (k : Int) < (l.length : Int) := by omega
        have hl60 : ¬ (l.length : Int) ≤ 60 := by omega
        go_wp2_with fail
        go_ret
        exact ⟨_, rfl, rfl, fun h => by simp at h <;> omega⟩
    · have hki : ¬ (k : Int) < (l.length : Int) := by omega
      obtain rfl : k = l.length := by omega
      go_wp2_with fail
      go_ret
      refine ⟨_, rfl, rfl, fun h => ⟨by simp at h; omega, fun x hx => ?_⟩⟩
      obtain ⟨j, hj, rfl⟩ := List.mem_iff_getElem.1 hx
      exact hh.out j hj hj
/-- One map is written, another one stays. -/
theorem Mp.gb {w w' : World} {g h : Nat} {d d' : Bool} {L M : List Pr} (hm : Mp w g d L) (hg : w.grownBy w' (some h)) (hh : Mp w h d' M) (hne : g ≠ h) : Mp w' g d L := by
  have hlt := hm.lt
  obtain ⟨T, h1, h2, h3, h4, h5, h6⟩ := hm
  obtain ⟨_, _, _, _, hh4, _⟩ := hh
  have e := hg.block g hlt (by simpa using hne)
  exact ⟨T, ⟨(World.cell?_of_block (w := w) e).trans h1.1, (World.cell?_of_block (w := w) e).trans h1.2⟩, h2.gb hg (Tr.on_ne hh4 h2), h3, (World.cell?_of_block (w := w) e).trans h4, fun o => by rw [← h5 o]; simp only [World.frozen?, e], h6⟩
theorem Mp.srt {w : World} {g : Nat} {d : Bool} {L : List Pr} (hm : Mp w g d L) : Srt d L := by
  obtain ⟨T, h1, h2, h3, h4, h5, h6, h7⟩ := hm
  exact h6
end Go.Proofs.Ytmmcnpcijeahcaa.J
