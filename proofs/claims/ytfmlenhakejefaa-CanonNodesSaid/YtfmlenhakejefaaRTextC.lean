/-
  Encode.
-/
import Derived.Test.YtfmlenhakejefaaMRName
import Derived.Laws.Cover4
namespace Go.Proofs.Ytfmlenhakejefaa.R
set_option linter.unusedVariables false
open Go.RowKit V

theorem conv_runes {w : World} {a : Option Addr} {zs : List Int} (h : G.RowI .i32 w a zs) (n : Nat) (hn : n = zs.length) (c : Nat) :
    (convert 85 9 (.slice a n c)).run Try.prog w = .ok (.string (runesBytes zs)) w := by
  subst hn
  rcases a with _ | ad
  · have hz : zs = [] := by
      rcases h with h | ⟨_, _, e, _⟩
      · exact h
      · cases e
    subst hz
    exact run_convert_runes_nil w _ _ _ _ _ Try.underlying85 Try.underlying21 Try.underlying9
  · have := run_convert_runes (P := Try.prog) w 85 9 21 ad zs.length c zs (Nat.le_refl _) Try.underlying85 Try.underlying21 Try.underlying9 (by
      intro j hj
      rcases h with h | ⟨b, o, e, hc⟩
      · rw [h] at hj; simp at hj
      · cases e
        have e2 : (⟨b, o, none⟩ : Addr).add j = ⟨b, o + j, none⟩ := by unfold Addr.add; split <;> simp_all
        rw [e2, hc j hj]
        simp [List.getD, hj])
    rw [List.take_length] at this
    exact this

def nats (zs : List Int) : List Nat := zs.map Int.toNat
theorem nats_ints (rs : List Nat) : nats (ints rs) = rs := by
  induction rs with
  | nil => rfl
  | cons r rs ih => simp only [nats, ints, List.map_cons] at ih ⊢; rw [ih]; rfl
theorem runes_foldl : ∀ (zs : List Int) (s : List UInt8), (∀ z ∈ zs, vld z = true) → zs.foldl (fun r n => r ++ Utf8.encode n) (⟨s.toArray⟩ : ByteArray) = ⟨(s ++ encs (nats zs)).toArray⟩
  | [], s, _ => by simp [nats, encs]
  | z :: zs, s, h => by
    have hz := h z (by simp)
    obtain ⟨n, rfl⟩ := Int.eq_ofNat_of_zero_le (show 0 ≤ z by rw [vld_iff] at hz; omega)
    rw [vld_scal, Bool.and_eq_true] at hz
    rw [List.foldl_cons, utf8_encode hz.1, G.str_app, runes_foldl zs _ (fun x hx => h x (by simp [hx])), List.append_assoc]
    rfl
theorem runes_bytes {zs : List Int} (h : ∀ z ∈ zs, vld z = true) : runesBytes zs = ⟨(encs (nats zs)).toArray⟩ := by
  have := runes_foldl zs [] h
  rw [List.nil_append] at this
  exact this

/-- The bytes of some runes, or the error. -/
def encR (zs : List Int) : List UInt8 × Nat := if ∀ z ∈ zs, vld z = true then (encs (nats zs), 0) else ([], 13)

set_option maxRecDepth 100000 in
set_option maxHeartbeats 1000000 in
theorem encode_any (zs : List Int) (a : Option Addr) (c : Nat) (w : World) (hlen : zs.length ≤ 140737488355328) (h : G.RowI .i32 w a zs) :
    Calls Try.prog 53 #[.slice a zs.length c] w fun e w' => e = .returned (.tuple #[.string ⟨(encR zs).1.toArray⟩, .int .i64 ((encR zs).2 : Int)]) ∧ w = w' := by
  have HR := Lib.hid h
  have hcv := conv_runes h zs.length rfl c
  have HCv := Lib.hid hcv
  clear h hcv
  go_enter Try.func53, Try.ntmps53
  go_wp2_with fail
  go_loop [8] (fun i => ∃ k : Nat, k ≤ zs.length ∧ i = .int .i64 k ∧ Hid (∀ j (hj : j < zs.length), j < k → vld zs[j] = true)) (fun i => zs.length - (intOf i).toNat)
  case atStart => exact ⟨0, Nat.zero_le _, rfl, fun j _ h => by omega⟩
  case round =>
    obtain ⟨k, hk, rfl, HV⟩ := hrel
    by_cases hlt : k < zs.length
    · obtain ⟨z, hz⟩ : ∃ z, z = zs[k] := ⟨_, rfl⟩
      rcases HR.out with he | ⟨b, o, rfl, hc⟩
      · rw [he] at hlt; simp at hlt
      have hcell := hc k hlt
      rw [← hz] at hcell
      have HZ := Lib.hid hz
      clear hc hz
      by_cases hv : vld z = true
      · have HC := Lib.hid (fun wx => valid_yes z wx hv)
        have HV1 := Lib.hid hv
        clear hv
        go_wp2_with (go_at_call 64; refine (HC.out _).mono ?_; rintro e w' ⟨rfl, rfl⟩)
        go_round
        case rel =>
          refine ⟨k + 1, by omega, by go_num, fun j hj hjk => ?_⟩
          by_cases hjk2 : j = k
          · subst hjk2; rw [← HZ.out]; exact HV1.out
          · exact HV.out j hj (by omega)
        case measure => simp [intOf]; omega
      · have hv' : vld z = false := by simpa using hv
        have HC := Lib.hid (fun wx => valid_not z wx hv')
        have HN : Hid (encR zs = ([], 13)) := by
          show _ = _
          unfold encR
          rw [if_neg]
          intro hall
          have := hall z (by rw [HZ.out]; exact List.getElem_mem _)
          rw [hv'] at this; cases this
        clear hv hv'
        go_wp2_with (go_at_call 64; refine (HC.out _).mono ?_; rintro e w' ⟨rfl, rfl⟩)
        go_ret2
        exact ⟨by rw [HN.out]; rfl, rfl⟩
    · obtain rfl : k = zs.length := by omega
      have hall : ∀ z ∈ zs, vld z = true := by
        intro z hz
        obtain ⟨j, hj, rfl⟩ := List.mem_iff_getElem.1 hz
        exact HV.out j hj hj
      have HN : Hid (encR zs = (encs (nats zs), 0)) := by show _ = _; unfold encR; rw [if_pos hall]
      have hcv := HCv.out
      rw [runes_bytes hall] at hcv
      have hend : ¬ (zs.length : Int) < (zs.length : Int) := by omega
      clear hall
      go_wp2_with fail
      go_ret2
      exact ⟨by rw [HN.out]; rfl, rfl⟩
end Go.Proofs.Ytfmlenhakejefaa.R
