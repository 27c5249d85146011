/-
  Rows of states; the library's Grow and Concat at states; package join: All.
-/
import Derived.Test.YtmdebedkljpagaaJnI
namespace Go.Proofs.Ytmdebedkljpagaa.Jn
set_option linter.unusedVariables false
open Go.RowKit V Go.Sort D Nd Qs
attribute [local irreducible] Sch.heldN Sch.stepV Sch.stepE

/-- A state and the slice that it lies in. -/
abbrev S3 := List Nt × Option Addr × Nat
/-- The cells behind an address hold the slices of states. -/
def RowL (w : World) (a : Option Addr) (S : List S3) : Prop :=
  S = [] ∨ ∃ b o, a = some ⟨b, o, none⟩ ∧ ∀ i (h : i < S.length), w.cell? ⟨b, o + i, none⟩ = some (.slice S[i].2.1 S[i].1.length S[i].2.2)
theorem RowL.keep {w w' : World} {a : Option Addr} {S : List S3} (h : RowL w a S) (hb : Below w.heap.size w w') : RowL w' a S := by
  rcases h with h | ⟨b, o, e, h⟩
  · exact .inl h
  · exact .inr ⟨b, o, e, fun i hi => (hb.cell (p := ⟨b, _, none⟩) (lt_of_cell (h i hi))).trans (h i hi)⟩
theorem RowL.get {w : World} {a : Option Addr} {S : List S3} (h : RowL w a S) (k : Nat) (hk : k < S.length) : ∃ b o, a = some ⟨b, o, none⟩ ∧ w.cell? ⟨b, o + k, none⟩ = some (.slice S[k].2.1 S[k].1.length S[k].2.2) := by
  rcases h with rfl | ⟨b, o, e, h⟩
  · simp at hk
  · exact ⟨b, o, e, h k hk⟩
/-- Each of the states lies where its slice says. -/
def AllL (w : World) (S : List S3) : Prop := ∀ x ∈ S, Sl w x.2.1 x.1.length x.2.2 x.1
theorem AllL.keep {w w' : World} {S : List S3} (h : AllL w S) (hb : Below w.heap.size w w') : AllL w' S := fun x hx => (h x hx).keep hb
theorem ixL (b o n c k : Nat) (z : Int) (hz : z = (k : Int)) (hk : k < n) : ∀ w, (Instr.indexAt 35 (.slice (some ⟨b, o, none⟩) n c) (.int .i64 z)).run Try.prog w = .ok (.pointer (some ⟨b, o + k, none⟩)) w := by
  intro w
  subst hz
  have hk2 : (k : Int) < (n : Int) := by omega
  go_simp
/-- All nodes of some states. -/
def catS (S : List S3) : List Nt := (S.map (·.1)).flatten
theorem cat_take {S : List S3} {k : Nat} (hk : k < S.length) : catS (S.take (k + 1)) = catS (S.take k) ++ S[k].1 := by
  unfold catS
  rw [List.take_succ_eq_append_getElem hk, List.map_append, List.flatten_append]
  simp
theorem cat_len (S : List S3) (k : Nat) : (catS (S.take k)).length ≤ (catS S).length := by
  have e : catS S = catS (S.take k) ++ catS (S.drop k) := by
    unfold catS
    rw [← List.flatten_append, ← List.map_append, List.take_append_drop]
  rw [e, List.length_append]
  omega

theorem run_grS (n : Nat) (h0 : 0 < n) (h : n ≤ 2000000) (ty : TypeId) (w : World) :
    ∃ c w', (Builtin.append_ #[23, 3] ty #[.slice none 0 0, .int .i64 (n : Int)]).run Try.prog w = .ok (.slice (some ⟨w.heap.size, 0, none⟩) n c) w' ∧ n ≤ c ∧ ON w' w.heap.size Qs.E (.slice (some ⟨w.heap.size, 0, none⟩) 0 c) [] ∧ Below w.heap.size w w' := by
  obtain ⟨i, hi, hz0, hz1, hz2⟩ := G.info_of infoN
  have hr := Lib.run_append_nil_zeros (P := Try.prog) w 23 3 ty 44 i zeroNv .i64 .i64 Try.underlying23 Try.underlying3 hi hz0 n h0 (by rw [hz1]; omega) (by omega) (by rw [hz2]; omega)
  have hge := grownCap_ge w n 0 44
  have hle := grownCap_le_maxLen w n 0 44 (by unfold maxLen; omega)
  refine ⟨_, _, hr, hge, ?_, ((Below.refl _ _).drew).alloc (Nat.le_refl _) _⟩
  exact World.ownsRow_made (base := w.heap.size) (size := 6) (e := 44) w.drew _ (grownCap w n 0 44) (Nat.le_refl _) hle (by simp [Builtin.zeroCells, Value.cells]; omega)

set_option maxRecDepth 100000 in
set_option maxHeartbeats 1000000 in
theorem growS_nil (n : Nat) (h : n ≤ 2000000) (w : World) :
    Calls Try.prog 57 #[.slice none 0 0, .int .i64 (n : Int)] w fun e w' => ∃ v, e = .returned v ∧ ON w' w.heap.size Qs.E v [] ∧ Below w.heap.size w w' := by
  have HN := Lib.hid h
  rcases Nat.eq_zero_or_pos n with rfl | h0
  · clear h
    go_enter Try.func57, Try.ntmps57
    go_wp2_with fail
    go_ret
    exact ⟨_, rfl, ON.nil _ _ _, Below.refl _ _⟩
  · have H0 := Lib.hid h0
    have hn0 : ¬ (n : Int) < 0 := by omega
    have hp : (0 : Int) < (n : Int) := by omega
    have hn2 : (n : Int) ≤ 2000000 := by omega
    obtain ⟨c1, w1, hr, hc1, hO, hB⟩ := run_grS n h0 h 23 w
    have HO := Lib.hid hO
    have HB := Lib.hid hB
    clear h h0 hO hB
    have HR := Lib.hid hr
    clear hr
    go_enter Try.func57, Try.ntmps57
    go_wp2_with (at_builtin; refine Lib.wpList_append_run _ rfl _ _ _ _ rfl _ _ rfl rfl _ _ HR.out ?_)
    go_ret
    exact ⟨_, rfl, HO.out, HB.out⟩


set_option maxRecDepth 100000 in
set_option maxHeartbeats 2000000 in
theorem concat_any (S : List S3) (a : Option Addr) (c : Nat) (w : World) (hS : RowL w a S) (hA : AllL w S) (hn : S.length ≤ 1000000) (hlen : (catS S).length ≤ 1000000) :
    Calls Try.prog 47 #[.slice a S.length c] w fun e w' => ∃ v, e = .returned v ∧ ON w' w.heap.size 44 v (catS S) ∧ Below w.heap.size w w' := by
  have HS := Lib.hid hS
  have HA := Lib.hid hA
  have HLn := Lib.hid hlen
  have hli : (S.length : Int) ≤ 1000000 := by omega
  have HG := Lib.hid (growS_nil (catS S).length (by omega) w)
  clear hS hA hn hlen
  go_enter Try.func47, Try.ntmps47
  go_wp2_with fail
  go_loop [3, 5, 11, 21] (fun sz _ i _ => ∃ k : Nat, k ≤ S.length ∧ i = .int .i64 (k : Int) ∧ sz = .int .i64 ((catS (S.take k)).length : Int)) (fun _ _ i _ => S.length - (intOf i).toNat)
  case atStart => exact ⟨0, Nat.zero_le _, rfl, rfl⟩
  case round =>
    obtain ⟨k, hk, rfl, rfl⟩ := hrel
    by_cases hlt : k < S.length
    · have hi0 : (k : Int) < (S.length : Int) := by omega
      obtain ⟨b1, o1, rfl, hc⟩ := HS.out.get k hlt
      have hix := ixL b1 o1 S.length c k (k : Int) rfl hlt
      have HT : Hid ((catS (S.take (k + 1))).length = (catS (S.take k)).length + S[k].1.length) := by show _ = _; rw [cat_take hlt, List.length_append]
      have HL : Hid ((catS (S.take (k + 1))).length ≤ 1000000) := Nat.le_trans (cat_len S (k + 1)) HLn.out
      obtain ⟨p, hp⟩ : ∃ p, p = S[k] := ⟨_, rfl⟩
      rw [← hp] at hc HT
      clear hp
      obtain ⟨t, ht⟩ : ∃ t, t = (catS (S.take k)).length := ⟨_, rfl⟩
      obtain ⟨u, hu⟩ : ∃ u, u = (catS (S.take (k + 1))).length := ⟨_, rfl⟩
      rw [← ht] at HT ⊢
      rw [← hu] at HT HL
      have HU := Lib.hid hu
      obtain ⟨pl, pa, pc⟩ := p
      obtain ⟨m, hm⟩ : ∃ m, m = pl.length := ⟨_, rfl⟩
      simp only at hc HT
      rw [← hm] at hc HT
      have hw : IntKind.i64.wrap ((t : Int) + (m : Int)) = (t : Int) + (m : Int) := by
        have := wrap_nat (show ((t + m : Nat) : Int) ≤ 140737488355328 by have := HT.out; have := HL.out; omega)
        rwa [Int.natCast_add] at this
      have hneg : ¬ (t : Int) + (m : Int) < 0 := by omega
      have hsz : ((t : Int) + (m : Int)) = (u : Int) := by have := HT.out; omega
      have HSZ := Lib.hid hsz
      clear ht hu hm hsz
      go_wp2_with fail
      go_round
      case rel => exact ⟨k + 1, by omega, by go_num, by rw [← HU.out, ← HSZ.out]⟩
      case measure => simp [intOf]; omega
    · obtain rfl : k = S.length := by omega
      have hend : ¬ (S.length : Int) < (S.length : Int) := by omega
      rw [List.take_length]
      go_wp2_with fail
      refine HG.out.mono ?_
      rintro e w1 ⟨v, rfl, ho, hb⟩
      have HO : Hid (ON w1 w.heap.size 44 v (catS (S.take 0))) := ho
      have HBe := Lib.hid hb
      clear ho hb HG
      go_wp2_with fail
      go_loopw [6, 8, 27] (fun v x i wr => ∃ k : Nat, k ≤ S.length ∧ i = .int .i64 (k : Int) ∧ Hid (Below w.heap.size w wr) ∧ Hid (ON wr w.heap.size 44 v (catS (S.take k)))) (fun _ _ i _ => S.length - (intOf i).toNat)
      case atStart => exact ⟨0, Nat.zero_le _, rfl, HBe, HO⟩
      case round =>
        clear HBe HO
        obtain ⟨k, hk2, rfl, HBe, HO⟩ := hrel
        by_cases hlt2 : k < S.length
        · have hi0 : (k : Int) < (S.length : Int) := by omega
          obtain ⟨b1, o1, rfl, hc⟩ := (HS.out.keep HBe.out).get k hlt2
          have hix := ixL b1 o1 S.length c k (k : Int) rfl hlt2
          have HT := Lib.hid (cat_take hlt2)
          have HL : Hid ((catS (S.take (k + 1))).length ≤ 1000000) := Nat.le_trans (cat_len S (k + 1)) HLn.out
          have HP := Lib.hid ((HA.out S[k] (List.getElem_mem hlt2)).keep HBe.out)
          obtain ⟨p, hp⟩ : ∃ p, p = S[k] := ⟨_, rfl⟩
          rw [← hp] at hc HT HP
          clear hp
          rw [HT.out] at HL
          generalize catS (S.take k) = Z at *
          obtain ⟨pl, pa, pc⟩ := p
          simp only at hc HT HP HL
          go_wp2_with (at_builtin; refine wpList_appN rfl _ _ _ rfl Try.underlying23 infoN _ Z rfl HO.out pa pl pc _ rfl rfl HP.out.r HP.out.z (by have := HL.out; rw [List.length_append] at this; omega) HBe.out.size ?_)
          intro v' w' ho hg _
          have HO2 : Hid (ON w' w.heap.size 44 v' (catS (S.take (k + 1)))) := by rw [HT.out]; exact ho
          have HB2 := Lib.hid (HBe.out.grown hg HBe.out.size (fun k hk => (HO.out.lt k hk).1))
          clear ho hg
          go_wp2_with fail
          go_roundw
          case rel => exact ⟨k + 1, by omega, by go_num, HB2, HO2⟩
          case measure => simp [intOf]; omega
        · obtain rfl : k = S.length := by omega
          rw [List.take_length] at HO
          go_wp2_with fail
          go_ret
          exact ⟨_, rfl, HO.out, HBe.out⟩
set_option maxRecDepth 100000 in
set_option maxHeartbeats 2000000 in
theorem all_any (S : List S3) (a : Option Addr) (c : Nat) (w : World) (hS : RowL w a S) (hA : AllL w S) (hn : S.length ≤ 1000) (hlen : (catS S).length ≤ 100000) (hf : ∀ x ∈ catS S, fitN x) :
    Calls Try.prog 36 #[.slice a S.length c] w fun e w' => ∃ v, e = .returned (.tuple #[v, .int .i64 (allS (S.map (·.1))).2]) ∧ ON w' w.heap.size 44 v (allS (S.map (·.1))).1 ∧ Below w.heap.size w w' := by
  have HS := Lib.hid hS
  have HA := Lib.hid hA
  have HLn := Lib.hid hlen
  have hli : (S.length : Int) ≤ 1000 := by omega
  have HC := Lib.hid (fun w h1 h2 => concat_any S a c w h1 h2 (by omega) (by omega))
  have HO := Lib.hid (fun aX cX w h => of_prog (catS S) aX cX w hf h hlen)
  have HE : Hid ((∀ k (hk : k < S.length), validS S[k].1 = false → allS (S.map (·.1)) = ([], 2)) ∧ ((∀ k (hk : k < S.length), validS S[k].1 = true) → allS (S.map (·.1)) = ofN (catS S))) := by
    unfold allS
    constructor
    · intro k hk h
      rw [if_neg]
      intro h2
      rw [List.all_eq_true] at h2
      have := h2 S[k].1 (List.mem_map.2 ⟨S[k], List.getElem_mem hk, rfl⟩)
      rw [h] at this
      cases this
    · intro h
      rw [if_pos]
      · rfl
      · rw [List.all_eq_true]
        intro x hx
        obtain ⟨y, hy, rfl⟩ := List.mem_map.1 hx
        obtain ⟨k, hk, rfl⟩ := List.getElem_of_mem hy
        exact h k hk
  clear hS hA hn hlen hf
  generalize allS (S.map (·.1)) = R0 at *
  go_enter Try.func36, Try.ntmps36
  go_wp2_with fail
  go_loopw [5, 8] (fun _ i wr => ∃ k : Nat, k ≤ S.length ∧ i = .int .i64 (k : Int) ∧ Hid (Below w.heap.size w wr) ∧ Hid (∀ j (hj : j < S.length), j < k → validS S[j].1 = true)) (fun _ i _ => S.length - (intOf i).toNat)
  case atStart => exact ⟨0, Nat.zero_le _, rfl, Below.refl _ _, fun j _ h => by omega⟩
  case round =>
    obtain ⟨k, hk, rfl, HB, HV⟩ := hrel
    by_cases hlt : k < S.length
    · have hi0 : (k : Int) < (S.length : Int) := by omega
      obtain ⟨b1, o1, rfl, hc⟩ := (HS.out.keep HB.out).get k hlt
      have hix := ixL b1 o1 S.length c k (k : Int) rfl hlt
      have HP := Lib.hid ((HA.out S[k] (List.getElem_mem hlt)).keep HB.out)
      have HL : Hid (S[k].1.length ≤ 1000000) := by
        have h1 := cat_take hlt
        have h2 := cat_len S (k + 1)
        rw [h1, List.length_append] at h2
        have := HLn.out
        show _ ≤ _
        omega
      have HN := Lib.hid (HE.out.1 k hlt)
      have HVk : Hid (validS S[k].1 = true → ∀ j (hj : j < S.length), j < k + 1 → validS S[j].1 = true) := fun h j hj hjk => by
        by_cases e : j = k
        · subst e; exact h
        · exact HV.out j hj (by omega)
      obtain ⟨p, hp⟩ : ∃ p, p = S[k] := ⟨_, rfl⟩
      rw [← hp] at hc HP HL HN HVk
      clear hp
      obtain ⟨pl, pa, pc⟩ := p
      simp only at hc HP HL HN HVk
      have HJ := Lib.hid (jvalid_any pl pa pc wr HP.out.r HL.out)
      obtain ⟨q, hq⟩ : ∃ q, q = validS pl := ⟨_, rfl⟩
      rw [← hq] at HN HVk HJ
      clear hq
      go_wp2_with fail
      refine HJ.out.mono ?_
      rintro e w2 ⟨rfl, hb⟩
      have HB2 := bel_tr HB hb
      clear hb HJ
      rcases q with _ | _
      · have HN2 := Lib.hid (HN.out rfl)
        go_wp2_with fail
        go_ret2
        rw [HN2.out]
        exact ⟨.slice none 0 0, rfl, ON.nil _ _ _, HB2.out⟩
      · have HV2 := Lib.hid (HVk.out rfl)
        go_wp2_with fail
        go_roundw
        case rel => exact ⟨k + 1, by omega, by go_num, HB2, HV2⟩
        case measure => simp [intOf]; omega
    · have hend : ¬ (k : Int) < (S.length : Int) := by omega
      have HR := Lib.hid (HE.out.2 fun j hj => HV.out j hj (by omega))
      have HSr := Lib.hid (HS.out.keep HB.out)
      have HAr := Lib.hid (HA.out.keep HB.out)
      clear HE HV
      go_wp2_with fail
      refine (HC.out _ HSr.out HAr.out).mono ?_
      rintro e w2 ⟨v2, rfl, ho, hb⟩
      obtain ⟨a2, c2, rfl, hr, -⟩ := ON.row ho
      have HR2 := Lib.hid hr
      have HB2 := bel_tr HB hb
      clear ho hb hr HC
      go_wp2_with fail
      refine (HO.out a2 c2 _ HR2.out).mono ?_
      rintro e w3 ⟨v3, rfl, ho, hb⟩
      have HB3 := bel_tr HB2 hb
      have HO3 := Lib.hid (ho.mono fun x hx => Nat.le_trans HB2.out.size (ho.lt x hx).1)
      clear ho hb HO
      go_wp2_with fail
      go_ret2
      rw [HR.out]
      exact ⟨v3, rfl, HO3.out, HB3.out⟩
end Go.Proofs.Ytmdebedkljpagaa.Jn
