/-
  The reference's Parse.
-/
import Derived.Test.YtfemfmppjabdjaaDoorETxtP
namespace Go.Proofs.YtfemfmppjabdjaaDoor.E
set_option linter.unusedVariables false
open Go.RowKit V Go.Sort D

def prsVB (l : List UInt8) : List Dt × Bool := match prsV l with | some v => (v, true) | none => ([], false)
def finV (o : Option (List Dt)) : List Dt × Bool := match o with | none => ([], false) | some v => if validV v = true then (v, true) else ([], false)
theorem prsVB_fin {l : List UInt8} (h : l ≠ [45]) : prsVB l = finV (fL [] [] l) := by
  unfold prsVB prsV finV
  rw [if_neg h]
  cases fL [] [] l with
  | none => rfl
  | some v =>
    simp only
    split
    · rename_i e; split at e
      · rename_i hh; cases e; rw [if_pos hh]
      · cases e
    · rename_i e; split at e
      · cases e
      · rename_i hh; rw [if_neg hh]
theorem cur_next {l : List UInt8} {f k : Nat} (hf : f ≤ k) (hk : k < l.length) : (l.drop f).take (k + 1 - f) = (l.drop f).take (k - f) ++ [l.getD k 0] := by
  rw [show k + 1 - f = (k - f) + 1 by omega, List.take_succ_eq_append_getElem (by rw [List.length_drop]; omega), List.getElem_drop]
  congr 2
  simp [List.getD, show f + (k - f) = k by omega, hk]
theorem cut_str (l : List UInt8) (f k : Nat) (hf : f ≤ k) (hk : k ≤ l.length) : (⟨l.toArray⟩ : ByteArray).extract f k = ⟨((l.drop f).take (k - f)).toArray⟩ := ba_ext (by rw [Lib.extract_data])
theorem prsB_eq (l : List UInt8) : prsB l = match prsD l with | some d => (d, true) | none => ((0, 0), false) := rfl

set_option maxRecDepth 100000 in
set_option maxHeartbeats 4000000 in
theorem parse_ref5 (l : List UInt8) (w : World) (hlen : l.length ≤ 1000) :
    Calls Tryd.prog 29 #[.string ⟨l.toArray⟩] w fun e w' => ∃ v, e = .returned (.tuple #[v, .bool (prsVB l).2]) ∧ SV w' v (prsVB l).1 ∧ Below w.heap.size w w' := by
  have hsz := ba_size l
  by_cases hroot : l = [45]
  · have HE : prsVB l = ([], true) := by unfold prsVB prsV; rw [if_pos hroot]
    have hb : ((⟨l.toArray⟩ : ByteArray).toList == [45]) = true := by rw [hroot]; simp
    clear hroot hlen hsz
    generalize prsVB l = R at *
    subst HE
    generalize (⟨l.toArray⟩ : ByteArray) = S at *
    go_enter Tryd.func29, Tryd.ntmps29
    go_wp2_with fail
    go_ret2
    exact ⟨_, rfl, SV.nil _, Below.refl _ _⟩
  · have hb : ((⟨l.toArray⟩ : ByteArray).toList == [45]) = false := by
      rw [beq_eq_false_iff_ne]
      intro h
      exact hroot (by have : l = [45] := by simpa using h
                      exact this)
    have HP := Lib.hid (prsVB_fin hroot)
    have HG : Hid (∀ k : Nat, k < l.length → ∀ wx : World, (Instr.index 9 (.string ⟨l.toArray⟩) (.int .i64 (k : Int))).run Tryd.prog wx = .ok (.int .u8 ((l.getD k 0).toNat : Int)) wx) := fun k hk wx => idx_str l k hk .i64 wx (by omega)
    have HD : Hid (∀ k, k < l.length → l.drop k = l.getD k 0 :: l.drop (k + 1)) := by
      intro k hk
      rw [List.drop_eq_getElem_cons hk]
      simp [List.getD, hk]
    have HN : Hid (l.drop l.length = []) := by show _ = _; rw [List.drop_eq_nil_iff]; omega
    have HC : Hid (∀ (f k : Nat), f ≤ k → k ≤ l.length → ∀ wx, Calls Tryd.prog 40 #[.string ((⟨l.toArray⟩ : ByteArray).extract f k)] wx fun e w' => e = .returned (.tuple #[dv (prsB ((l.drop f).take (k - f))).1, .bool (prsB ((l.drop f).take (k - f))).2]) ∧ Below wx.heap.size wx w') := fun f k hf hk wx => by
      rw [cut_str l f k hf hk]
      exact D.parse_ref _ wx (by rw [List.length_take, List.length_drop]; omega)
    have HX := Lib.hid (fun (v : List Dt) a c wx h1 h2 => validV_ref v a c wx h1 h2)
    have hli : (l.length : Int) ≤ 1000 := by omega
    have HLn := Lib.hid hlen
    clear hroot hlen
    generalize prsVB l = R at *
    generalize hS : (⟨l.toArray⟩ : ByteArray) = S at hb hsz HG HC ⊢
    clear hS
    go_enter Tryd.func29, Tryd.ntmps29
    go_wp2_with fail
    go_loopw [4, 5, 6, 7, 8] (fun v fr i _ _ wr => Hid (Below w.heap.size w wr) ∧ ∃ (k f : Nat) (acc : List Dt), i = .int .i64 (k : Int) ∧ fr = .int .i64 (f : Int) ∧ Hid (OD wr w.heap.size E v acc) ∧ Hid (acc.length ≤ k) ∧ ((f ≤ k ∧ k ≤ l.length ∧ Hid (fL [] [] l = fL acc ((l.drop f).take (k - f)) (l.drop k))) ∨ (k = l.length + 1 ∧ Hid (fL [] [] l = some acc)))) (fun _ _ i _ _ _ => l.length + 2 - (intOf i).toNat)
    case atStart => exact ⟨Below.refl _ _, 0, 0, [], rfl, rfl, OD.nil _ _ _, Nat.zero_le _, .inl ⟨Nat.le_refl _, Nat.zero_le _, by show _ = _; simp⟩⟩
    case round =>
      obtain ⟨hh, k, f, acc, rfl, rfl, HO, HL, ⟨hf, hk, HF⟩ | ⟨rfl, HF⟩⟩ := hrel
      · obtain ⟨a2, c2, rfl, -⟩ := HO.out.row
        have hi0 : (k : Int) ≤ (l.length : Int) := by omega
        by_cases hlt : k < l.length
        · have hi1 : (k : Int) < (l.length : Int) := by omega
          have hg := HG.out k hlt
          have HF2 : Hid (fL [] [] l = fL acc ((l.drop f).take (k - f)) (l.getD k 0 :: l.drop (k + 1))) := by show _ = _; rw [HF.out, HD.out k hlt]
          have HCu := Lib.hid (cur_next hf hlt)
          generalize l.getD k 0 = c at *
          by_cases h32 : c = 32
          · subst h32
            have HCP := Lib.hid (HC.out f k hf hk wr)
            have hfk : (f : Int) ≤ (k : Int) := by omega
            rw [prsB_eq] at HCP
            rcases hp : prsD ((l.drop f).take (k - f)) with _ | d
            · have hR : R = ([], false) := by rw [HP.out, HF2.out, fL, if_pos rfl, hp]; rfl
              rw [hp] at HCP
              subst hR
              clear HP hp HF HF2
              go_wp2_with fail
              refine HCP.out.mono ?_
              rintro e w2 ⟨rfl, hbw⟩
              have HB2 := bel_tr hh hbw
              clear hbw HCP
              go_wp2_with fail
              go_ret2
              exact ⟨_, rfl, SV.nil _, HB2.out.alloc HB2.out.size _⟩
            · have HF3 : Hid (fL [] [] l = fL (acc ++ [d]) [] (l.drop (k + 1))) := by show _ = _; rw [HF2.out, fL, if_pos rfl, hp]
              rw [hp] at HCP
              clear hp HF HF2
              obtain ⟨d1, d2⟩ := d
              go_wp2_with fail
              refine HCP.out.mono ?_
              rintro e w2 ⟨rfl, hbw⟩
              have HB2 := bel_tr hh hbw
              have HO2 := Lib.hid (HO.out.below hbw)
              clear hbw HCP
              have hBx : Below w2.heap.size w2 (w2.alloc (Obj.cells #[.int .i64 d1, .int .i64 d2] 25)) := (Below.refl _ _).alloc (Nat.le_refl _) _
              have HB3 := bel_tr HB2 hBx
              have HO3 := Lib.hid (HO2.out.below hBx)
              have x0 : (w2.alloc (Obj.cells #[.int .i64 d1, .int .i64 d2] 25)).cell? ⟨w2.heap.size, 0, none⟩ = some (.int .i64 d1) := by go_simp
              have x1 : (w2.alloc (Obj.cells #[.int .i64 d1, .int .i64 d2] 25)).cell? ⟨w2.heap.size, 1, none⟩ = some (.int .i64 d2) := by go_simp
              clear hBx
              have hAll : (w2.alloc (Obj.cells #[.int .i64 d1, .int .i64 d2] 25)).heap.size = w2.heap.size + 1 := by simp
              go_wp2_with (at_builtin; refine wpList_appD rfl _ _ _ rfl Tryd.underlying23 infoD _ _ rfl (HO3.out.below ((Below.refl _ _).alloc (Nat.le_refl _) _)) (some ⟨(w2.alloc (Obj.cells #[.int .i64 d1, .int .i64 d2] 25)).heap.size, 0, none⟩) [(d1, d2)] 1 (by rw [hAll]; rfl) (lit_one _ (d1, d2) _) (fun h => by cases h) (by have := HL.out; have := HLn.out; simp; omega) (HB3.out.alloc HB3.out.size _).size ?_)
              intro v2 w4 ho hg _
              have hh4 := Lib.hid ((HB3.out.alloc HB3.out.size (Obj.cells #[Value.int IntKind.i64 d1, Value.int IntKind.i64 d2] 25)).grown hg (HB3.out.alloc HB3.out.size _).size (fun j hj => (HO3.out.lt j hj).1))
              have HO4 := Lib.hid ho
              clear ho hg x0 x1
              go_wp2_with fail
              go_roundw
              case rel => exact ⟨hh4, k + 1, k + 1, acc ++ [(d1, d2)], by go_num, by go_num, HO4, by show _ ≤ _; have := HL.out; simp; omega, .inl ⟨Nat.le_refl _, by omega, by show _ = _; rw [HF3.out]; simp⟩⟩
              case measure => simp [intOf]; omega
          · have hne : ((c.toNat : Int) != 32) = true := by
              rw [bne_iff_ne]
              intro h
              exact h32 (UInt8.toNat_inj.1 (by show c.toNat = 32; omega))
            go_wp2_with fail
            go_roundw
            case rel => exact ⟨hh, k + 1, f, acc, by go_num, rfl, HO, by show _ ≤ _; have := HL.out; omega, .inl ⟨by omega, by omega, by show _ = _; rw [HF2.out, fL, if_neg h32, HCu.out]⟩⟩
            case measure => simp [intOf]; omega
        · obtain rfl : k = l.length := by omega
          have hend : ¬ (l.length : Int) < (l.length : Int) := by omega
          have HF2 : Hid (fL [] [] l = fL acc ((l.drop f).take (l.length - f)) []) := by show _ = _; rw [HF.out, HN.out]
          have HCP := Lib.hid (HC.out f l.length hf hk wr)
          have hfk : (f : Int) ≤ (l.length : Int) := by omega
          rw [prsB_eq] at HCP
          rcases hp : prsD ((l.drop f).take (l.length - f)) with _ | d
          · have hR : R = ([], false) := by rw [HP.out, HF2.out, fL, hp]; rfl
            rw [hp] at HCP
            subst hR
            clear HP hp HF HF2
            go_wp2_with fail
            refine HCP.out.mono ?_
            rintro e w2 ⟨rfl, hbw⟩
            have HB2 := bel_tr hh hbw
            clear hbw HCP
            go_wp2_with fail
            go_ret2
            exact ⟨_, rfl, SV.nil _, HB2.out.alloc HB2.out.size _⟩
          · have HF3 : Hid (fL [] [] l = some (acc ++ [d])) := by show _ = _; rw [HF2.out, fL, hp]
            rw [hp] at HCP
            clear hp HF HF2
            obtain ⟨d1, d2⟩ := d
            go_wp2_with fail
            refine HCP.out.mono ?_
            rintro e w2 ⟨rfl, hbw⟩
            have HB2 := bel_tr hh hbw
            have HO2 := Lib.hid (HO.out.below hbw)
            clear hbw HCP
            have hBx : Below w2.heap.size w2 (w2.alloc (Obj.cells #[.int .i64 d1, .int .i64 d2] 25)) := (Below.refl _ _).alloc (Nat.le_refl _) _
            have HB3 := bel_tr HB2 hBx
            have HO3 := Lib.hid (HO2.out.below hBx)
            have x0 : (w2.alloc (Obj.cells #[.int .i64 d1, .int .i64 d2] 25)).cell? ⟨w2.heap.size, 0, none⟩ = some (.int .i64 d1) := by go_simp
            have x1 : (w2.alloc (Obj.cells #[.int .i64 d1, .int .i64 d2] 25)).cell? ⟨w2.heap.size, 1, none⟩ = some (.int .i64 d2) := by go_simp
            clear hBx
            have hAll : (w2.alloc (Obj.cells #[.int .i64 d1, .int .i64 d2] 25)).heap.size = w2.heap.size + 1 := by simp
            go_wp2_with (at_builtin; refine wpList_appD rfl _ _ _ rfl Tryd.underlying23 infoD _ _ rfl (HO3.out.below ((Below.refl _ _).alloc (Nat.le_refl _) _)) (some ⟨(w2.alloc (Obj.cells #[.int .i64 d1, .int .i64 d2] 25)).heap.size, 0, none⟩) [(d1, d2)] 1 (by rw [hAll]; rfl) (lit_one _ (d1, d2) _) (fun h => by cases h) (by have := HL.out; have := HLn.out; simp; omega) (HB3.out.alloc HB3.out.size _).size ?_)
            intro v2 w4 ho hg _
            have hh4 := Lib.hid ((HB3.out.alloc HB3.out.size (Obj.cells #[Value.int IntKind.i64 d1, Value.int IntKind.i64 d2] 25)).grown hg (HB3.out.alloc HB3.out.size _).size (fun j hj => (HO3.out.lt j hj).1))
            have HO4 := Lib.hid ho
            clear ho hg x0 x1
            go_wp2_with fail
            go_roundw
            case rel => exact ⟨hh4, l.length + 1, l.length + 1, acc ++ [(d1, d2)], by go_num, by go_num, HO4, by show _ ≤ _; have := HL.out; simp; omega, .inr ⟨rfl, HF3⟩⟩
            case measure => simp [intOf]
      · obtain ⟨a2, c2, rfl, hrow, hnn, hcc, -⟩ := HO.out.row
        have HV := Lib.hid (HX.out acc a2 c2 wr hrow (by have := HL.out; have := HLn.out; omega))
        have HSV : Hid (SV wr (.slice a2 acc.length c2) acc) := ⟨a2, c2, rfl, hrow, fun h => (hnn h).1, hcc⟩
        clear hrow hnn hcc
        have hend : ¬ ((l.length : Int) + 1 ≤ (l.length : Int)) := by omega
        rcases hv : validV acc with _ | _
        · have hR : R = ([], false) := by rw [HP.out, HF.out]; show (if validV acc = true then _ else _) = _; rw [hv, if_neg (by simp)]
          rw [hv] at HV
          subst hR
          clear HP hv HF
          go_wp2_with fail
          refine HV.out.mono ?_
          rintro e w2 ⟨rfl, hl⟩
          have HB2 := bel_tr hh hl.bel
          clear hl HV
          go_wp2_with fail
          go_ret2
          exact ⟨_, rfl, SV.nil _, HB2.out⟩
        · have hR : R = (acc, true) := by rw [HP.out, HF.out]; show (if validV acc = true then _ else _) = _; rw [hv, if_pos rfl]
          rw [hv] at HV
          subst hR
          clear HP hv HF
          go_wp2_with fail
          refine HV.out.mono ?_
          rintro e w2 ⟨rfl, hl⟩
          have HB2 := bel_tr hh hl.bel
          have HSV2 := Lib.hid (HSV.out.keep hl.bel)
          clear hl HV
          go_wp2_with fail
          go_ret2
          exact ⟨_, rfl, HSV2.out, HB2.out⟩
end Go.Proofs.YtfemfmppjabdjaaDoor.E
