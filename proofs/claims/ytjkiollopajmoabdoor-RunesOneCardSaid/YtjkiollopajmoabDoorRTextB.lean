/-
  Decode and Encode.
-/
import Derived.Test.YtjkiollopajmoabDoorRText
namespace Go.Proofs.YtjkiollopajmoabDoor.R
set_option linter.unusedVariables false
open Go.RowKit V

theorem info32 : (Tryd.prog.info? 21).map (fun i => (i.zero, i.size, i.bytes)) = some (some (.int .i32 0), 1, 4) := by kernel_rfl
def ints (rs : List Nat) : List Int := rs.map Int.ofNat
theorem ints_length (rs : List Nat) : (ints rs).length = rs.length := by simp [ints]
theorem ints_append (rs ts : List Nat) : ints (rs ++ ts) = ints rs ++ ints ts := by simp [ints]
/-- A row of runes that a call has made. -/
def O32 (w : World) (base : Nat) (v : Value) (l : List Int) : Prop := G.OI w base 21 .i32 v l

set_option maxRecDepth 100000 in
set_option maxHeartbeats 1000000 in
theorem decode_any (l : List UInt8) (w : World) (hl : l.length ≤ 4398046511104) :
    Calls Tryd.prog 28 #[.string ⟨l.toArray⟩] w fun e w' => ∃ v, e = .returned (.tuple #[v, .int .i64 ((decR l).2 : Int)]) ∧ O32 w' w.heap.size v (ints (decR l).1) ∧ Below w.heap.size w w' := by
  have HLn := Lib.hid (len_any l w (by omega))
  rw [lenR_decR] at HLn
  by_cases he : (decR l).2 = 0
  · have hrs : (decR l).1.length ≤ l.length := by
      have := encs_len (decR l).1
      rw [(decR_ok he).1] at this
      exact this.1
    have hdec : dec l = some (decR l).1 := (dec_iff l _).2 ⟨(decR_ok he).1, (decR_ok he).2.1⟩
    have HDec := Lib.hid hdec
    rw [he] at HLn ⊢
    generalize (decR l).1 = R at *
    simp only at HLn
    obtain ⟨S, hS⟩ : ∃ S : ByteArray, S = ⟨l.toArray⟩ := ⟨_, rfl⟩
    have hSl : S.data.toList = l := by rw [hS]
    have hSz : S.size = l.length := by rw [hS]; simp [ByteArray.size]
    rw [← hS] at HLn ⊢
    have HSl := Lib.hid hSl
    have HSz := Lib.hid hSz
    clear hS hSl hSz he hdec
    go_enter Tryd.func28, Tryd.ntmps28
    go_wp2_with fail
    refine HLn.out.mono ?_
    rintro e w1 ⟨rfl, hb1⟩
    obtain ⟨w2, v2, hmk, ho2, hb2⟩ := G.run_mkI (P := Tryd.prog) w1 w.heap.size (T := 27) (E := 21) (k := .i32) (B := 4) Tryd.underlying27 info32 R.length (by omega) (by omega) hb1.size
    have HB2 := Lib.hid (hb1.trans (hb2.mono hb1.size))
    have HO2 := Lib.hid ho2
    clear hb1 hb2 ho2 HLn
    go_wp2_with fail
    obtain ⟨g, hg⟩ : ∃ g, g = w2.heap.size := ⟨_, rfl⟩
    have hit : (w2.iter S 0).heap[g]? = some (.stringIter S 0) := by rw [hg]; exact World.iter_heap w2 S 0
    have hb3 : Below w2.heap.size w2 (w2.iter S 0) := (Below.refl _ _).alloc (Nat.le_refl _) _
    have hvg : v2.ownBlock ≠ some g := fun e => by have := (HO2.out.lt g e).2; omega
    have HB3 := Lib.hid (HB2.out.trans (hb3.mono HB2.out.size))
    have HO3 : Hid (O32 (w2.iter S 0) w.heap.size v2 (ints [])) := HO2.out.below hb3
    have hgw : w.heap.size ≤ g := by rw [hg]; exact HB2.out.size
    have HIt := Lib.hid hit
    have HVg := Lib.hid hvg
    simp only [← hg]
    clear hb3 hit hvg hg HB2 HO2 hmk
    generalize w2.iter S 0 = w3 at *
    go_loopw [6] (fun x wr => ∃ (pos : Nat) (rs : List Nat), wr.heap[g]? = some (.stringIter S pos) ∧ pos ≤ l.length ∧ rs.length ≤ pos ∧ Hid (O32 wr w.heap.size x (ints rs)) ∧ Hid (x.ownBlock ≠ some g) ∧ Hid (Below w.heap.size w wr) ∧ Hid (dec l = (dec (l.drop pos)).map (rs ++ ·))) (fun _ w' => l.length - w'.iterPos g)
    case atStart => exact ⟨0, [], HIt.out, Nat.zero_le _, Nat.le_refl _, HO3, HVg, HB3, by show _ = _; cases h : dec (l.drop 0) <;> simp_all⟩
    case round =>
      obtain ⟨pos, rs, hit, hpos, hrp, HO, HV, HB, HD⟩ := hrel
      have HI := Lib.hid hit
      clear hit HIt HVg HB3 HO3
      by_cases hlt : pos < l.length
      · have hnx := G.next_at (P := Tryd.prog) wr g S pos HI.out (by rw [HSz.out]; exact hlt)
        rw [utf8_decode S pos (by rw [HSz.out]; omega), HSl.out] at hnx
        have hsz := step_size hlt
        have hbad : bad (fst1 (l.drop pos)) = false := by
          cases hb : bad (fst1 (l.drop pos)) with
          | false => rfl
          | true => have := step_bad hlt HD.out hb; rw [HDec.out] at this; cases this
        have HG := Lib.hid (step_good hlt HD.out hbad)
        clear HD hbad
        generalize fst1 (l.drop pos) = F at *
        obtain ⟨c, k⟩ := F
        simp only at hnx hsz HG
        have hi4 := G.setIter_heap (s := S) (p := pos + k) HI.out
        have hg4 := G.setIter_grown wr g S (pos + k)
        have hs4 := G.setIter_size wr g S (pos + k)
        generalize G.setIter wr g S (pos + k) = w4 at *
        have HI4 := Lib.hid hi4
        have HO4 : Hid (O32 (w4.alloc (.cells #[.int .i32 (c : Int)] 21)) w.heap.size u6 (ints rs)) := (HO.out.keep hg4 (.inr HV.out)).below ((Below.refl _ _).alloc (Nat.le_refl _) _)
        have HB4 := Lib.hid ((below_gb HB.out hg4 HB.out.size hgw).alloc (by rw [hs4]; exact HB.out.size) (.cells #[.int .i32 (c : Int)] 21))
        have hgl : g < wr.heap.size := (Array.getElem?_eq_some_iff.1 HI.out).1
        have HS4 := Lib.hid hs4
        clear hi4 hg4 hs4 HO HB
        go_wp2_with (at_builtin; refine G.wpList_appI rfl (.tmp 24) (.tmp 26) 27 rfl Tryd.underlying27 info32 _ (ints rs) rfl HO4.out w4.heap.size 0 1 1 [(c : Int)] rfl rfl (G.RowI.lit .i32 w4 _ rfl [(c : Int)] _ _ rfl) (by rw [ints_length]; simp; omega) (by omega) (by simp; rw [HS4.out]; have := HB4.out.size; simp at this; omega) ?_; intro v' w' ho' hg' hgr')
        have hun : u6.ownBlock ≠ some g := HV.out
        have hi' : w'.heap[g]? = some (.stringIter S (pos + k)) := by
          rw [hg'.block g (by simp; rw [HS4.out]; omega) (fun e => hun e.symm), heap_alloc_old w4 _ (by rw [HS4.out]; exact hgl)]
          exact HI4.out
        go_roundw
        case rel =>
          refine ⟨pos + k, rs ++ [c], ?_, by omega, by rw [List.length_append]; simp; omega, ?_, ?_, ?_, HG.out⟩
          · exact hi'
          · show O32 _ _ _ _
            rw [ints_append]
            exact ho'
          · show _ ≠ _
            rcases hgr' with e | e
            · rw [e]; exact hun
            · rw [e]; intro e2; simp at e2; rw [HS4.out] at e2; omega
          · exact HB4.out.grown hg' HB4.out.size (fun b hb => (HO4.out.lt b hb).1)
        case measure =>
          rw [G.iterPos_of HI.out, G.iterPos_of hi']
          omega
      · have hnx := G.next_end (P := Tryd.prog) wr g S pos HI.out (by rw [HSz.out]; exact hlt)
        have HE := Lib.hid (step_end (by omega) HD.out)
        clear HD
        go_wp2_with fail
        go_ret2
        refine ⟨_, rfl, ?_, HB.out⟩
        have hR : rs = R := by have := HE.out; rw [HDec.out] at this; exact (Option.some.inj this).symm
        rw [← hR]
        exact HO.out
  · obtain ⟨hn, hor⟩ := decR_fail he
    rw [hn] at HLn ⊢
    have hbn : (((decR l).2 : Int) != 0) = true := by rw [bne_iff_ne]; omega
    have hbn2 : ¬ ((decR l).2 : Int) = 0 := by omega
    generalize (decR l).2 = E at *
    clear he hor hn
    go_enter Tryd.func28, Tryd.ntmps28
    go_wp2_with fail
    refine HLn.out.mono ?_
    rintro e w1 ⟨rfl, hb1⟩
    have HB1 := Lib.hid hb1
    clear hb1 HLn
    go_wp2_with fail
    go_ret2
    exact ⟨_, rfl, G.OI.nil _ _ _ _, HB1.out⟩
end Go.Proofs.YtjkiollopajmoabDoor.R
