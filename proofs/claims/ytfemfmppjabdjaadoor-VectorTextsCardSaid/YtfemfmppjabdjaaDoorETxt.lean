/-
  The reference's Text.
-/
import Derived.Test.YtfemfmppjabdjaaDoorEProg
import Derived.Test.YtfemfmppjabdjaaDoorEText
import Derived.Test.YtfemfmppjabdjaaDoorDParseR
namespace Go.Proofs.YtfemfmppjabdjaaDoor.E
set_option linter.unusedVariables false
open Go.RowKit V Go.Sort D

set_option maxRecDepth 100000 in
set_option maxHeartbeats 1000000 in
theorem text_ref5 (v : List Dt) (hv : Vd v) (a : Option Addr) (c : Nat) (w : World) (hx : RowD w a v) :
    Calls Tryd.prog 28 #[.slice a v.length c] w fun e w' => e = .returned (.string ⟨(txtV v).toArray⟩) ∧ Below w.heap.size w w' := by
  have hlen := vd_len hv
  cases v with
  | nil =>
    rw [show txtV [] = [45] from rfl]
    clear hv hlen hx
    go_enter Tryd.func28, Tryd.ntmps28
    go_wp2_with fail
    go_ret
    exact ⟨rfl, Below.refl _ _⟩
  | cons x t =>
    have HX := Lib.hid hx
    have hvd := vd_cons.1 hv
    have HT := Lib.hid (fun w => D.text_ref x (.inl hvd.1) w)
    have HTt : Hid (∀ y ∈ t, ∀ w, _) := fun y hy w => D.text_ref y (.inl (hvd.2.2.1 y hy)) w
    have hl1 := txt_len2 hvd.1
    have HLt : Hid (∀ y ∈ t, (txtD y).length ≤ 13) := fun y hy => txt_len2 (hvd.2.2.1 y hy)
    have HTk : Hid (∀ k (h : k < t.length), txtD x ++ tailV (t.take (k + 1)) = (txtD x ++ tailV (t.take k)) ++ 32 :: txtD t[k]) := fun k h => by rw [List.take_succ_eq_append_getElem h, tail_app]; simp
    have HTe : Hid (txtV (x :: t) = txtD x ++ tailV (t.take t.length)) := by show _ = _; rw [List.take_length]; rfl
    have HTl : Hid (∀ k, (txtD x ++ tailV (t.take k)).length ≤ 2000) := fun k => by
      have h1 := tail_len (t.take k) fun y hy => hvd.2.2.1 y (List.mem_of_mem_take hy)
      rw [List.length_take] at h1
      simp only [List.length_append]
      simp only [List.length_cons] at hlen
      omega
    have HT0 : Hid (txtD x = txtD x ++ tailV (t.take 0)) := by show _ = _; simp [tailV]
    obtain ⟨b0, o0, ea, k0, k1⟩ := hx.get (Below.refl _ _) 0 (by simp)
    subst ea
    have hli : ((x :: t).length : Int) = (t.length : Int) + 1 := by simp
    have hne : ((t.length : Int) + 1 == 0) = false := by rw [beq_eq_false_iff_ne]; omega
    have hl65 : (t.length : Int) ≤ 64 := by simp only [List.length_cons] at hlen; omega
    simp only [Nat.zero_mul, Nat.add_zero, List.getElem_cons_zero] at k0 k1
    have hlc : (x :: t).length = t.length + 1 := by simp
    clear hv hvd hx hlen
    generalize txtV (x :: t) = U at *
    go_enter Tryd.func28, Tryd.ntmps28
    go_wp2_with fail
    refine (HT.out _).mono ?_
    rintro e w1 ⟨rfl, hb⟩
    have HB := Lib.hid hb
    clear hb HT k0 k1
    rw [HT0.out]
    go_wp2_with fail
    go_loopw [4, 3] (fun i s wr => ∃ (k : Nat), k ≤ t.length ∧ i = .int .i64 ((k : Int) + 1) ∧ s = .string ⟨(txtD x ++ tailV (t.take k)).toArray⟩ ∧ Hid (Below w.heap.size w wr)) (fun i _ _ => t.length + 1 - (intOf i).toNat)
    case atStart => exact ⟨0, Nat.zero_le _, rfl, rfl, HB⟩
    case round =>
      obtain ⟨k, hk, rfl, rfl, hh⟩ := hrel
      have lP := HTl.out k
      by_cases hlt : k < t.length
      · have hi0 : (k : Int) + 1 < (t.length : Int) + 1 := by omega
        have hi1 : (k : Int) < (t.length : Int) := by omega
        obtain ⟨b1, o1, ea, p0, p1⟩ := HX.out.get hh.out (k + 1) (by rw [hlc]; omega)
        cases ea
        have hix := ix_vec b0 o0 (t.length + 1) c (k + 1) ((k : Int) + 1) (by omega) (by omega)
        simp only [List.getElem_cons_succ] at p0 p1
        have HTy := Lib.hid (HTt.out t[k] (List.getElem_mem hlt) wr)
        have HF := Lib.hid (HTk.out k hlt)
        have lQ := HLt.out t[k] (List.getElem_mem hlt)
        generalize t[k] = y at *
        generalize txtD x ++ tailV (t.take k) = P at *
        generalize txtD y = Q at *
        go_wp2_with fail
        refine HTy.out.mono ?_
        rintro e w2 ⟨rfl, hb⟩
        have HB2 := bel_tr hh hb
        clear hb HTy
        go_wp2_with fail
        go_roundw
        case rel =>
          refine ⟨k + 1, by omega, by go_num, ?_, HB2⟩
          rw [HF.out, ← G.str_app]
          show Value.string ((⟨P.toArray⟩ : ByteArray) ++ ⟨[32].toArray⟩ ++ ⟨Q.toArray⟩) = _
          rw [G.str_app, G.str_app, G.str_app]
          simp
        case measure => simp [intOf]; omega
      · obtain rfl : k = t.length := by omega
        have hend : ¬ (t.length : Int) + 1 < (t.length : Int) + 1 := by omega
        have hend2 : ¬ (t.length : Int) < (t.length : Int) := by omega
        generalize txtD x ++ tailV (t.take t.length) = P at *
        go_wp2_with fail
        go_ret
        rw [HTe.out]
        exact ⟨rfl, hh.out⟩
end Go.Proofs.YtfemfmppjabdjaaDoor.E
