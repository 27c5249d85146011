/-
  The program's Set, Union and Minus.
-/
import Derived.Test.YtefnoajkdhgonaaDChoice
namespace Go.Proofs.Ytefnoajkdhgonaa.D
set_option linter.unusedVariables false
open Go.RowKit V Go.Sort

theorem enters_always : ∀ args w, (callFunc 81 args).run Try.prog w = .ok (.enter 81 args) w := enters_of Try.func81 (by kernel_rfl) rfl
theorem says_always (w : World) : Says w 81 #[] (fun _ => true) := fun W hW d => always_any d W

theorem Chosen.all {w' : World} {base : Nat} {v : Value} {l : List Dt} (h : Chosen w' base v l (fun _ => true)) : SetV w' base v (setR l) := by
  obtain ⟨m, h1, h2, h3⟩ := h
  rw [← set_eq h2 (fun x => (h3 x).trans ⟨fun e => e.1, fun e => ⟨e, rfl⟩⟩)]
  exact h1
theorem SetV.mono {w' : World} {base base' : Nat} {v : Value} {m : List Dt} (h : SetV w' base v m) (hb : base' ≤ base) : SetV w' base' v m := by
  obtain ⟨a, c, e, hc, h⟩ := h
  refine ⟨a, c, e, hc, ?_⟩
  rcases h with h | ⟨g, h1, h2, h3⟩
  · exact .inl h
  · exact .inr ⟨g, h1, Nat.le_trans hb h2, h3⟩

set_option maxRecDepth 100000 in
set_option maxHeartbeats 1000000 in
theorem set_any (l : List Dt) (a : Option Addr) (c : Nat) (w : World) (hx : RowD w a l) (hlx : l.length ≤ 1000000) :
    Calls Try.prog 62 #[.slice a l.length c] w fun e w' => ∃ v, e = .returned v ∧ SetV w' w.heap.size v (setR l) ∧ Below w.heap.size w w' := by
  have HC := Lib.hid (choice_any l a c 81 #[] (fun _ => true) w enters_always (says_always w) hx hlx)
  clear hx hlx
  go_enter Try.func62, Try.ntmps62
  go_wp2_with fail
  refine HC.out.mono ?_
  rintro e w2 ⟨v, rfl, hch, hb⟩
  have HS := Lib.hid hch.all
  have HB := Lib.hid hb
  clear hch hb HC
  go_wp2_with fail
  go_ret
  exact ⟨_, rfl, HS.out, HB.out⟩

set_option maxRecDepth 100000 in
set_option maxHeartbeats 1000000 in
theorem union_any (xs ys : List Dt) (a b : Option Addr) (c d : Nat) (w : World) (hx : RowD w a xs) (hy : RowD w b ys) (hna : a = none → c = 0) (hnb : b = none → d = 0) (hlx : xs.length ≤ 400000) (hly : ys.length ≤ 400000) :
    Calls Try.prog 70 #[.slice a xs.length c, .slice b ys.length d] w fun e w' => ∃ v, e = .returned v ∧ SetV w' w.heap.size v (unionR xs ys) ∧ Below w.heap.size w w' := by
  have hB : Below w.heap.size w (w.alloc (.cells #[.slice a xs.length c, .slice b ys.length d] 22)) := (Below.refl _ _).alloc (Nat.le_refl _) _
  have HC := Lib.hid (concat_any xs ys a b c d w.heap.size (w.alloc (.cells #[.slice a xs.length c, .slice b ys.length d] 22)) ⟨by go_simp, by go_simp⟩ (hx.keep hB) (hy.keep hB) hna hnb (by omega) (by omega))
  have HCh := Lib.hid (fun (a : Option Addr) (c : Nat) (wx : World) (h : RowD wx a (xs ++ ys)) => choice_any (xs ++ ys) a c 81 #[] (fun _ => true) wx enters_always (says_always wx) h (by rw [List.length_append]; omega))
  have HB := Lib.hid hB
  have HU : Hid (setR (xs ++ ys) = unionR xs ys) := union_set xs ys
  clear hx hy hna hnb hlx hly hB
  generalize unionR xs ys = U at *
  go_enter Try.func70, Try.ntmps70
  go_wp2_with fail
  refine HC.out.mono ?_
  rintro e w2 ⟨v, rfl, ho, hb⟩
  replace HB := bel_tr HB hb
  obtain ⟨a2, c2, rfl, hr, -⟩ := ho.row
  have HR := Lib.hid hr
  clear ho hb hr HC
  generalize xs ++ ys = l at *
  go_wp2_with fail
  refine (HCh.out a2 c2 w2 HR.out).mono ?_
  rintro e w3 ⟨v, rfl, hch, hb⟩
  have HS := Lib.hid hch.all
  rw [HU.out] at HS
  have HS2 : Hid (SetV w3 w.heap.size v U) := HS.out.mono HB.out.size
  replace HB := bel_tr HB hb
  clear hch hb HCh
  go_wp2_with fail
  go_ret
  exact ⟨_, rfl, HS2.out, HB.out⟩

theorem set_len (l : List Dt) : (setR l).length ≤ l.length := by
  have := union_len l []
  simp at this
  exact this

end Go.Proofs.Ytefnoajkdhgonaa.D
