/-
  The program's question whether a dot is missing.
-/
import Derived.Test.YtefnoajkdhgonaaFVals
import Derived.Test.YtefnoajkdhgonaaDOps
namespace Go.Proofs.Ytefnoajkdhgonaa.F
set_option linter.unusedVariables false
open Go.RowKit V Go.Sort D

theorem enters_miss : ∀ args w, (callFunc 79 args).run Try.prog w = .ok (.enter 79 args) w := enters_of Try.func79 (by kernel_rfl) rfl
/-- What the question has in memory: the set of the cloud, and the context. -/
def Ms (w : World) (g h : Nat) (x y z : Value) (xs ms : List Dt) : Prop :=
  w.cell? ⟨g, 0, none⟩ = some z ∧ Bc w h x y ∧ (∃ a n, x = .slice a xs.length n ∧ RowD w a xs) ∧ (∃ a n, z = .slice a ms.length n ∧ RowD w a ms)
theorem Ms.keep {w w' : World} {g h : Nat} {x y z : Value} {xs ms : List Dt} (k : Ms w g h x y z xs ms) (hb : Below w.heap.size w w') : Ms w' g h x y z xs ms := by
  obtain ⟨h1, h2, ⟨a, n, h3, h4⟩, b, m, h5, h6⟩ := k
  exact ⟨(hb.cell (p := ⟨g, 0, none⟩) (lt_of_cell h1)).trans h1, h2.keep hb, ⟨a, n, h3, h4.keep hb⟩, b, m, h5, h6.keep hb⟩

set_option maxRecDepth 100000 in
set_option maxHeartbeats 1000000 in
theorem miss_any (xs ms ys : List Dt) (d : Dt) (x y z : Value) (g h : Nat) (w : World) (hM : Ms w g h x y z xs ms) (hs : Srt ms) (hm : ∀ x, x ∈ ms ↔ x ∈ ys) (hlx : xs.length ≤ 1000000) (hlm : ms.length ≤ 1000000) :
    Calls Try.prog 79 #[dv d, .pointer (some ⟨g, 0, none⟩), .pointer (some ⟨h, 0, none⟩)] w fun e w' => e = .returned (.bool (!hasC (xs, ys) d)) ∧ Below w.heap.size w w' := by
  have HE : Hid ((!hasC (xs, ys) d) = (!validR d || (!decide (d ∈ ms) && !E.hasV xs d))) := by
    show _ = _
    have e : decide (d ∈ ys) = decide (d ∈ ms) := by rw [decide_eq_decide]; exact (hm d).symm
    show (!(validR d && (E.hasV xs d || decide (d ∈ ys)))) = _
    rw [e]
    rcases validR d <;> rcases E.hasV xs d <;> rcases decide (d ∈ ms) <;> rfl
  have HB := Lib.hid (bel_box w (.cells #[.int .i64 d.1, .int .i64 d.2] 38))
  have HM := Lib.hid (hM.keep HB.out)
  have HK : Hid (Bd w.heap.size d.1 d.2 (w.alloc (.cells #[.int .i64 d.1, .int .i64 d.2] 38))) := by refine ⟨?_, ?_⟩ <;> go_simp
  have H1 := Lib.hid (fun a c w h => search_any ms d a c w hs h hlm)
  have H2 := Lib.hid (fun w => E.valid_lays d w)
  have H3 := Lib.hid (fun a n w h => E.has_any xs d a n w h (by omega))
  clear hM hs hm hlx hlm
  generalize (!hasC (xs, ys) d) = R at *
  generalize E.hasV xs d = v1 at *
  generalize validR d = v2 at *
  generalize decide (d ∈ ms) = v3 at *
  obtain ⟨d1, d2⟩ := d
  simp only at HK
  obtain ⟨k0, -, -, a, n, rfl, hr⟩ := HM.out
  have k1 := HK.out.1
  have k2 := HK.out.2
  go_enter Try.func79, Try.ntmps79
  go_wp2_with fail
  generalize w.alloc (.cells #[.int .i64 d1, .int .i64 d2] 38) = w1 at *
  refine (H1.out _ _ _ hr).mono ?_
  rintro e w2 ⟨i, rfl, hb⟩
  replace HM := Lib.hid (HM.out.keep hb)
  replace HK := Lib.hid (HK.out.keep hb)
  replace HB := bel_tr HB hb
  clear hb hr k0 k1 k2 H1
  have k1 := HK.out.1
  have k2 := HK.out.2
  go_wp2_with fail
  refine (H2.out _).mono ?_
  rintro e w3 ⟨rfl, hl⟩
  have hb := hl.bel
  replace HM := Lib.hid (HM.out.keep hb)
  replace HK := Lib.hid (HK.out.keep hb)
  replace HB := bel_tr HB hb
  clear hl hb k1 k2 H2
  rcases v2 with _ | _
  · have hE := HE.out
    subst hE
    clear HE
    go_wp2_with fail
    go_ret
    exact ⟨rfl, HB.out⟩
  · rcases v3 with _ | _
    · have k1 := HK.out.1
      have k2 := HK.out.2
      obtain ⟨-, ⟨k3, k4⟩, ⟨b, m, rfl, hr⟩, -⟩ := HM.out
      go_wp2_with fail
      refine (H3.out _ _ _ hr).mono ?_
      rintro e w4 ⟨rfl, hl⟩
      replace HB := bel_tr HB hl.bel
      clear hl hr k1 k2 k3 k4 H3
      have hE := HE.out
      simp at hE
      subst hE
      clear HE
      go_wp2_with fail
      go_ret
      exact ⟨rfl, HB.out⟩
    · have hE := HE.out
      simp at hE
      subst hE
      clear HE
      go_wp2_with fail
      go_ret
      exact ⟨rfl, HB.out⟩

set_option maxRecDepth 100000 in
set_option maxHeartbeats 1000000 in
/-- missingFrom: a question that may be asked of any dot, wherever it is asked behind. -/
theorem missingFrom_any (xs ys : List Dt) (a b : Option Addr) (n m : Nat) (w : World) (hx : RowD w a xs) (hy : RowD w b ys) (hlx : xs.length ≤ 1000000) (hly : ys.length ≤ 1000000) :
    Calls Try.prog 61 #[cv (.slice a xs.length n) (.slice b ys.length m)] w fun e w' => ∃ g h, e = .returned (.func (.func 79) #[] #[.pointer (some ⟨g, 0, none⟩), .pointer (some ⟨h, 0, none⟩)]) ∧
      (∀ l, Ask w' 79 #[.pointer (some ⟨g, 0, none⟩), .pointer (some ⟨h, 0, none⟩)] l (fun d => !hasC (xs, ys) d)) ∧ Below w.heap.size w w' := by
  have HS := Lib.hid (fun w h => set_any ys b m w h hly)
  have HSl := Lib.hid (set_len ys)
  have HB := Lib.hid (bel_box w (cbox (.slice a xs.length n) (.slice b ys.length m)))
  have HT := Lib.hid (two_new w (.slice a xs.length n) (.slice b ys.length m))
  have HX := Lib.hid (hx.keep HB.out)
  have HY := Lib.hid (hy.keep HB.out)
  have HMi := Lib.hid (fun x y z g h w d hM => miss_any xs (setR ys) ys d x y z g h w hM (srt_set ys) (fun x => mem_set) hlx (Nat.le_trans (set_len ys) hly))
  clear hx hy hlx hly
  generalize setR ys = ms at *
  go_enter Try.func61, Try.ntmps61
  go_wp2_with fail
  generalize w.alloc (cbox (.slice a xs.length n) (.slice b ys.length m)) = w1 at *
  have k1 := HT.out.2
  go_wp2_with fail
  refine (HS.out _ HY.out).mono ?_
  rintro e w2 ⟨v, rfl, hsv, hb⟩
  obtain ⟨a2, c2, rfl, -, hr⟩ := hsv.row
  replace HT := Lib.hid (HT.out.keep hb)
  replace HX := Lib.hid (HX.out.keep hb)
  replace HB := bel_tr HB hb
  have hb2 := bel_box w2 (.cells #[.slice a2 ms.length c2] 22)
  have HB2 := bel_tr HB hb2
  have HM : Hid (Ms (w2.alloc (.cells #[.slice a2 ms.length c2] 22)) w2.heap.size w.heap.size (.slice a xs.length n) (.slice b ys.length m) (.slice a2 ms.length c2) xs ms) :=
    ⟨by go_simp, HT.out.keep hb2, ⟨_, _, rfl, HX.out.keep hb2⟩, _, _, rfl, hr.keep hb2⟩
  clear hsv hb hr hb2 HS k1
  go_wp2_with fail
  go_ret
  exact ⟨_, _, rfl, fun l W hW d _ => HMi.out _ _ _ _ _ W d (HM.out.keep hW), HB2.out⟩
end Go.Proofs.Ytefnoajkdhgonaa.F
