/-
  The program's Parse: what holds between two rounds.
-/
import Derived.Test.YtfemfmppjabdjaaDoorERange
namespace Go.Proofs.YtfemfmppjabdjaaDoor.E
set_option linter.unusedVariables false
open Go.RowKit V Go.Sort D Go.Shelf

set_option maxRecDepth 100000 in
theorem splitSeq_any (l : List UInt8) (w : World) : Calls Tryd.prog 56 #[.string ⟨l.toArray⟩, .string ⟨#[32]⟩, .int .i64 0] w fun e w' =>
    e = .returned (.func (.func 62) #[] #[.pointer (some ⟨w.heap.size + 1, 0, none⟩), .pointer (some ⟨w.heap.size, 0, none⟩), .pointer (some ⟨w.heap.size + 1 + 1, 0, none⟩)]) ∧
    w' = ((w.alloc (.cells #[.string ⟨l.toArray⟩] 9)).alloc (.cells #[.string ⟨#[32]⟩] 9)).alloc (.cells #[.int .i64 0] 3) := by
  have hmf : ∀ (fn : Fn) (first cap : Array Value) (w : World), (Instr.makeFunc fn first cap).run Tryd.prog w = .ok (.func fn first cap) w := fun _ _ _ _ => rfl
  generalize (⟨l.toArray⟩ : ByteArray) = S at *
  go_enter Tryd.func56, Tryd.ntmps56
  go_wp2_with fail
  go_ret
  exact ⟨rfl, rfl⟩
set_option maxRecDepth 100000 in
theorem SplitSeq_any (l : List UInt8) (w : World) : Calls Tryd.prog 49 #[.string ⟨l.toArray⟩, .string ⟨#[32]⟩] w fun e w' =>
    e = .returned (.func (.func 62) #[] #[.pointer (some ⟨w.heap.size + 1, 0, none⟩), .pointer (some ⟨w.heap.size, 0, none⟩), .pointer (some ⟨w.heap.size + 1 + 1, 0, none⟩)]) ∧
    w' = ((w.alloc (.cells #[.string ⟨l.toArray⟩] 9)).alloc (.cells #[.string ⟨#[32]⟩] 9)).alloc (.cells #[.int .i64 0] 3) := by
  have HC := Lib.hid (splitSeq_any l w)
  generalize (⟨l.toArray⟩ : ByteArray) = S at *
  go_enter Tryd.func49, Tryd.ntmps49
  go_wp2_with fail
  refine HC.out.mono ?_
  rintro e w2 ⟨rfl, rfl⟩
  go_wp2_with fail
  go_ret
  exact ⟨rfl, rfl⟩

/-! ### Plainly -/
theorem parts_len : ∀ (l cur : List UInt8), (parts cur l).length ≤ l.length + 1
  | [], cur => by simp [parts]
  | c :: t, cur => by
    rw [parts]
    split
    · have := parts_len t []; simp; omega
    · have := parts_len t (cur ++ [c]); simp; omega
theorem part_len : ∀ (l cur : List UInt8), ∀ y ∈ parts cur l, y.length ≤ cur.length + l.length
  | [], cur, y, hy => by
    rw [parts, List.mem_singleton] at hy
    subst hy
    simp
  | c :: t, cur, y, hy => by
    rw [parts] at hy
    split at hy
    · rcases List.mem_cons.1 hy with rfl | hy
      · omega
      · have := part_len t [] y hy
        simp at *
        omega
    · have := part_len t (cur ++ [c]) y hy
      simp at *
      omega
theorem readAll_app : ∀ (a b : List (List UInt8)), readAll (a ++ b) = match readAll a with | none => none | some v => (match readAll b with | none => none | some u => some (v ++ u))
  | [], b => by
    rw [List.nil_append, readAll]
    cases readAll b <;> rfl
  | x :: t, b => by
    rw [List.cons_append, readAll, readAll, readAll_app t b]
    cases prsD x with
    | none => rfl
    | some d =>
      simp only
      cases readAll t with
      | none => rfl
      | some v =>
        simp only
        cases readAll b <;> rfl
theorem readAll_len : ∀ {a : List (List UInt8)} {v : List Dt}, readAll a = some v → v.length = a.length
  | [], v, h => by
    rw [readAll] at h
    cases h
    rfl
  | x :: t, v, h => by
    rw [readAll] at h
    cases hp : prsD x with
    | none => rw [hp] at h; cases h
    | some d =>
      rw [hp] at h
      simp only at h
      cases hr : readAll t with
      | none => rw [hr] at h; cases h
      | some u =>
        rw [hr] at h
        cases h
        rw [List.length_cons, List.length_cons, readAll_len hr]
theorem valid_prefix {v u : List Dt} (h : validV (v ++ u) = true) : validV v = true := by
  rw [valid_vd] at h ⊢
  refine ⟨fun x hx => h.1 x (by simp [hx]), ?_⟩
  have := h.2
  unfold Inc at *
  rw [List.pairwise_append] at this
  exact this.1
/-- No text of a vector begins so. -/
def Bad (pre : List (List UInt8)) : Prop := ∀ v, readAll pre = some v → validV v = false
theorem bad_none {l : List UInt8} (h : l ≠ [45]) {pre : List (List UInt8)} (hp : pre <+: parts [] l) (hb : Bad pre) : prsVB l = ([], false) := by
  obtain ⟨t, ht⟩ := hp
  unfold prsVB
  rw [prsV_parts, if_neg h, ← ht, readAll_app]
  cases hr : readAll pre with
  | none => rfl
  | some v =>
    simp only
    cases readAll t with
    | none => rfl
    | some u =>
      simp only
      rw [if_neg]
      intro hv
      have := valid_prefix hv
      rw [hb v hr] at this
      cases this
theorem good_some {l : List UInt8} (h : l ≠ [45]) {ds : List Dt} (hr : readAll (parts [] l) = some ds) (hv : validV ds = true) : prsVB l = (ds, true) := by
  unfold prsVB
  rw [prsV_parts, if_neg h, hr]
  simp only
  rw [if_pos hv]

/-! ### Between two rounds -/
/-- A variable of the call's own that may be written. -/
def Cl (W : World) (b : Nat) (v : Value) : Prop := W.cell? ⟨b, 0, none⟩ = some v ∧ W.frozen? ⟨b, 0, none⟩ = false
theorem Cl.gb {W W' : World} {b : Nat} {v : Value} {row : Option Nat} (h : Cl W b v) (hg : W.grownBy W' row) (hr : some b ≠ row) : Cl W' b v := by
  have e := hg.block b (lt_of_cell h.1) hr
  exact ⟨(World.cell?_of_block e).trans h.1, (World.frozen?_of_block e).trans h.2⟩
theorem Cl.set {W : World} {b : Nat} {v : Value} (h : Cl W b v) (v' : Value) : Cl (W.setCell ⟨b, 0, none⟩ v') b v' :=
  ⟨World.cell?_setCell_same' _ _ _ (by rw [h.1]; rfl), by rw [World.frozen?_setCell]; exact h.2⟩
/-- The function's variables, the iterator's, and what was there before. B: where the call began. -/
def Vars (w0 W : World) (B : Nat) (x y v : Value) (r : List UInt8) : Prop :=
  Cl W B x ∧ Cl W (B + 1) y ∧ Cl W (B + 2) v ∧ Cl W (B + 3) (.string ⟨r.toArray⟩) ∧ Cl W (B + 4) (.string ⟨#[32]⟩) ∧ Cl W (B + 5) (.int .i64 0) ∧ Below B w0 W ∧ w0.heap.size = B
theorem Vars.gb {w0 W W' : World} {B : Nat} {x y v : Value} {r : List UInt8} {row : Option Nat} (h : Vars w0 W B x y v r) (hg : W.grownBy W' row) (hr : ∀ k, row = some k → B + 6 ≤ k) : Vars w0 W' B x y v r := by
  obtain ⟨h1, h2, h3, h4, h5, h6, h7, h8⟩ := h
  have ne : ∀ b, b < B + 6 → some b ≠ row := fun b hb e => by have := hr b e.symm; omega
  exact ⟨h1.gb hg (ne _ (by omega)), h2.gb hg (ne _ (by omega)), h3.gb hg (ne _ (by omega)), h4.gb hg (ne _ (by omega)), h5.gb hg (ne _ (by omega)), h6.gb hg (ne _ (by omega)), h7.grown hg (by have := h7.size; omega) (fun k hk => by have := hr k hk; omega), h8⟩
theorem Vars.below {w0 W W' : World} {B : Nat} {x y v : Value} {r : List UInt8} (h : Vars w0 W B x y v r) (hb : Below W.heap.size W W') : Vars w0 W' B x y v r := h.gb (gb_below hb none) (fun k e => by cases e)
theorem Vars.lt {w0 W : World} {B : Nat} {x y v : Value} {r : List UInt8} (h : Vars w0 W B x y v r) : B + 6 ≤ W.heap.size := by
  have := lt_of_cell h.2.2.2.2.2.1.1
  show B + 5 + 1 ≤ _
  exact this
theorem Cl.other {W : World} {b c : Nat} {v u : Value} (h : Cl W b v) (hne : b ≠ c) : Cl (W.setCell ⟨c, 0, none⟩ u) b v :=
  ⟨by rw [World.cell?_setCell_other _ _ _ _ (by simp [hne])]; exact h.1, by rw [World.frozen?_setCell]; exact h.2⟩
theorem Vars.set0 {w0 W : World} {B : Nat} {x y v : Value} {r : List UInt8} (h : Vars w0 W B x y v r) (u : Value) : Vars w0 (W.setCell ⟨B, 0, none⟩ u) B u y v r := by
  obtain ⟨h1, h2, h3, h4, h5, h6, h7, h8⟩ := h
  exact ⟨h1.set u, h2.other (by omega), h3.other (by omega), h4.other (by omega), h5.other (by omega), h6.other (by omega), h7.setCell (p := ⟨B, 0, none⟩) (by show B ≤ B; omega) _, h8⟩
theorem Vars.set1 {w0 W : World} {B : Nat} {x y v : Value} {r : List UInt8} (h : Vars w0 W B x y v r) (u : Value) : Vars w0 (W.setCell ⟨B + 1, 0, none⟩ u) B x u v r := by
  obtain ⟨h1, h2, h3, h4, h5, h6, h7, h8⟩ := h
  exact ⟨h1.other (by omega), h2.set u, h3.other (by omega), h4.other (by omega), h5.other (by omega), h6.other (by omega), h7.setCell (p := ⟨B + 1, 0, none⟩) (by show B ≤ B + 1; omega) _, h8⟩
theorem Vars.set2 {w0 W : World} {B : Nat} {x y v : Value} {r : List UInt8} (h : Vars w0 W B x y v r) (u : Value) : Vars w0 (W.setCell ⟨B + 2, 0, none⟩ u) B x y u r := by
  obtain ⟨h1, h2, h3, h4, h5, h6, h7, h8⟩ := h
  exact ⟨h1.other (by omega), h2.other (by omega), h3.set u, h4.other (by omega), h5.other (by omega), h6.other (by omega), h7.setCell (p := ⟨B + 2, 0, none⟩) (by show B ≤ B + 2; omega) _, h8⟩
theorem Vars.set3 {w0 W : World} {B : Nat} {x y v : Value} {r : List UInt8} (h : Vars w0 W B x y v r) (r' : List UInt8) : Vars w0 (W.setCell ⟨B + 3, 0, none⟩ (.string ⟨r'.toArray⟩)) B x y v r' := by
  obtain ⟨h1, h2, h3, h4, h5, h6, h7, h8⟩ := h
  exact ⟨h1.other (by omega), h2.other (by omega), h3.other (by omega), h4.set _, h5.other (by omega), h6.other (by omega), h7.setCell (p := ⟨B + 3, 0, none⟩) (by show B ≤ B + 3; omega) _, h8⟩

def Inv (w0 : World) (B : Nat) (pre : List (List UInt8)) (r : List UInt8) (W : World) : Prop :=
  ∃ v ds, Vars w0 W B (.slice none 0 0) (.int .i64 0) v r ∧ OD W (B + 6) E v ds ∧ readAll pre = some ds ∧ validV ds = true
def Inx (w0 : World) (B : Nat) (pre : List (List UInt8)) (W : World) : Prop :=
  ∃ v r, Vars w0 W B (.slice none 0 0) (.int .i64 6) v r ∧ Bad pre
theorem OD.cells {w : World} {base : Nat} {v : Value} {l : List Dt} (h : OD w base E v l) {k : Nat} (hk : v.ownBlock = some k) : ∃ o : Obj, w.heap[k]? = some o ∧ o.isCells = true := by
  rcases h.2 with ⟨rfl, -⟩ | ⟨g, cap, cur, rfl, hb, hg, -⟩
  · cases hk
  · cases hk
    exact ⟨_, hg, rfl⟩
theorem inv_rides {w0 : World} {B B' : Nat} (hB : B + 6 ≤ B') (pre : List (List UInt8)) (r : List UInt8) : Rides B' (Inv w0 B pre r) := by
  rintro W l o o' ⟨v, ds, h1, h2, h3, h4⟩ hl ho hc
  have hg := grownBy_putObj' W l o'
  refine ⟨v, ds, h1.gb hg (fun k e => by cases e; omega), h2.keep hg (.inr fun e => ?_), h3, h4⟩
  obtain ⟨o2, h5, h6⟩ := OD.cells h2 e
  rw [ho] at h5
  cases h5
  rw [hc] at h6
  cases h6
theorem inx_rides {w0 : World} {B B' : Nat} (hB : B + 6 ≤ B') (pre : List (List UInt8)) : Rides B' (Inx w0 B pre) := by
  rintro W l o o' ⟨v, r, h1, h2⟩ hl ho hc
  exact ⟨v, r, h1.gb (grownBy_putObj' W l o') (fun k e => by cases e; omega), h2⟩
theorem inv_set {w0 : World} {B : Nat} (pre : List (List UInt8)) (r r' : List UInt8) (A : World) (h : Inv w0 B pre r A) : Inv w0 B pre r' (A.setCell ⟨B + 3, 0, none⟩ (.string ⟨r'.toArray⟩)) := by
  obtain ⟨v, ds, h1, h2, h3, h4⟩ := h
  refine ⟨v, ds, h1.set3 r', h2.keep (gb_setCell A (B + 3) 0 _) (.inr fun e => ?_), h3, h4⟩
  have := (h2.lt _ e).1
  omega
theorem inv_it {w0 : World} {B : Nat} {pre : List (List UInt8)} {r : List UInt8} {A : World} (h : Inv w0 B pre r A) : It (B + 3) (B + 4) (B + 5) A r := by
  obtain ⟨v, ds, ⟨h1, h2, h3, h4, h5, h6, h7, h8⟩, -⟩ := h
  exact ⟨h4.1, h4.2, h5.1, h6.1⟩
end Go.Proofs.YtfemfmppjabdjaaDoor.E
