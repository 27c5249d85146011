/-
  Trees of entries: another value.
-/
import Derived.Test.YtmmcnpcijeahcaaJWo
namespace Go.Proofs.Ytmmcnpcijeahcaa.J
set_option linter.unusedVariables false
open Go.RowKit V

/-- The list with another value at an index. -/
def setAt : List Pr → Nat → ByteArray → List Pr
  | [], _, _ => []
  | p :: l, 0, v => (p.1, v) :: l
  | p :: l, n + 1, v => p :: setAt l n v
theorem setAt_lt {m : List Pr} {p : Pr} {v : ByteArray} : ∀ {l : List Pr} {n : Nat}, n < l.length → setAt (l ++ p :: m) n v = setAt l n v ++ p :: m
  | a :: l, 0, h => rfl
  | a :: l, n + 1, h => by rw [List.cons_append, setAt, setAt, setAt_lt (by simpa using h)]; rfl
theorem setAt_eq {m : List Pr} {p : Pr} {v : ByteArray} : ∀ {l : List Pr}, setAt (l ++ p :: m) l.length v = l ++ (p.1, v) :: m
  | [] => rfl
  | a :: l => by rw [List.cons_append, List.length_cons, setAt, setAt_eq]; rfl
theorem setAt_gt {m : List Pr} {p : Pr} {v : ByteArray} {n : Nat} : ∀ {l : List Pr}, setAt (l ++ p :: m) (l.length + 1 + n) v = l ++ p :: setAt m n v
  | [] => by rw [List.nil_append, List.length_nil, show 0 + 1 + n = n + 1 by omega, setAt]; rfl
  | a :: l => by rw [List.cons_append, List.length_cons, show l.length + 1 + 1 + n = (l.length + 1 + n) + 1 by omega, setAt, setAt_gt]; rfl
theorem setAt_len {v : ByteArray} : ∀ {l : List Pr} {n : Nat}, (setAt l n v).length = l.length
  | [], _ => rfl
  | a :: l, 0 => rfl
  | a :: l, n + 1 => by rw [setAt, List.length_cons, setAt_len, List.length_cons]
theorem set_len {T l : Tr} {n : Nat} {v : ByteArray} (h : T.list = setAt l.list n v) : T.len = l.len := by
  unfold Tr.len
  rw [h]
  exact setAt_len
theorem Nd.set {w : World} {b : Nat} {k : Int} {v : ByteArray} {l r : Option Addr} {n : Nat} (h : Nd w b k v l r n) : (∀ x, Nd (w.setCell ⟨b, 1, none⟩ (.string x)) b k x l r n) ∧ (∀ x, Nd (w.setCell ⟨b, 2, none⟩ (.pointer x)) b k v x r n) ∧ (∀ x, Nd (w.setCell ⟨b, 3, none⟩ (.pointer x)) b k v l x n) := by
  obtain ⟨h0, h1, h2, h3, h4⟩ := h
  refine ⟨fun x => ⟨?_, ?_, ?_, ?_, ?_⟩, fun x => ⟨?_, ?_, ?_, ?_, ?_⟩, fun x => ⟨?_, ?_, ?_, ?_, ?_⟩⟩ <;>
    first
    | exact World.cell?_setCell_same' _ _ _ (by simp [h0, h1, h2, h3, h4])
    | exact (World.cell?_setCell_other _ _ _ _ (by simp)).trans (by assumption)
theorem Tr.on_mono {p q : Nat → Prop} (h : ∀ b, p b → q b) : ∀ {t : Tr}, t.on p → t.on q
  | .nil, _ => trivial
  | .node b _ _ l r, k => ⟨h b k.1, Tr.on_mono h k.2.1, Tr.on_mono h k.2.2⟩
theorem Tr.on_lt {B : Nat} : ∀ {t : Tr}, t.lt B → t.on (· < B)
  | .nil, _ => trivial
  | .node b _ _ l r, h => ⟨h.1, Tr.on_lt h.2.1, Tr.on_lt h.2.2⟩
/-- A tree made anew of what lay below B and of what is new. -/
def MadeB (B : Nat) (w : World) (e : Ending) (w' : World) (L : List Pr) : Prop := ∃ T : Tr, e = .returned (.pointer T.ad) ∧ T.In w' ∧ T.list = L ∧ T.on (fun b => b < B ∨ w.heap.size ≤ b) ∧ Below w.heap.size w w'

set_option maxRecDepth 100000 in
set_option maxHeartbeats 4000000 in
theorem changed_any (t : Tr) : ∀ (B n : Nat) (v : ByteArray) (w : World), t.In w → t.lt B → B ≤ w.heap.size → t.len ≤ 1000000 → n < t.len →
    Calls Try.prog 44 #[.pointer t.ad, .int .i64 (n : Int), .string v] w fun e w' => MadeB B w e w' (setAt t.list n v) := by
  induction t with
  | nil =>
    intro B n v w h hB hw hs hn
    rw [Tr.len_nil] at hn
    omega
  | node b bk bv l r ihl ihr =>
    intro B n v w h hB hw hs hn
    have HS : Hid ((Tr.node b bk bv l r).In w) := h
    rw [Tr.len_node] at hs hn
    have HL := Lib.hid (fun (w : World) (h : (Tr.node b bk bv l r).In w) => len_any l w h.2.1)
    obtain ⟨k0, k1, k2, k3, k4⟩ := h.1
    rw [Tr.ad_node]
    have hl : (l.len : Int) ≤ 1000000 := by omega
    have hn1 : (n : Int) ≤ 1000000 := by omega
    obtain ⟨N, hN⟩ : ∃ N : Int, N = ((l.len + 1 + r.len : Nat) : Int) := ⟨_, rfl⟩
    rw [← hN] at k4
    have HN := Lib.hid hN
    have HBB := Lib.hid hB
    have HWB := Lib.hid hw
    by_cases hlt : n < l.len
    · have hc : (n : Int) < (l.len : Int) := by omega
      have HC := Lib.hid (fun (w : World) (h : (Tr.node b bk bv l r).In w) (hw : B ≤ w.heap.size) => ihl B n v w h.2.1 hB.2.1 hw (by omega) hlt)
      have HSE : Hid (setAt (Tr.node b bk bv l r).list n v = setAt l.list n v ++ (bk, bv) :: r.list) := setAt_lt hlt
      clear ihl ihr hs hn hlt hB hw h hN
      have q2 : (w.alloc (.cells #[.int .i64 bk, .string bv, .pointer l.ad, .pointer r.ad, .int .i64 N] 86)).cell? ⟨b, 2, none⟩ = some (.pointer l.ad) := keep_cell k2 (bel_box _ _)
      have q3 : (w.alloc (.cells #[.int .i64 bk, .string bv, .pointer l.ad, .pointer r.ad, .int .i64 N] 86)).cell? ⟨b, 3, none⟩ = some (.pointer r.ad) := keep_cell k3 (bel_box _ _)
      go_enter Try.func44, Try.ntmps44
      go_wp2_with fail
      have HND := Lib.hid (nd_new w bk bv l.ad r.ad N _ HN.out 86)
      have hfr : ∀ o, (w.alloc (.cells #[.int .i64 bk, .string bv, .pointer l.ad, .pointer r.ad, .int .i64 N] 86)).frozen? ⟨w.heap.size, o, none⟩ = false := fun o => by go_simp
      have hsz : (w.alloc (.cells #[.int .i64 bk, .string bv, .pointer l.ad, .pointer r.ad, .int .i64 N] 86)).heap.size = w.heap.size + 1 := by simp
      have HBE : Hid (Below w.heap.size w (w.alloc (.cells #[.int .i64 bk, .string bv, .pointer l.ad, .pointer r.ad, .int .i64 N] 86))) := bel_box _ _
      have HS1 : Hid ((Tr.node b bk bv l r).In (w.alloc (.cells #[.int .i64 bk, .string bv, .pointer l.ad, .pointer r.ad, .int .i64 N] 86))) := HS.out.keep (bel_box _ _)
      generalize (w.alloc (.cells #[.int .i64 bk, .string bv, .pointer l.ad, .pointer r.ad, .int .i64 N] 86)) = w1 at *
      refine (HL.out _ HS1.out).mono ?_
      rintro e w' ⟨rfl, rfl⟩
      go_wp2_with fail
      have hB1 : B ≤ w'.heap.size := by have := HWB.out; omega
      refine (HC.out _ HS1.out hB1).mono ?_
      rintro e w2 ⟨T, rfl, hi, he, ho, hb⟩
      have HI := Lib.hid hi
      have HE := Lib.hid he
      have HO := Lib.hid ho
      have HB2 : Hid (Below w.heap.size w w2) := HBE.out.trans (hb.mono HBE.out.size)
      have HN2 := Lib.hid (HND.out.keep hb)
      have HS2 : Hid ((Tr.node b bk bv l r).In w2) := HS1.out.keep hb
      have hfr2 : w2.frozen? ⟨w.heap.size, 2, none⟩ = false := (hb.frozen (p := ⟨w.heap.size, 2, none⟩) (by simp only; omega)).trans (hfr 2)
      have kc := HN2.out.2.2.1
      clear hi he ho hb hfr q2 q3 k0 k1 k2 k3 k4 HBE HND HS1 HL HC
      go_wp2_with fail
      go_ret
      have hne2 : T.on fun x => x ≠ w.heap.size := Tr.on_mono (fun x hx => by have := HWB.out; rcases hx with hx | hx <;> omega) HO.out
      have hlo : (r).on fun x => x ≠ w.heap.size := Tr.on_mono (fun x hx => by have := HWB.out; omega) (Tr.on_lt HBB.out.2.2)
      refine ⟨.node w.heap.size bk bv T r, rfl, ⟨?_, ?_, ?_⟩, ?_, ⟨.inr (Nat.le_refl _), ?_, ?_⟩, HB2.out.setCell (Nat.le_refl _) _⟩
      · have := HN2.out.set.2.1 T.ad
        rw [show T.len + 1 + r.len = l.len + 1 + r.len by rw [set_len HE.out]]
        exact this
      · exact HI.out.gb (gb_setCell _ _ _ _) hne2
      · exact HS2.out.2.2.gb (gb_setCell _ _ _ _) hlo
      · have e2 := HE.out; rw [list_node, e2, HSE.out]
      · exact Tr.on_mono (fun x hx => by rcases hx with hx | hx <;> omega) HO.out
      · exact Tr.on_mono (fun x hx => .inl hx) (Tr.on_lt HBB.out.2.2)
    by_cases hgt : l.len < n
    · obtain ⟨m, rfl⟩ : ∃ m, n = l.len + 1 + m := ⟨n - (l.len + 1), by omega⟩
      have HC := Lib.hid (fun (w : World) (h : (Tr.node b bk bv l r).In w) (hw : B ≤ w.heap.size) => ihr B m v w h.2.2 hB.2.2 hw (by omega) (by omega))
      have HSE : Hid (setAt (Tr.node b bk bv l r).list (l.len + 1 + m) v = l.list ++ (bk, bv) :: setAt r.list m v) := setAt_gt
      have hz : ((l.len + 1 + m : Nat) : Int) - (l.len : Int) - 1 = (m : Int) := by omega
      have hz2 : (l.len : Int) < ((l.len + 1 + m : Nat) : Int) := by omega
      generalize setAt (Tr.node b bk bv l r).list (l.len + 1 + m) v = R at *
      obtain ⟨M, hM⟩ : ∃ M : Int, M = ((l.len + 1 + m : Nat) : Int) := ⟨_, rfl⟩
      rw [← hM] at hz hz2 hn1 ⊢
      clear hM hgt
      clear ihl ihr hs hn hlt hB hw h hN
      have q2 : (w.alloc (.cells #[.int .i64 bk, .string bv, .pointer l.ad, .pointer r.ad, .int .i64 N] 86)).cell? ⟨b, 2, none⟩ = some (.pointer l.ad) := keep_cell k2 (bel_box _ _)
      have q3 : (w.alloc (.cells #[.int .i64 bk, .string bv, .pointer l.ad, .pointer r.ad, .int .i64 N] 86)).cell? ⟨b, 3, none⟩ = some (.pointer r.ad) := keep_cell k3 (bel_box _ _)
      go_enter Try.func44, Try.ntmps44
      go_wp2_with fail
      have HND := Lib.hid (nd_new w bk bv l.ad r.ad N _ HN.out 86)
      have hfr : ∀ o, (w.alloc (.cells #[.int .i64 bk, .string bv, .pointer l.ad, .pointer r.ad, .int .i64 N] 86)).frozen? ⟨w.heap.size, o, none⟩ = false := fun o => by go_simp
      have hsz : (w.alloc (.cells #[.int .i64 bk, .string bv, .pointer l.ad, .pointer r.ad, .int .i64 N] 86)).heap.size = w.heap.size + 1 := by simp
      have HBE : Hid (Below w.heap.size w (w.alloc (.cells #[.int .i64 bk, .string bv, .pointer l.ad, .pointer r.ad, .int .i64 N] 86))) := bel_box _ _
      have HS1 : Hid ((Tr.node b bk bv l r).In (w.alloc (.cells #[.int .i64 bk, .string bv, .pointer l.ad, .pointer r.ad, .int .i64 N] 86))) := HS.out.keep (bel_box _ _)
      generalize (w.alloc (.cells #[.int .i64 bk, .string bv, .pointer l.ad, .pointer r.ad, .int .i64 N] 86)) = w1 at *
      refine (HL.out _ HS1.out).mono ?_
      rintro e w' ⟨rfl, rfl⟩
      go_wp2_with fail
      have hB1 : B ≤ w'.heap.size := by have := HWB.out; omega
      refine (HC.out _ HS1.out hB1).mono ?_
      rintro e w2 ⟨T, rfl, hi, he, ho, hb⟩
      have HI := Lib.hid hi
      have HE := Lib.hid he
      have HO := Lib.hid ho
      have HB2 : Hid (Below w.heap.size w w2) := HBE.out.trans (hb.mono HBE.out.size)
      have HN2 := Lib.hid (HND.out.keep hb)
      have HS2 : Hid ((Tr.node b bk bv l r).In w2) := HS1.out.keep hb
      have hfr2 : w2.frozen? ⟨w.heap.size, 3, none⟩ = false := (hb.frozen (p := ⟨w.heap.size, 3, none⟩) (by simp only; omega)).trans (hfr 3)
      have kc := HN2.out.2.2.2.1
      clear hi he ho hb hfr q2 q3 k0 k1 k2 k3 k4 HBE HND HS1 HL HC
      go_wp2_with fail
      go_ret
      have hne2 : T.on fun x => x ≠ w.heap.size := Tr.on_mono (fun x hx => by have := HWB.out; rcases hx with hx | hx <;> omega) HO.out
      have hlo : (l).on fun x => x ≠ w.heap.size := Tr.on_mono (fun x hx => by have := HWB.out; omega) (Tr.on_lt HBB.out.2.1)
      refine ⟨.node w.heap.size bk bv l T, rfl, ⟨?_, ?_, ?_⟩, ?_, ⟨.inr (Nat.le_refl _), ?_, ?_⟩, HB2.out.setCell (Nat.le_refl _) _⟩
      · have := HN2.out.set.2.2 T.ad
        rw [show l.len + 1 + T.len = l.len + 1 + r.len by rw [set_len HE.out]]
        exact this
      · exact HS2.out.2.1.gb (gb_setCell _ _ _ _) hlo
      · exact HI.out.gb (gb_setCell _ _ _ _) hne2
      · have e2 := HE.out; rw [list_node, e2, HSE.out]
      · exact Tr.on_mono (fun x hx => .inl hx) (Tr.on_lt HBB.out.2.1)
      · exact Tr.on_mono (fun x hx => by rcases hx with hx | hx <;> omega) HO.out
    obtain rfl : n = l.len := by omega
    have HSE : Hid (setAt (Tr.node b bk bv l r).list l.len v = l.list ++ (bk, v) :: r.list) := setAt_eq
    generalize setAt (Tr.node b bk bv l r).list l.len v = R at *
    clear hgt
    clear ihl ihr hs hn hlt hB hw h hN
    have q2 : (w.alloc (.cells #[.int .i64 bk, .string bv, .pointer l.ad, .pointer r.ad, .int .i64 N] 86)).cell? ⟨b, 2, none⟩ = some (.pointer l.ad) := keep_cell k2 (bel_box _ _)
    have q3 : (w.alloc (.cells #[.int .i64 bk, .string bv, .pointer l.ad, .pointer r.ad, .int .i64 N] 86)).cell? ⟨b, 3, none⟩ = some (.pointer r.ad) := keep_cell k3 (bel_box _ _)
    go_enter Try.func44, Try.ntmps44
    go_wp2_with fail
    have HND := Lib.hid (nd_new w bk bv l.ad r.ad N _ HN.out 86)
    have hfr : ∀ o, (w.alloc (.cells #[.int .i64 bk, .string bv, .pointer l.ad, .pointer r.ad, .int .i64 N] 86)).frozen? ⟨w.heap.size, o, none⟩ = false := fun o => by go_simp
    have hsz : (w.alloc (.cells #[.int .i64 bk, .string bv, .pointer l.ad, .pointer r.ad, .int .i64 N] 86)).heap.size = w.heap.size + 1 := by simp
    have HBE : Hid (Below w.heap.size w (w.alloc (.cells #[.int .i64 bk, .string bv, .pointer l.ad, .pointer r.ad, .int .i64 N] 86))) := bel_box _ _
    have HS1 : Hid ((Tr.node b bk bv l r).In (w.alloc (.cells #[.int .i64 bk, .string bv, .pointer l.ad, .pointer r.ad, .int .i64 N] 86))) := HS.out.keep (bel_box _ _)
    generalize (w.alloc (.cells #[.int .i64 bk, .string bv, .pointer l.ad, .pointer r.ad, .int .i64 N] 86)) = w1 at *
    refine (HL.out _ HS1.out).mono ?_
    rintro e w' ⟨rfl, rfl⟩
    have kc := HND.out.2.1
    go_wp2_with fail
    go_ret
    have hlo : l.on fun x => x ≠ w.heap.size := Tr.on_mono (fun x hx => by have := HWB.out; omega) (Tr.on_lt HBB.out.2.1)
    have hro : r.on fun x => x ≠ w.heap.size := Tr.on_mono (fun x hx => by have := HWB.out; omega) (Tr.on_lt HBB.out.2.2)
    refine ⟨.node w.heap.size bk v l r, rfl, ⟨HND.out.set.1 v, HS1.out.2.1.gb (gb_setCell _ _ _ _) hlo, HS1.out.2.2.gb (gb_setCell _ _ _ _) hro⟩, by rw [list_node, HSE.out], ⟨.inr (Nat.le_refl _), ?_, ?_⟩, HBE.out.setCell (Nat.le_refl _) _⟩
    · exact Tr.on_mono (fun x hx => .inl hx) (Tr.on_lt HBB.out.2.1)
    · exact Tr.on_mono (fun x hx => .inl hx) (Tr.on_lt HBB.out.2.2)
end Go.Proofs.Ytmmcnpcijeahcaa.J
