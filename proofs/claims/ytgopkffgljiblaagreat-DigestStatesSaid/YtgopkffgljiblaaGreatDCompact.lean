/-
  The library's Compact at a list of dots in order.
-/
import Derived.Test.YtgopkffgljiblaaGreatDSort
import Derived.Lib.SliceRun
namespace Go.Proofs.YtgopkffgljiblaaGreat.D
set_option linter.unusedVariables false
open Go.RowKit V Go.Sort

theorem run_clearD (w : World) (g n k c : Nat) (f : Nat → Dt) (h : Rw w g n f) (hk : k < n) : ∃ vs, ∀ ty, (Builtin.clear_ #[22] ty #[.slice (some ⟨g, k * 2, none⟩) (n - k) c]).run Tryz.prog w = .ok (.tuple #[]) (w.setCells g (k * 2) vs) := by
  have hzc : (Builtin.zeroCells (Value.cells (.agg #[.int .i64 0, .int .i64 0])) (n - k)).toList.length = (n - k) * 2 := by simp [Builtin.zeroCells, Value.cells]
  have hzo : ∀ v ∈ (Builtin.zeroCells (Value.cells (.agg #[.int .i64 0, .int .i64 0])) (n - k)).toList, v.oneCell' = true := by
    intro v hv
    simp [Builtin.zeroCells, Value.cells] at hv
    obtain ⟨j, -, rfl⟩ := hv
    rcases Nat.mod_two_eq_zero_or_one j with h0 | h0 <;> simp [h0] <;> rfl
  refine ⟨(Builtin.zeroCells (Value.cells (.agg #[.int .i64 0, .int .i64 0])) (n - k)).toList, fun ty => ?_⟩
  have hcell : ∀ j, j < n * 2 → (w.cell? ⟨g, j, none⟩).isSome = true ∧ w.frozen? ⟨g, j, none⟩ = false := by
    intro j hj
    obtain ⟨h1, h2, h3, h4⟩ := h.2 (j / 2) (by omega)
    rcases Nat.mod_two_eq_zero_or_one j with h0 | h0
    · rw [show j / 2 * 2 = j by omega] at h1 h3
      exact ⟨by rw [h1]; rfl, h3⟩
    · rw [show j / 2 * 2 + 1 = j by omega] at h2 h4
      exact ⟨by rw [h2]; rfl, h4⟩
  have hst := run_storeCells_cells (P := Tryz.prog) g (k * 2) (Builtin.zeroCells (Value.cells (.agg #[.int .i64 0, .int .i64 0])) (n - k)).toList 0 w
    (fun j hj => by rw [Nat.add_zero]; exact (hcell _ (by omega)).1) (fun j hj => by rw [Nat.add_zero]; exact (hcell _ (by omega)).2) hzo
  simp only [Nat.add_zero] at hst
  obtain ⟨m, hm⟩ : ∃ m, n - k = m + 1 := ⟨n - k - 1, by omega⟩
  rw [hm] at hst ⊢
  have hv := Tryz.zeroValue48
  simp [Builtin.clear_, run_underlying Tryz.underlying22, hv, hst]

theorem ix0 (g n c k : Nat) (z : Int) (hz : z = (k : Int)) (hk : k < n) : ∀ w, (Instr.indexAt 22 (.slice (some ⟨g, 0, none⟩) n c) (.int .i64 z)).run Tryz.prog w = .ok (.pointer (some ⟨g, k * 2, none⟩)) w := by
  have := ix_dot g 0 n c k z hz hk
  rwa [Nat.zero_add] at this
theorem cut0 (g len cap m : Nat) (hm : m < len) (hlc : len ≤ cap) : ∀ wx : World,
    (Instr.slice 22 (.slice (some ⟨g, 0, none⟩) len cap) (some (.int .i64 (m : Int))) none none).run Tryz.prog wx = .ok (.slice (some ⟨g, m * 2, none⟩) (len - m) (cap - m)) wx := by
  have := cut_hi (some ⟨g, 0, none⟩) len cap m (len - m) (by omega) hlc
  have e : off (some ⟨g, 0, none⟩) cap m = some ⟨g, m * 2, none⟩ := by
    unfold off
    rw [if_neg (by omega)]
    simp [Addr.add]
    omega
  rwa [e] at this

theorem wk_at {l : List Dt} (h : Wk l) {i j : Nat} (hij : i < j) (hj : j < l.length) : less l[j] (l[i]'(by omega)) = false := (List.pairwise_iff_getElem.1 h) i j (by omega) hj hij
/-- What is new stands behind all that was there. -/
theorem wk_new {l : List Dt} (h : Wk l) {k : Nat} (hk : k + 1 < l.length) (hne : ¬ l[k + 1] = l[k]) : ∀ x ∈ l.take (k + 1), less x l[k + 1] = true := by
  have h0 : less l[k] l[k + 1] = true := by
    rcases e : less l[k] l[k + 1] with _ | _
    · exact absurd (less_tri (wk_at h (Nat.lt_succ_self k) hk) e) hne
    · rfl
  intro x hx
  obtain ⟨i, hi, rfl⟩ := List.mem_iff_getElem.1 hx
  rw [List.length_take] at hi
  rw [List.getElem_take]
  by_cases e : i = k
  · subst e; exact h0
  · have h1 := wk_at h (show i < k by omega) (by omega)
    rw [less_iff] at h0 ⊢
    rw [← Bool.not_eq_true, less_iff] at h1
    omega
theorem mem_take_succ {l : List Dt} {k : Nat} (hk : k < l.length) (x : Dt) : x ∈ l.take (k + 1) ↔ x ∈ l.take k ∨ x = l[k] := by
  rw [List.take_succ_eq_append_getElem hk, List.mem_append, List.mem_singleton]
theorem srt_snoc {q : List Dt} (h : Srt q) {x : Dt} (hx : ∀ y ∈ q, less y x = true) : Srt (q ++ [x]) := by
  unfold Srt at *
  rw [List.pairwise_append]
  exact ⟨h, by simp, fun a ha b hb => by rw [List.mem_singleton] at hb; subst hb; exact hx a ha⟩
theorem mem_take_last {l : List Dt} {k : Nat} (hk : k + 1 < l.length) (he : l[k + 1] = l[k]) (x : Dt) : x ∈ l.take (k + 2) ↔ x ∈ l.take (k + 1) := by
  rw [mem_take_succ hk]
  constructor
  · rintro (h | rfl)
    · exact h
    · rw [he, mem_take_succ (by omega)]; exact .inr rfl
  · exact .inl

/-- What the second loop keeps: the first dots of the row are q, those from j - 1 on are as they were. -/
structure Inv (l q : List Dt) (j : Nat) (f : Nat → Dt) : Prop where
  low : ∀ i (h : i < q.length), f i = q[i]
  high : ∀ i, j ≤ i + 1 → i < l.length → f i = l[i]!
  srt : Srt q
  mem : ∀ x, x ∈ q ↔ x ∈ l.take j
  len : q.length + 1 ≤ j
  le : j ≤ l.length
theorem Inv.start {l : List Dt} {k : Nat} (hk : k + 1 < l.length) (hs : Srt (l.take (k + 1))) (he : l[k + 1] = l[k]) : Inv l (l.take (k + 1)) (k + 2) (fun i => l[i]!) := {
  low := fun i h => by
    rw [List.getElem_take]
    rw [List.length_take] at h
    exact getElem!_pos l i (by omega)
  high := fun i _ _ => rfl
  srt := hs
  mem := fun x => (mem_take_last hk he x).symm
  len := by rw [List.length_take]; omega
  le := hk }
theorem Inv.skip {l q : List Dt} {j : Nat} {f : Nat → Dt} (h : Inv l q (j + 1) f) (hj : j + 1 < l.length) (he : l[j + 1] = l[j]) : Inv l q (j + 2) f := {
  low := h.low
  high := fun i hi hl => h.high i (by omega) hl
  srt := h.srt
  mem := fun x => by rw [h.mem, mem_take_last hj he]
  len := by have := h.len; omega
  le := hj }
theorem Inv.keep {l q : List Dt} {j : Nat} {f : Nat → Dt} (hW : Wk l) (h : Inv l q (j + 1) f) (hj : j + 1 < l.length) (hne : ¬ l[j + 1] = l[j]) : Inv l (q ++ [l[j + 1]]) (j + 2) (fun i => if i = q.length then l[j + 1] else f i) := {
  low := fun i hi => by
    rw [List.length_append, List.length_singleton] at hi
    by_cases e : i = q.length
    · subst e
      simp
    · simp only [if_neg e]
      rw [h.low i (by omega), List.getElem_append_left (by omega)]
  high := fun i hi hl => by
    have := h.len
    rw [if_neg (by omega)]
    exact h.high i (by omega) hl
  srt := srt_snoc h.srt fun y hy => wk_new hW hj hne y ((h.mem y).1 hy)
  mem := fun x => by rw [List.mem_append, List.mem_singleton, h.mem, mem_take_succ hj]
  len := by have := h.len; simp; omega
  le := hj }

theorem Rw.get {w : World} {g : Nat} {l : List Dt} (h : Rw w g l.length fun i => l[i]!) {k : Nat} (hk : k < l.length) :
    w.cell? ⟨g, k * 2, none⟩ = some (.int .i64 l[k].1) ∧ w.cell? ⟨g, k * 2 + 1, none⟩ = some (.int .i64 l[k].2) := by
  obtain ⟨h1, h2, -, -⟩ := h.2 k hk
  have e : (fun i => l[i]!) k = l[k] := getElem!_pos l k hk
  rw [e] at h1 h2
  exact ⟨h1, h2⟩
/-- What is handed back: the dots of the list, each once, in order. -/
def Comp (w' : World) (g c : Nat) (l : List Dt) (v : Value) : Prop :=
  ∃ m : List Dt, v = .slice (some ⟨g, 0, none⟩) m.length c ∧ Srt m ∧ (∀ x, x ∈ m ↔ x ∈ l) ∧ Rw w' g m.length (fun i => m[i]!)

set_option maxRecDepth 100000 in
set_option maxHeartbeats 1000000 in
theorem compact_any (g : Nat) (l : List Dt) (c : Nat) (w : World) (hW : Wk l) (h : Rw w g l.length fun i => l[i]!) (hlc : l.length ≤ c) (hlen : l.length ≤ 1000000) :
    Calls Tryz.prog 96 #[.slice (some ⟨g, 0, none⟩) l.length c] w fun e w' =>
      ∃ v, e = .returned v ∧ Comp w' g c l v ∧ Below g w w' := by
  have HW := Lib.hid hW
  have HR := Lib.hid h
  have HLc := Lib.hid hlc
  have hli : (l.length : Int) ≤ 1000000 := by omega
  have hg : g < w.heap.size := h.1
  have HG := Lib.hid hg
  clear hW h hlc hlen hg
  by_cases h2 : l.length < 2
  · have hd : (l.length : Int) < 2 := by omega
    have HS : Hid (Srt l) := by
      show Srt l
      unfold Srt
      rw [List.pairwise_iff_getElem]
      intro i j hi hj hij
      omega
    clear h2
    go_enter Tryz.func96, Tryz.ntmps96
    go_wp2_with fail
    go_ret
    exact ⟨_, rfl, ⟨l, rfl, HS.out, fun x => Iff.rfl, HR.out⟩, Below.refl _ _⟩
  · have hd : ¬ (l.length : Int) < 2 := by omega
    go_enter Tryz.func96, Tryz.ntmps96
    go_wp2_with fail
    go_loopw [3] (fun i wr => ∃ k : Nat, k + 1 ≤ l.length ∧ i = .int .i64 ((k : Int) + 1) ∧ Hid (Below w.heap.size w wr) ∧ Hid (Srt (l.take (k + 1)))) (fun i _ => l.length - (intOf i).toNat)
    case atStart =>
      refine ⟨0, by omega, rfl, Below.refl _ _, ?_⟩
      show Srt _
      unfold Srt
      rw [List.pairwise_iff_getElem]
      intro i j hi hj hij
      rw [List.length_take] at hj
      omega
    case round =>
      obtain ⟨k, hk, rfl, hh, HS⟩ := hrel
      by_cases hlt : k + 1 < l.length
      · have hi1 : (k : Int) + 1 < (l.length : Int) := by omega
        have hRr := HR.out.below hh.out
        obtain ⟨p0, p1⟩ := hRr.get (k := k) (by omega)
        obtain ⟨q0, q1⟩ := hRr.get hlt
        obtain ⟨p, hp⟩ : ∃ p, p = l[k] := ⟨_, rfl⟩
        obtain ⟨q, hq⟩ : ∃ q, q = l[k + 1] := ⟨_, rfl⟩
        rw [← hp] at p0 p1
        rw [← hq] at q0 q1
        have hwr := wrap_nat (show (k : Int) ≤ 140737488355328 by omega)
        have hx0 := ix0 g l.length c k k rfl (by omega)
        have hx1 := ix0 g l.length c (k + 1) ((k : Int) + 1) (by omega) hlt
        have hs2 := cut0 g l.length c (k + 1) hlt HLc.out
        rw [show ((k + 1 : Nat) : Int) = (k : Int) + 1 by omega] at hs2
        obtain ⟨n2, hn2⟩ : ∃ n2, l.length - (k + 1) = n2 := ⟨_, rfl⟩
        obtain ⟨c2, hc2⟩ : ∃ c2, c - (k + 1) = c2 := ⟨_, rfl⟩
        rw [hn2, hc2] at hs2
        have HN2 := Lib.hid hn2
        clear hRr hn2 hc2
        by_cases he : q = p
        · have HI := Lib.hid (Inv.start hlt HS.out (by rw [← hp, ← hq]; exact he))
          have HLq : Hid ((l.take (k + 1)).length = k + 1) := by show _ = _; rw [List.length_take]; omega
          clear hp hq
          subst he
          go_wp2_with fail
          go_quiet (fail)
          go_wp2_with fail
          have HL0 := Lib.hid hlt
          clear p0 p1 q0 q1 hx0 hx1 hs2 hwr hlt hi1 HS
          go_loopw [3, 5] (fun s3 s5 wx => ∃ (Q : List Dt) (m : Nat), s3 = .int .i64 (Q.length : Int) ∧ s5 = .int .i64 ((m : Int) + 1) ∧ m + 1 ≤ n2 ∧ Hid (Below g w wx) ∧ Hid (∃ f, Rw wx g l.length f ∧ Inv l Q (k + m + 2) f)) (fun _ i _ => n2 - (intOf i).toNat)
          case atStart =>
            refine ⟨l.take (k + 1), 0, by rw [HLq.out]; go_num, rfl, by have := HN2.out; have := HL0.out; omega, bel_drewN (hh.out.mono (Nat.le_of_lt HG.out)) _, _, (HR.out.below hh.out).below (bel_drewN (Below.refl _ _) _), HI.out⟩
          case round =>
            obtain ⟨Q, m, rfl, rfl, hm, hB, hf⟩ := hrel
            have hm2 : (m : Int) + 1 ≤ (n2 : Int) := by omega
            have hnb : (n2 : Int) ≤ 1000000 := by have := HN2.out; omega
            by_cases hlt : m + 1 < n2
            · have hi1 : (m : Int) + 1 < (n2 : Int) := by omega
              obtain ⟨f, hRf, hIf⟩ := hf.out
              have hN2 := HN2.out
              have hQl := hIf.len
              have hj : k + m + 2 < l.length := by omega
              obtain ⟨p0, p1, -, -⟩ := hRf.2 (k + m + 1) (by omega)
              obtain ⟨q0, q1, -, -⟩ := hRf.2 (k + m + 2) (by omega)
              obtain ⟨t0, t1, z0, z1⟩ := hRf.2 Q.length (by omega)
              have e1 : f (k + m + 1) = l[k + m + 1] := (hIf.high _ (by omega) (by omega)).trans (getElem!_pos l _ (by omega))
              have e2 : f (k + m + 2) = l[k + m + 2] := (hIf.high _ (by omega) (by omega)).trans (getElem!_pos l _ (by omega))
              rw [e1, show (k + m + 1) * 2 = (k + 1) * 2 + m * 2 by omega] at p0 p1
              rw [e2, show (k + m + 2) * 2 = (k + 1) * 2 + (m + 1) * 2 by omega] at q0 q1
              obtain ⟨p, hp⟩ : ∃ p, p = l[k + m + 1] := ⟨_, rfl⟩
              obtain ⟨r, hr⟩ : ∃ r, r = l[k + m + 2] := ⟨_, rfl⟩
              rw [← hp] at p0 p1
              rw [← hr] at q0 q1
              have hwr := wrap_nat (show (m : Int) ≤ 140737488355328 by omega)
              have hx0 := ix_dot g ((k + 1) * 2) n2 c2 m m rfl (by omega)
              have hx1 := ix_dot g ((k + 1) * 2) n2 c2 (m + 1) ((m : Int) + 1) (by omega) hlt
              have hx2 := ix0 g l.length c Q.length Q.length rfl (by omega)
              have hql : (Q.length : Int) ≤ 1000000 := by omega
              have HRf := Lib.hid hRf
              have HIe : Hid (r = p → Inv l Q (k + (m + 1) + 2) f) := fun he => hIf.skip hj (by rw [← hp, ← hr]; exact he)
              have HIn : Hid (¬ r = p → Inv l (Q ++ [r]) (k + (m + 1) + 2) (fun i => if i = Q.length then r else f i)) := by
                intro he
                have := hIf.keep HW.out hj (by rw [← hp, ← hr]; exact he)
                rw [← hr] at this
                exact this
              have HQ := Lib.hid (show Q.length < l.length by omega)
              clear hN2 e1 e2 hRf hIf hQl hf hp hr hj
              by_cases he : r = p
              · have HI2 : Hid (∃ f, Rw wr g l.length f ∧ Inv l Q (k + (m + 1) + 2) f) := ⟨f, HRf.out, HIe.out he⟩
                clear t0 t1 z0 z1 hx2 HIe HIn
                subst he
                go_wp2_with fail
                go_quiet (fail)
                go_wp2_with fail
                go_roundw
                case rel =>
                  obtain ⟨f2, h1, h2⟩ := HI2.out
                  exact ⟨Q, m + 1, rfl, by go_num, by omega, bel_drewN hB.out _, f2, h1.below (bel_drewN (Below.refl _ _) _), h2⟩
                case measure => simp [intOf]; omega
              · have hne := neq_yes he
                have HI2 := Lib.hid (HIn.out he)
                clear he HIe HIn
                go_wp2_with fail
                go_quiet (fail)
                go_wp2_with fail
                go_roundw
                case rel =>
                  refine ⟨Q ++ [r], m + 1, by simp, by go_num, by omega, ((bel_drewN hB.out nq).setCell (p := ⟨g, _, none⟩) (Nat.le_refl _) _).setCell (p := ⟨g, _, none⟩) (Nat.le_refl _) _, _, Rw.put (HRf.out.below (bel_drewN (Below.refl _ _) nq)) Q.length HQ.out r, HI2.out⟩
                case measure => simp [intOf]; omega
            · have hi1 : ¬ (m : Int) + 1 < (n2 : Int) := by omega
              obtain ⟨f, hRf, hIf⟩ := hf.out
              have hN2 := HN2.out
              have hQl := hIf.len
              have hj : k + m + 2 = l.length := by have := HL0.out; omega
              rw [hj] at hIf
              obtain ⟨vs, hcl⟩ := run_clearD wr g l.length Q.length (c - Q.length) f hRf (by omega)
              have hs3 := cut0 g l.length c Q.length (by omega) HLc.out
              have hs4 := cut_lo (some ⟨g, 0, none⟩) l.length c Q.length (by have := HLc.out; omega)
              have HIf := Lib.hid hIf
              have HRf := Lib.hid hRf
              have hql : (Q.length : Int) ≤ 1000000 := by omega
              clear hN2 hRf hIf hj hQl hf
              go_wp2_with fail
              go_ret
              have hI := HIf.out
              refine ⟨_, rfl, ⟨Q, rfl, hI.srt, fun x => by rw [hI.mem, List.take_length], ?_⟩, below_setCells g (Nat.le_refl _) vs _ _ hB.out⟩
              have h1 := HRf.out.clears (k := Q.length) (by have := hI.len; omega) vs
              exact h1.congr fun i hi => (hI.low i hi).trans (getElem!_pos Q i hi).symm
        · have hne := eql_no he
          have HS2 : Hid (Srt (l.take (k + 2))) := by
            show Srt _
            rw [List.take_succ_eq_append_getElem hlt]
            exact srt_snoc HS.out (wk_new HW.out hlt (by rw [← hp, ← hq]; exact he))
          clear he hp hq
          go_wp2_with fail
          go_quiet (fail)
          go_wp2_with fail
          go_roundw
          case rel => exact ⟨k + 1, by omega, by go_num, bel_drewN hh.out _, HS2⟩
          case measure => simp [intOf]; omega
      · have hend : ¬ (k : Int) + 1 < (l.length : Int) := by omega
        have HS2 : Hid (Srt l) := by
          have := HS.out
          rw [List.take_of_length_le (by omega)] at this
          exact this
        go_wp2_with fail
        go_ret
        exact ⟨_, rfl, ⟨l, rfl, HS2.out, fun x => Iff.rfl, HR.out.below hh.out⟩, hh.out.mono (Nat.le_of_lt HG.out)⟩
end Go.Proofs.YtgopkffgljiblaaGreat.D
