/-
  Layer 17: what a writer is given: a state.
-/
import Derived.Test.YtfmlenhakejefaaMJnC
import Derived.Test.YtfmlenhakejefaaRTextC
namespace Go.Proofs.Ytfmlenhakejefaa.Ca
set_option linter.unusedVariables false
open Go.RowKit V Go.Sort D Nd Qs Jn
attribute [local irreducible] Sch.heldN Sch.stepV Sch.stepE

theorem infoR : (Try.prog.info? 21).map (fun i => (i.zero, i.size, i.bytes)) = some (some (.int .i32 0), 1, 4) := by kernel_rfl
/-- The runes of what is alive. -/
def lifeR (l : List Nt) : List Int := l.flatMap fun x => if x.2.2.2 = 0 then [] else [x.2.2.2]
theorem lifeR_snoc (l : List Nt) (x : Nt) : lifeR (l ++ [x]) = lifeR l ++ if x.2.2.2 = 0 then [] else [x.2.2.2] := by simp [lifeR]
theorem lifeR_len (l : List Nt) : (lifeR l).length ≤ l.length := by
  induction l with
  | nil => simp [lifeR]
  | cons x t ih =>
    have e : lifeR (x :: t) = (if x.2.2.2 = 0 then [] else [x.2.2.2]) ++ lifeR t := rfl
    rw [e, List.length_append, List.length_cons]
    split
    · rw [List.length_nil]; omega
    · rw [List.length_singleton]; omega
theorem lifeR_text (l : List Nt) : R.encs (R.nats (lifeR l)) = textB l := by
  induction l with
  | nil => rfl
  | cons x t ih =>
    unfold lifeR textB R.nats at *
    rw [List.flatMap_cons, List.flatMap_cons, List.map_append, R.encs_append, ih]
    congr 1
    unfold runeB
    split <;> simp [R.encs]
theorem lifeR_vld {l : List Nt} (h : ∀ x ∈ l, VN x) : ∀ z ∈ lifeR l, R.vld z = true := by
  intro z hz
  unfold lifeR at hz
  rw [List.mem_flatMap] at hz
  obtain ⟨x, hx, hz⟩ := hz
  have := (h x hx).2.2.2.2.2
  split at hz
  · simp at hz
  · rename_i h0
    rw [List.mem_singleton] at hz
    rw [hz]
    exact this.resolve_left h0

/-- A writer, and a row of runes apart from it. -/
structure Sp (w0 w : World) (b : Nat) (v : Value) (L : List UInt8) (t : Value) (zs : List Int) : Prop where
  ws : Ws w0 w b v L
  tx : G.OI w w0.heap.size 21 .i32 t zs
  tb : t.ownBlock ≠ some b
  ap : Apart v t
section
variable {w0 w w' : World} {b : Nat} {v v' t t' : Value} {L L' : List UInt8} {zs zs' : List Int}
theorem Sp.new (h : Ws w0 w b v L) : Sp w0 w b v L (.slice none 0 0) [] := ⟨h, G.OI.nil _ _ _ _, (fun e => by cases e), (fun k _ e => by cases e)⟩
theorem Sp.below (h : Sp w0 w b v L t zs) (hb : Below w.heap.size w w') : Sp w0 w' b v L t zs := ⟨h.ws.below hb, h.tx.below hb, h.tb, h.ap⟩
theorem OI.of_heap {base : Nat} {E : TypeId} {k : IntKind} (h : G.OI w base E k t zs) (hh : ∀ g, t.ownBlock = some g → w'.heap[g]? = w.heap[g]?) : G.OI w' base E k t zs := by
  refine ⟨h.1, ?_⟩
  rcases h.2 with hn | ⟨g, cap, cur, rfl, hbg, hgg, rest⟩
  · exact .inl hn
  · refine .inr ⟨g, cap, cur, rfl, hbg, ?_, rest⟩
    rw [hh g rfl]
    exact hgg
theorem Sp.wstep (h : Sp w0 w b v L t zs) (hw : Wr w' w0.heap.size b v' L') (hf : Wf w w' b v) (hg : Grew w v v') : Sp w0 w' b v' L' t zs := by
  refine ⟨h.ws.step hw hf, OI.of_heap h.tx (fun g e => hf.block g (h.tx.lt g e).2 (fun e2 => h.tb (by rw [e, e2])) (fun e2 => h.ap g e2.symm e)), h.tb, ?_⟩
  intro k hk e
  rcases hg with hg | ⟨g, h1, h2⟩
  · exact h.ap k (hg ▸ hk) e
  · rw [hk] at h1
    cases h1
    have := (h.tx.lt k e).2
    omega
theorem wr_gbx {base : Nat} {row : Option Nat} (h : Wr w base b v L) (hg : w.grownBy w' row) (hb : row ≠ some b) (hv : v.ownBlock = none ∨ v.ownBlock ≠ row) : Wr w' base b v L := by
  have hlt := h.lt
  obtain ⟨⟨T, hh⟩, ho, hne⟩ := h
  exact ⟨⟨T, by rw [hg.block b hlt (fun e => hb e.symm), hh]⟩, ho.keep hg hv, hne⟩
theorem Sp.tstep (h : Sp w0 w b v L t zs) (ho : G.OI w' w0.heap.size 21 .i32 t' zs') (hg : w.grownBy w' t.ownBlock) (hr : G.Grew w t t') : Sp w0 w' b v L t' zs' := by
  have hbl := h.ws.wr.lt
  refine ⟨⟨wr_gbx h.ws.wr hg h.tb ?_, h.ws.bl.grown hg h.ws.bl.size (fun k hk => (h.tx.lt k hk).1), h.ws.nb⟩, ho, ?_, ?_⟩
  · rcases hv : v.ownBlock with _ | k
    · exact .inl rfl
    · exact .inr fun e => h.ap k hv e.symm
  · rcases hr with hr | hr
    · rw [hr]; exact h.tb
    · rw [hr]; intro e; cases e; omega
  · intro k hk e
    rcases hr with hr | hr
    · exact h.ap k hk (hr ▸ e)
    · rw [hr] at e
      cases e
      have := (h.ws.wr.2.1.lt _ hk).2
      omega
end
set_option maxRecDepth 100000 in
set_option maxHeartbeats 4000000 in
theorem putState_any (l : List Nt) (hv : validS l = true) (hll : l.length ≤ 100000) (w0 w : World) (a : Option Addr) (c : Nat) (hx : RowN w0 a l) (b : Nat) (v : Value) (L : List UInt8) (hL : L.length ≤ 10000000) (h : Ws w0 w b v L) :
    Calls Try.prog 42 #[.pointer (some ⟨b, 0, none⟩), .slice a l.length c] w fun e w' =>
      e = .returned (.tuple #[]) ∧ ∃ v', Ws w0 w' b v' (L ++ stateB l) := by
  have HU := Lib.hid (valid_up hv)
  have HVn := Lib.hid (lifeR_vld (fun x hx => valid_vn.1 ((validS_iff.1 hv).1 x hx)))
  have HX := Lib.hid hx
  have HS := Lib.hid h
  have HL := Lib.hid hL
  have HLl := Lib.hid hll
  have hi : (l.length : Int) ≤ 100000 := by omega
  have N0 := Lib.hid (num_ten (n := l.length) (by omega))
  clear hx h hL hv
  go_enter Try.func42, Try.ntmps42
  go_wp2_with fail
  refine (wnum_row w w0.heap.size b _ _ [l.length] _ _ rfl (by simp) HS.out.wr (by intro n hn; simp only [List.mem_cons, List.not_mem_nil, or_false] at hn; omega) (by have := HL.out; simp only [List.length_cons, List.length_nil] at *; omega) HS.out.bl.size _ _ _ rfl rfl).mono ?_
  rintro e w1 ⟨rfl, v1, hw, hf, hg⟩
  rw [nums_one] at hw
  have HP := Lib.hid (Sp.new (HS.out.step hw hf))
  clear hw hf hg HS
  go_wp2_with fail
  go_loopw [4, 5, 18] (fun t la i wr => ∃ (k : Nat) (x : Value), k ≤ l.length ∧ i = .int .i64 (k : Int) ∧ la = .int .i64 (lastC 0 (l.take k)) ∧ Hid (Sp w0 wr b x (L ++ num l.length ++ nodesB 0 (l.take k)) t (lifeR (l.take k)))) (fun _ _ i _ => l.length - (intOf i).toNat)
  case atStart => exact ⟨0, v1, Nat.zero_le _, rfl, rfl, by show Sp _ _ _ _ _ _ _; simpa [nodesB, lifeR] using HP.out⟩
  case round =>
    clear HP
    obtain ⟨k, x, hk, rfl, rfl, HZ⟩ := hrel
    by_cases hlt : k < l.length
    · have hi0 : (k : Int) < (l.length : Int) := by omega
      obtain ⟨b1, o1, rfl, hna⟩ := na_of (HX.out.keep HZ.out.ws.bl) k hlt
      have hx0 := ixS b1 o1 l.length c k (k : Int) rfl hlt
      have hla := last_le HU.out k hlt
      have hl0 := last_pos HU.out (Int.le_refl 0) k hk
      have hlen := nodesB_len (l.take k) 0 (Int.le_refl 0) (up_take HU.out k)
      have hkl : (l.take k).length ≤ 100000 := by have := HLl.out; rw [List.length_take]; omega
      have LP : Hid ((L ++ num l.length ++ nodesB 0 (l.take k)).length ≤ 90000000) := by have := N0.out; have := HL.out; show _ ≤ _; simp only [List.length_append]; omega
      have LX : Hid ((lifeR (l.take k)).length ≤ 100000) := Nat.le_trans (lifeR_len _) hkl
      clear hlen hkl
      have HBl := Lib.hid (nodesB_snoc 0 (l.take k) l[k])
      have HTl := Lib.hid (lifeR_snoc (l.take k) l[k])
      have HLa := Lib.hid (lastC_snoc 0 (l.take k) l[k])
      rw [← take_one l k hlt] at HBl HTl HLa
      obtain ⟨q, hq⟩ : ∃ q, q = l[k] := ⟨_, rfl⟩
      rw [← hq] at hna hla HBl HTl HLa
      clear hq
      obtain ⟨hla, hvn⟩ := hla
      have HVq := Lib.hid hvn
      generalize hLA : lastC 0 (l.take k) = la at *
      obtain ⟨P, hP⟩ : ∃ P, P = L ++ num l.length ++ nodesB 0 (l.take k) := ⟨_, rfl⟩
      have HPn : Hid (L ++ num l.length ++ nodesB 0 (l.take (k + 1)) = P ++ nodeB la q) := by show _ = _; rw [HBl.out, hP]; simp only [List.append_assoc]
      rw [← hP] at HZ LP
      clear hP HBl hLA
      generalize lifeR (l.take k) = X at *
      have HPu := Lib.hid (fun w base b v L h h2 h3 => putNode_any q la hvn hl0 hla w base b v L h h2 h3)
      have hb0 : wr.heap.size ≠ b := by have := HZ.out.ws.wr.lt; omega
      have hb1 : some wr.heap.size ≠ x.ownBlock := fun e => by have := (HZ.out.ws.wr.2.1.lt _ e.symm).2; omega
      have HNb := Lib.hid hb0
      have HNv := Lib.hid hb1
      have HBx := Lib.hid (Bn.new wr q)
      replace HZ := Lib.hid (HZ.out.below ((Below.refl _ _).alloc (Nat.le_refl _) (.cells #[.int .i64 q.1.1, .int .i64 q.1.2, .int .i64 q.2.1.1, .int .i64 q.2.1.2, .int .i64 q.2.2.1, .int .i32 q.2.2.2] 38)))
      clear hb0 hb1 hvn
      obtain ⟨n0, n1, n2, n3, n4, n5⟩ := hna
      obtain ⟨⟨q1, q2⟩, ⟨q3, q4⟩, q5, q6⟩ := q
      simp only at hla HNb HNv HBx HZ
      go_upto_region 6 with fail
      generalize (wr.alloc (.cells #[.int .i64 q1, .int .i64 q2, .int .i64 q3, .int .i64 q4, .int .i64 q5, .int .i32 q6] 38)) = w2 at *
      clear n0 n1 n2 n3 n4 n5
      obtain ⟨n0, n1, n2, n3, n4, n5⟩ := HBx.out.cells
      go_wp2_with fail
      refine (HPu.out w2 w0.heap.size b _ _ HZ.out.ws.wr (by have := LP.out; omega) HZ.out.ws.bl.size).mono ?_
      rintro e w3 ⟨rfl, v3, hw, hf, hg⟩
      replace HBx := Lib.hid (HBx.out.of_heap (hf.block _ (lt_of_cell HBx.out.1) HNb.out HNv.out))
      replace HZ := Lib.hid (HZ.out.wstep hw hf hg)
      clear hw hf hg n0 n1 n2 n3 n4 n5 HPu
      obtain ⟨n0, n1, n2, n3, n4, n5⟩ := HBx.out.cells
      simp only at n0 n1 n2 n3 n4 n5
      by_cases h6 : q6 = 0
      · have h6b : (q6 != 0) = false := by rw [bne_eq_false_iff_eq]; exact h6
        rw [if_pos h6, List.append_nil] at HTl
        clear h6
        go_wp2_with fail
        go_roundw
        case rel => exact ⟨k + 1, v3, by omega, by go_num, by rw [HLa.out], by show Sp _ _ _ _ _ _ _; rw [HPn.out, HTl.out]; exact HZ.out⟩
        case measure => simp [intOf]; omega
      · have h6b : (q6 != 0) = true := by rw [bne_iff_ne]; exact h6
        rw [if_neg h6] at HTl
        clear h6
        have HZ2 := Lib.hid (HZ.out.below ((Below.refl _ _).alloc (Nat.le_refl _) (.cells #[.int .i32 q6] 21)))
        go_wp2_with (at_builtin; refine G.wpList_appI rfl _ _ 85 rfl Try.underlying85 infoR _ X rfl HZ2.out.tx w3.heap.size 0 1 1 [q6] rfl rfl (G.RowI.lit .i32 _ _ rfl [q6] _ _ rfl) (by have := LX.out; simp only [List.length_cons, List.length_nil]; omega) (by omega) HZ2.out.ws.bl.size ?_; intro t4 w4 ho hg hgr; replace HZ := Lib.hid (HZ2.out.tstep ho hg hgr); clear ho hg hgr HZ2)
        go_roundw
        case rel => exact ⟨k + 1, v3, by omega, by go_num, by rw [HLa.out], by show Sp _ _ _ _ _ _ _; rw [HPn.out, HTl.out]; exact HZ.out⟩
        case measure => simp [intOf]; omega
    · obtain rfl : k = l.length := by omega
      have hend : ¬ (l.length : Int) < (l.length : Int) := by omega
      rw [List.take_length] at HZ
      obtain ⟨a4, c4, rfl, hr4, -⟩ := HZ.out.tx.row
      have HW := Lib.hid HZ.out.ws
      have HEn := Lib.hid (R.encode_any (lifeR l) a4 c4 wr (by have := lifeR_len l; omega) hr4)
      have e1 : R.encR (lifeR l) = (textB l, 0) := by unfold R.encR; rw [if_pos HVn.out, lifeR_text]
      rw [e1] at HEn
      obtain ⟨g5, c5, w5, hcv, hrow5, hb5, hg5, hlt5⟩ := G.str_bytes (P := Try.prog) wr 9 24 5 (textB l) Try.underlying9 Try.underlying24 Try.underlying5
      have HR5 := Lib.hid hrow5
      have HW5 := Lib.hid (HW.out.below hb5)
      have hgb : g5 ≠ b := by have := HW.out.wr.lt; omega
      have hgv : some g5 ≠ x.ownBlock := fun e => by have := (HW.out.wr.2.1.lt _ e.symm).2; omega
      obtain ⟨lp, lx⟩ := nodesB_len l 0 (Int.le_refl 0) HU.out
      obtain ⟨P, hP⟩ : ∃ P, P = L ++ num l.length ++ nodesB 0 l := ⟨_, rfl⟩
      have HSt : Hid (L ++ stateB l = P ++ (num (textB l).length ++ textB l)) := by show _ = _; rw [hP]; simp [stateB]
      have LP : Hid (P.length ≤ 90000000) := by have := N0.out; have := HL.out; show _ ≤ _; rw [hP]; simp only [List.length_append]; omega
      rw [← hP] at HW5
      have HPt := Lib.hid (fun h => wput_any w5 w0.heap.size b x P (some ⟨g5, 0, none⟩) (textB l) c5 HW5.out.wr HR5.out (fun h => by cases h) h (by have := LP.out; have := HLl.out; omega) HW5.out.bl.size)
      have HNe : Hid (∀ b' o, some (⟨g5, 0, none⟩ : Addr) = some ⟨b', o, none⟩ → textB l ≠ [] → b' ≠ b ∧ some b' ≠ x.ownBlock) := by
        intro b' o e _
        cases e
        exact ⟨hgb, hgv⟩
      clear hP lp lx e1 hrow5 hb5 hg5 hlt5 hgb hgv HZ HW hr4 HU HVn HX
      generalize textB l = Z at *
      go_wp2_with fail
      refine HEn.out.mono ?_
      rintro e w6 ⟨rfl, rfl⟩
      go_wp2_with fail
      refine (HPt.out HNe.out).mono ?_
      rintro e w7 ⟨rfl, v7, hw, hf, hg⟩
      have HF := Lib.hid (HW5.out.step hw hf)
      clear hw hf hg
      go_wp2_with fail
      go_end0
      exact ⟨rfl, v7, by rw [HSt.out]; exact HF.out⟩
end Go.Proofs.Ytfmlenhakejefaa.Ca
