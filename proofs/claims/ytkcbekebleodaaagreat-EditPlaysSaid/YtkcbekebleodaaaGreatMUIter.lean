/-
  The iterator over a tree of entries.
-/
import Derived.Test.YtkcbekebleodaaaGreatURange
import Derived.Test.YtkcbekebleodaaaGreatSchW

section
namespace Go.Proofs.YtkcbekebleodaaaGreat.Un
set_option linter.unusedVariables false
open Go.RowKit V Go.Shelf D Nd Qs Wk
attribute [local irreducible] Sch.heldN Sch.stepV Sch.stepE
attribute [local go_sem] Oper.semAt_some

set_option maxRecDepth 100000 in
theorem from_any (a : Option Addr) (z : Int) (w : World) : Calls Tryz.prog 146 #[.pointer a, .int .i64 z] w fun e w' =>
    ∃ b1 b2, e = .returned (.func (.func 148) #[] #[.pointer (some ⟨b1, 0, none⟩), .pointer (some ⟨b2, 0, none⟩)]) ∧ w'.cell? ⟨b1, 0, none⟩ = some (.pointer a) ∧ w'.cell? ⟨b2, 0, none⟩ = some (.int .i64 z) ∧ Below w.heap.size w w' := by
  have hmf : ∀ (fn : Fn) (first cap : Array Value) (w : World), (Instr.makeFunc fn first cap).run Tryz.prog w = .ok (.func fn first cap) w := fun _ _ _ _ => rfl
  go_enter Tryz.func146, Tryz.ntmps146
  go_wp2_with fail
  go_ret
  exact ⟨_, _, rfl, by go_simp, by go_simp, (bel_box _ _).alloc (by simp) _⟩
/-- What the loops of a frame have laid, for the way out. -/
def mk (Ds : List Nat) : List Deferred := Ds.map fun D => { target := .collected D, args := #[] }
def Dl (B : Nat) (Ds : List Nat) (A : World) : Prop := Ds.Nodup ∧ ∀ D ∈ Ds, B ≤ D ∧ A.heap[D]? = some (.deferred (some []))
theorem Dl.nil (B : Nat) (A : World) : Dl B [] A := ⟨List.nodup_nil, fun D h => by simp at h⟩
theorem Dl.kp {ks : List TypeId} {B : Nat} {Ds : List Nat} {A A' : World} (h : Dl B Ds A) (k : Kp ks B A A') : Dl B Ds A' := ⟨h.1, fun D hD => ⟨(h.2 D hD).1, k.1.same _ _ (h.2 D hD).1 (h.2 D hD).2 rfl⟩⟩
theorem Dl.lt {B : Nat} {Ds : List Nat} {A : World} (h : Dl B Ds A) : ∀ D ∈ Ds, D < A.heap.size := fun D hD => (Array.getElem?_eq_some_iff.1 (h.2 D hD).2).1
theorem Dl.abF {tys : List TypeId} {B C : Nat} {Ds : List Nat} (h : ∀ D ∈ Ds, D < C) : AbF tys C (Dl B Ds) := fun A A' row ha hg hr => ⟨ha.1, fun D hD => ⟨(ha.2 D hD).1, AbF.low (h D hD) A A' row (ha.2 D hD).2 hg hr⟩⟩
theorem Dl.cons {B : Nat} {Ds : List Nat} {A : World} {D : Nat} (h : Dl B Ds A) (hB : B ≤ D) (hD : A.heap[D]? = some (.deferred (some []))) (hn : D ∉ Ds) : Dl B (D :: Ds) A :=
  ⟨List.nodup_cons.2 ⟨hn, h.1⟩, fun E hE => by
    rcases List.mem_cons.1 hE with rfl | hE
    · exact ⟨hB, hD⟩
    · exact h.2 E hE⟩
/-- The way out, past what the loops have laid. -/
theorem leaves_all {tys : List TypeId} {n B : Nat} {tmps : Array Value} {R : World → Prop} (hR : AbF tys B R) : ∀ (Ds : List Nat) (A : World), Dl B Ds A → R A →
    LeavesInM Fence.wide n Tryz.prog Tryz.f148 tmps (fun e A' => (∃ v, e = .returned v) ∧ R A') (mk Ds) .returning A
  | [], A, _, h => ⟨_, results_none rfl _ _ _, ⟨_, rfl⟩, h⟩
  | D :: Ds, A, hd, h => by
    have h0 := hd.2 D (by simp)
    refine ⟨by simp, .inl ⟨D, _, rfl, run_takeDeferred h0.2, ?_⟩⟩
    refine leaves_all hR Ds _ ⟨(List.nodup_cons.1 hd.1).2, fun E hE => ⟨(hd.2 E (by simp [hE])).1, ?_⟩⟩ (hR.put _ h h0.1 h0.2 rfl)
    refine (World.putObj_heap_other ?_).trans (hd.2 E (by simp [hE])).2
    rintro rfl
    exact (List.nodup_cons.1 hd.1).1 hE
theorem roundAny {m m' l l' : Nat} {P : Program} {f : FuncId} {tmps : Array Value} {assign body : Code} {w : World} {R : Ending → World → Prop} (h : RoundIn Fence.wide m P l f tmps assign body w R) : RoundIn (Fence.wide.inRound l') m' P l f tmps assign body w R :=
  ⟨h.1, fun c cs _ => h.2 c cs (room_wide _)⟩
/-- What is read where the iterator begins. -/
def SbB (Bt Bi : Nat) (a : Option Addr) (z : Int) (w : World) : Prop := w.cell? ⟨Bt, 0, none⟩ = some (.pointer a) ∧ w.cell? ⟨Bi, 0, none⟩ = some (.int .i64 z)
/-- What is read where an entry is yielded. -/
def SbY (B l b : Nat) (U : Tr) (w : World) : Prop := w.heap[B]? = some (.cells #[.func (.yield l) #[] #[]] 191 (0, 0)) ∧ U.In w
theorem tw_fld {P : Program} {l : List Oper} {i : Nat} {o : Oper} {r : Sch.Tn} {a : Act} {w : World} {Q : Exit → Act → World → Prop} {S : World → Prop} {n : Nat} (t : TypeId) (x : Operand) (f : Nat) (ad v : Value) (a' : Act) (ho : Sch.nth l i = some o) (hop : o.op = .fieldAddr t x f) (hw : Region.wanted o (yielded l.toArray a.tmps) = true) (hx : a.eval x = ad)
    (hr : ∀ w, S w → (Instr.fieldAt t ad f).run P w = .ok v w) (he : a.put o.dst v = a') (h : Sch.heldW n P l.toArray Q S r a' w) : Sch.heldW n P l.toArray Q S (.val i r) a w := by
  subst he
  subst hx
  unfold Sch.heldW Sch.stepV
  simp only [Sch.nth_at, ho]
  rw [if_pos hw]
  refine ⟨_, fun w' hS => ?_, h⟩
  unfold execOp
  rw [hop]
  simp only [Sem.run_bind, hr w' hS, Result.andThen_ok]
  rfl
abbrev encU (x : Nt) : Array Value := #[nv x, .agg #[]]
/-- What a round of a range over nodes lays. -/
abbrev boxU (x : Nt) (W : World) : World := (W.alloc (.cells (nc x) 53)).alloc (.cells #[] 138)
theorem boxU_bel (x : Nt) (W : World) : Below W.heap.size W (boxU x W) ∧ Nb (boxU x W) W.heap.size x := ⟨(bel_box _ _).alloc (by simp) _, (Nb.new W x).keep (bel_box _ _)⟩
theorem nb_row (x : Nt) (b : Nat) (A A' : World) (row : Option Nat) (h : Nb A b x) (hg : A.grownBy A' row) (hr : ∀ r, row = some r → r < b) : Nb A' b x := nb_heap h fun hl => hg.block b hl fun e => by have := hr b e.symm; omega
theorem load_yield {w : World} {B l : Nat} (h : w.heap[B]? = some (.cells #[.func (.yield l) #[] #[]] 191 (0, 0))) : (Instr.loadAt 191 (.pointer (some ⟨B, 0, none⟩))).run Tryz.prog w = .ok (.func (.yield l) #[] #[]) w := by
  have hc : w.cell? ⟨B, 0, none⟩ = some (.func (.yield l) #[] #[]) := by simp only [World.cell?, h]; rfl
  go_simp

set_option maxRecDepth 100000 in
set_option maxHeartbeats 8000000 in
theorem from_seq (N : Nat) : ∀ (T : Tr) (z : Int) (w : World) (Bt Bi : Nat), T.len = N → T.len ≤ 1000000 → -3000000 ≤ z - (T.len : Int) → z ≤ 2000000 → w.cell? ⟨Bt, 0, none⟩ = some (.pointer T.ad) → w.cell? ⟨Bi, 0, none⟩ = some (.int .i64 z) →
    SeqP [] [191] encU 148 #[.pointer (some ⟨Bt, 0, none⟩), .pointer (some ⟨Bi, 0, none⟩)] (fun A => T.In A) (T.list.drop z.toNat) w := by
  induction N using Nat.strongRecOn with
  | _ N ih =>
    intro T z w Bt Bi hN hT hz1 hz2 hBt hBi n l J Jx W hb hl hJ hJx hQ hQx hY h0
    have HQx := Lib.hid hQx
    have HY := Lib.hid (fun pre x A h1 h2 => yieldAny (m' := 2) (hY pre x A h1 h2))
    have HQ := Lib.hid hQ
    have HJ := Lib.hid hJ
    have HJx := Lib.hid hJx
    have H0 := Lib.hid h0
    have HIH := Lib.hid ih
    have HTN : Hid (T.len = N ∧ T.len ≤ 1000000) := ⟨hN, hT⟩
    have HSB : Hid (SbB Bt Bi T.ad z (W.alloc (.cells #[.func (.yield l) #[] #[]] 191 (0, 0))).drew) := ⟨((keep_cell (keep_cell hBt hb) (bel_box _ _).drew)), ((keep_cell (keep_cell hBi hb) (bel_box _ _).drew))⟩
    have HBX : Hid ((W.alloc (.cells #[.func (.yield l) #[] #[]] 191 (0, 0))).drew.heap[W.heap.size]? = some (.cells #[.func (.yield l) #[] #[]] 191 (0, 0))) := World.alloc_heap_new W _
    have HJ0 : Hid (J [] (W.alloc (.cells #[.func (.yield l) #[] #[]] 191 (0, 0))).drew) := (hJ []).drew ((hJ []).alloc _ h0)
    have HW1 : Hid (W.heap.size < (W.alloc (.cells #[.func (.yield l) #[] #[]] 191 (0, 0))).drew.heap.size) := by show _ < (W.alloc _).heap.size; simp
    have B1 : ∀ w, SbB Bt Bi T.ad z w → _ := fun w h => load_tree (w := w) h.1
    have B2 : ∀ w, SbB Bt Bi T.ad z w → _ := fun w h => load_int (w := w) h.2
    have A1 := Lib.hid B1
    have A2 := Lib.hid B2
    have HR : Hid (AbF [] W.heap.size (fun A => J (T.list.drop z.toNat) A ∨ Jx A)) := (hJ _).or hJx
    clear hY hQ hQx hJ hJx h0 ih hN hT hBt hBi hb B1 B2
    refine callsIn_wide.2 ((callsIn_wide (n := 3)).1 ?_)
    refine callsIn_of_wp_marks Tryz.func148 rfl trivial ?_ rfl
    simp only [Tryz.ntmps148, List.size_toArray, List.length_cons, List.length_nil, Nat.reduceAdd, Nat.reduceSub, Array.replicate_succ, Array.replicate_zero, List.push_toArray, List.append_toArray, List.nil_append, List.cons_append]
    gi_wp2
    refine Sch.wpIn_region_tn (SbB Bt Bi T.ad z) (.val 0 (.val 1 (.val 2 (.val 3 .done)))) (by kernel_rfl) (by kernel_rfl) HSB.out ?_
    repeat (first
      | (refine Sch.tw_q rfl rfl rfl (fun K hK => ?_); go_big_quiet_op; (first | refine hK _ ?_ | refine ⟨_, fun _ _ => rfl, hK _ ?_⟩); clear hK K)
      | (refine Sch.tw_chk _ _ _ rfl rfl rfl rfl rfl ?_; simp only [Act.put, List.setIfInBounds_toArray, List.set_cons_zero, List.set_cons_succ])
      | (refine Sch.tw_load _ _ _ _ _ rfl rfl rfl rfl (by first | exact A1.out | exact A2.out) rfl ?_; simp only [Act.put, List.setIfInBounds_toArray, List.set_cons_zero, List.set_cons_succ]))
    refine Sch.tw_n ?_
    clear A1 A2 HSB
    generalize (W.alloc (.cells #[.func (.yield l) #[] #[]] 191 (0, 0))).drew = w1 at *
    gi_wp2
    refine wpIn_loop (fun a wr => ∃ (U : Tr) (x : Int) (pre : List Nt) (Ds : List Nat) (u6 u7 u8 u9 u10 u11 u12 u13 u14 u15 u16 u17 u18 u19 u20 u21 u22 u23 u24 u25 u26 u27 u28 u29 u30 u31 u32 u33 u34 u35 u36 u37 u38 u39 u40 u41 u42 u43 u44 u45 u46 u47 u48 u49 u50 u51 u52 u53 u54 u55 u56 u57 : Value), a = { tmps := #[.func (.yield l) #[] #[], .pointer (some ⟨Bt, 0, none⟩), .pointer (some ⟨Bi, 0, none⟩), .pointer (some ⟨W.heap.size, 0, none⟩), .pointer U.ad, .int .i64 x, u6, u7, u8, u9, u10, u11, u12, u13, u14, u15, u16, u17, u18, u19, u20, u21, u22, u23, u24, u25, u26, u27, u28, u29, u30, u31, u32, u33, u34, u35, u36, u37, u38, u39, u40, u41, u42, u43, u44, u45, u46, u47, u48, u49, u50, u51, u52, u53, u54, u55, u56, u57], defers := mk Ds } ∧
      Hid (T.list.drop z.toNat = pre ++ U.list.drop x.toNat) ∧ Hid (J pre wr) ∧ Hid (∀ A, T.In A → U.In A) ∧ Hid (wr.heap[W.heap.size]? = some (.cells #[.func (.yield l) #[] #[]] 191 (0, 0))) ∧ Hid (Dl W.heap.size Ds wr) ∧ U.len ≤ T.len ∧ x ≤ 2000000 ∧ -3000000 ≤ x - (U.len : Int)) (fun a wr => lenOf wr (a.tmps.getD 4 undef)) ?_ ?_
    · exact ⟨T, z, [], [], _, _, _, _, _, _, _, _, _, _, _, _, _, _, _, _, _, _, _, _, _, _, _, _, _, _, _, _, _, _, _, _, _, _, _, _, _, _, _, _, _, _, _, _, _, _, _, _, _, _, _, _, rfl, rfl, HJ0.out, fun _ h => h, HBX.out, Dl.nil _ _, Nat.le_refl _, hz2, hz1⟩
    · rintro a wr ⟨U, x, pre, Ds, u6, u7, u8, u9, u10, u11, u12, u13, u14, u15, u16, u17, u18, u19, u20, u21, u22, u23, u24, u25, u26, u27, u28, u29, u30, u31, u32, u33, u34, u35, u36, u37, u38, u39, u40, u41, u42, u43, u44, u45, u46, u47, u48, u49, u50, u51, u52, u53, u54, u55, u56, u57, rfl, HS, HJp, HU, HX, HD, hul, hx1, hx2⟩
      have HUI := Lib.hid (HU.out _ (HQ.out _ _ HJp.out))
      cases U with
      | nil =>
        rw [show Tr.nil.ad = none from rfl]
        gi_wp2
        have e : T.list.drop z.toNat = pre := by rw [HS.out]; simp [Tr.list]
        exact leaves_all HR.out Ds wr HD.out (.inl (by rw [e]; exact HJp.out))
      | node b k lf rt =>
        rw [Tr.ad_node]
        have k2 := HUI.out.1.cl
        have HL := Lib.hid ((callsIn_wide (n := 2)).2 (len_any lf wr HUI.out.2.1))
        have hll : (lf.len : Int) ≤ 1000000 := by have := HTN.out.2; rw [Tr.len_node] at hul; omega
        have B1 : ∀ w, SbY W.heap.size l b (.node b k lf rt) w → _ := fun w h => load_yield (w := w) h.1
        have B2 : ∀ w, SbY W.heap.size l b (.node b k lf rt) w → _ := fun w h => nd_k (w := w) h.2.1
        have B3 : ∀ w, SbY W.heap.size l b (.node b k lf rt) w → _ := fun w h => load_unit ⟨b, 6, none⟩ w
        have A4 := Lib.hid (fun (w : World) (h : SbY W.heap.size l b (.node b k lf rt) w) => at_unit (w := w) h.2.1)
        have A1 := Lib.hid B1
        have A2 := Lib.hid B2
        have A3 := Lib.hid B3
        clear B1 B2 B3
        by_cases hlt : x < (lf.len : Int)
        · have HF := Lib.hid ((callsIn_wide (n := 2)).2 (from_any lf.ad x wr))
          have HS2 : Hid (T.list.drop z.toNat = pre ++ (lf.list.drop x.toNat ++ k :: rt.list)) := by
            show _ = _
            rw [HS.out, list_node, drop_lt (show x.toNat ≤ lf.list.length by have : lf.len = lf.list.length := rfl; omega)]
          have hle : x ≤ (lf.len : Int) := by omega
          gi_wp2_with fail
          refine ⟨trivial, HL.out.mono ?_⟩
          rintro e wq ⟨rfl, hwq⟩
          rw [hwq]
          clear hwq wq HL
          gi_wp2_with fail
          refine ⟨trivial, HF.out.mono ?_⟩
          rintro e w5 ⟨b1, b2, rfl, c1, c2, hb5⟩
          have HB5 := Lib.hid hb5
          have C1 := Lib.hid c1
          have C2 := Lib.hid c2
          clear hb5 c1 c2 HF
          gi_wp2_with fail
          have hWs : W.heap.size < w5.heap.size := Nat.lt_of_lt_of_le (Array.getElem?_eq_some_iff.1 HX.out).1 HB5.out.size
          have hDs : ∀ D ∈ Ds, D < w5.heap.size := fun D hD => Nat.lt_of_lt_of_le (HD.out.lt D hD) HB5.out.size
          refine range_own (by decide) rfl (enters_of Tryz.func148 (by kernel_rfl) rfl) rfl (lf.list.drop x.toNat) (fun A => lf.In A)
            (HIH.out lf.len (by rw [Tr.len_node] at hul; have := HTN.out.1; omega) lf x w5 b1 b2 rfl (by have := HTN.out.2; rw [Tr.len_node] at hul; omega) (by rw [Tr.len_node] at hx2; omega) hx1 C1.out C2.out)
            (fun _ => rfl) (fun pre' A => J (pre ++ pre') A ∧ A.heap[W.heap.size]? = some (.cells #[.func (.yield l) #[] #[]] 191 (0, 0)) ∧ Dl W.heap.size Ds A) (fun c A => c = .ret ∧ Jx A ∧ Dl W.heap.size Ds A)
            (fun pre' => ((HJ.out _).mono (Nat.le_of_lt hWs)).and ((AbF.low hWs).and (Dl.abF hDs))) (fun c => (AbF.const _).and ((HJx.out.mono (Nat.le_of_lt hWs)).and (Dl.abF hDs)))
            (fun pre' A h => (HU.out _ (HQ.out _ _ h.1)).2.1) (fun c A h => (HU.out _ (HQx.out _ h.2.1)).2.1)
            ⟨by rw [List.append_nil]; exact (HJ.out _).below HJp.out HB5.out, (HB5.out.block _ (Array.getElem?_eq_some_iff.1 HX.out).1).trans HX.out, HD.out.kp (Kp.bel (ks := []) HB5.out)⟩ ?a1 boxU (fun x b W => Nb W b x) boxU_bel nb_row ?assign ?body ?done ?stop
          case assign =>
            intro l' y A K g hg hK
            gi_wp2
            rw [← hg]
            exact hK
          case body =>
            rintro l' pre' y b' A ⟨hj, hx, hd⟩ hbx hbl hpre
            obtain ⟨k0, k1, k2, k3, k4, k5⟩ := hbx
            obtain ⟨fn, tmps, assign, body, hy, hR⟩ := HY.out (pre ++ pre') y A hj (by rw [HS2.out, List.append_assoc]; obtain ⟨t, ht⟩ := hpre; exact ⟨t ++ k :: rt.list, by rw [← ht]; simp⟩)
            have HRr := Lib.hid hR
            have HX2 := Lib.hid hx
            have HD2 := Lib.hid hd
            have cy : A.cell? ⟨W.heap.size, 0, none⟩ = some (.func (.yield l) #[] #[]) := by simp only [World.cell?, hx]; rfl
            clear hR hx hd hj
            gi_wp2
            refine (roundAny HRr.out).mono ?_
            rintro e A3 ⟨hkp, ⟨rfl, hj⟩ | ⟨rfl, hx⟩⟩
            · have HK3 := Lib.hid hkp
              have HJ3 := Lib.hid hj
              clear hkp hj hy HRr
              gi_wp2
              exact ⟨HK3.out.mono (Nat.le_of_lt hWs), by rw [← List.append_assoc]; exact HJ3.out, HK3.out.2 _ _ _ _ (Nat.le_refl _) (by simp) HX2.out, HD2.out.kp HK3.out⟩
            · have HK3 := Lib.hid hkp
              have HJ3 := Lib.hid hx
              clear hkp hx hy HRr
              gi_wp2
              exact ⟨HK3.out.mono (Nat.le_of_lt hWs), rfl, HJ3.out, HD2.out.kp HK3.out⟩
          case stop =>
            rintro D c A hD ⟨rfl, hx, hd⟩ hK
            have HX2 := Lib.hid hx
            have HD2 : Hid (Dl W.heap.size (D :: Ds) A) := hd.cons (by omega) hK (fun h => by have := hDs D h; omega)
            clear hx hd hK
            gi_wp2
            exact leaves_all HR.out (D :: Ds) A HD2.out (.inr HX2.out)
          case done =>
            rintro D A hD ⟨hj, hx, hd⟩ hK
            have HJA := Lib.hid hj
            have HXA := Lib.hid hx
            have HDA : Hid (Dl W.heap.size (D :: Ds) A) := hd.cons (by omega) hK (fun h => by have := hDs D h; omega)
            clear hj hx hd hK
            gi_wp2
            have HJd := Lib.hid ((HJ.out _).drew HJA.out)
            have HUd := Lib.hid (HU.out _ (HQ.out _ _ HJd.out))
            have HSY : Hid (SbY W.heap.size l b (.node b k lf rt) A.drew) := ⟨HXA.out, HUd.out⟩
            have HDd : Hid (Dl W.heap.size (D :: Ds) A.drew) := HDA.out
            clear HUd
            refine Sch.wpIn_region_tn (SbY W.heap.size l b (.node b k lf rt)) (.val 0 (.val 1 (.val 2 (.val 3 (.val 4 (.val 5 (.val 6 (.val 7 (.val 8 (.val 9 (.val 10 (.val 11 (.val 12 (.one 13 (.val 14 (.val 15 .done)))))))))))))))) (by kernel_rfl) (by kernel_rfl) HSY.out ?_
            repeat (first
              | (refine Sch.tw_q rfl rfl rfl (fun K hK => ?_); go_big_quiet_op; (first | refine hK _ ?_ | refine ⟨_, fun _ _ => rfl, hK _ ?_⟩); clear hK K)
              | (refine Sch.tw_chk _ _ _ rfl rfl rfl rfl rfl ?_; simp only [Act.put, List.setIfInBounds_toArray, List.set_cons_zero, List.set_cons_succ])
              | (refine Sch.tw_load _ _ _ _ _ rfl rfl rfl rfl (by first | exact A1.out | exact A2.out | exact A3.out) rfl ?_; simp only [Act.put, List.setIfInBounds_toArray, List.set_cons_zero, List.set_cons_succ])
              | (refine tw_fld _ _ _ _ _ _ rfl rfl rfl rfl (by first | exact A4.out) rfl ?_; simp only [Act.put, List.setIfInBounds_toArray, List.set_cons_zero, List.set_cons_succ]))
            generalize A.drew = wd at *
            obtain ⟨fn, tmps, assign, body, hy, hR⟩ := HY.out (pre ++ lf.list.drop x.toNat) k wd HJd.out (by rw [HS2.out]; exact ⟨rt.list, by simp⟩)
            have HRr := Lib.hid hR
            clear hR
            refine Sch.tw_e rfl rfl (fun K hK => ?_)
            gi_wp2_with fail
            refine HRr.out.mono ?_
            rintro e w6 ⟨hkp, ⟨rfl, hj6⟩ | ⟨rfl, hx6⟩⟩
            · have HJ6 := Lib.hid hj6
              have HU6 := Lib.hid (HU.out _ (HQ.out _ _ hj6))
              have HX6 : Hid (w6.heap[W.heap.size]? = some (.cells #[.func (.yield l) #[] #[]] 191 (0, 0))) := hkp.2 _ _ _ _ (Nat.le_refl _) (by simp) HSY.out.1
              have HD6 := Lib.hid (HDd.out.kp hkp)
              clear hkp hj6 HRr hy
              refine hK _ _ ⟨HX6.out, HU6.out⟩ ?_
              clear hK K
              repeat (first
                | (refine Sch.tw_q rfl rfl rfl (fun K hK => ?_); go_big_quiet_op; (first | refine hK _ ?_ | refine ⟨_, fun _ _ => rfl, hK _ ?_⟩); clear hK K)
                | (refine Sch.tw_chk _ _ _ rfl rfl rfl rfl rfl ?_; simp only [Act.put, List.setIfInBounds_toArray, List.set_cons_zero, List.set_cons_succ]))
              refine Sch.tw_n ?_
              have k3 := HU6.out.1.cr
              gi_wp2
              refine ⟨⟨rt, x - ((lf.len : Int) + 1), pre ++ lf.list.drop x.toNat ++ [k], D :: Ds, _, _, _, _, _, _, _, _, _, _, _, _, _, _, _, _, _, _, _, _, _, _, _, _, _, _, _, _, _, _, _, _, _, _, _, _, _, _, _, _, _, _, _, _, _, _, _, _, _, _, _, _, rfl, ?_, HJ6.out, fun A h => (HU.out A h).2.2, HX6.out, HD6.out, by rw [Tr.len_node] at hul; omega, by omega, by rw [Tr.len_node] at hx2; omega⟩, ?_⟩
              · show _ = _
                rw [HS2.out, show (x - ((lf.len : Int) + 1)).toNat = 0 by omega, List.drop_zero]
                simp
              · have e1 := lenOf_at HUI.out
                rw [Tr.ad_node] at e1
                show lenOf w6 (.pointer rt.ad) < lenOf _ (.pointer (some ⟨b, 0, none⟩))
                rw [lenOf_at HU6.out.2.2, e1, Tr.len_node]
                omega
            · have HX6 : Hid (w6.heap[W.heap.size]? = some (.cells #[.func (.yield l) #[] #[]] 191 (0, 0))) := hkp.2 _ _ _ _ (Nat.le_refl _) (by simp) HSY.out.1
              have HU6 := Lib.hid (HU.out _ (HQx.out _ hx6))
              have HD6 := Lib.hid (HDd.out.kp hkp)
              have HJ6 := Lib.hid hx6
              clear hkp hx6 HRr hy
              refine hK _ _ ⟨HX6.out, HU6.out⟩ ?_
              clear hK K
              repeat (first
                | (refine Sch.tw_q rfl rfl rfl (fun K hK => ?_); go_big_quiet_op; (first | refine hK _ ?_ | refine ⟨_, fun _ _ => rfl, hK _ ?_⟩); clear hK K)
                | (refine Sch.tw_chk _ _ _ rfl rfl rfl rfl rfl ?_; simp only [Act.put, List.setIfInBounds_toArray, List.set_cons_zero, List.set_cons_succ]))
              refine Sch.tw_n ?_
              gi_wp2
              exact leaves_all HR.out (D :: Ds) w6 HD6.out (.inr HJ6.out)
        · by_cases heq : x = (lf.len : Int)
          · subst heq
            have HS2 : Hid (T.list.drop z.toNat = pre ++ k :: rt.list) := by
              show _ = _
              rw [HS.out, list_node, show ((lf.len : Int)).toNat = lf.list.length by have : lf.len = lf.list.length := rfl; omega, drop_lt (Nat.le_refl _), List.drop_length, List.nil_append]
            have hle : (lf.len : Int) ≤ (lf.len : Int) := by omega
            gi_wp2_with fail
            refine ⟨trivial, HL.out.mono ?_⟩
            rintro e wq ⟨rfl, hwq⟩
            rw [hwq]
            clear hwq wq HL
            gi_wp2_with fail
            have HJd := Lib.hid ((HJ.out _).drew HJp.out)
            have HUd := Lib.hid (HU.out _ (HQ.out _ _ HJd.out))
            have HSY : Hid (SbY W.heap.size l b (.node b k lf rt) wr.drew) := ⟨HX.out, HUd.out⟩
            have HDd : Hid (Dl W.heap.size (Ds) wr.drew) := HD.out
            clear HUd
            refine Sch.wpIn_region_tn (SbY W.heap.size l b (.node b k lf rt)) (.val 0 (.val 1 (.val 2 (.val 3 (.val 4 (.val 5 (.val 6 (.val 7 (.val 8 (.val 9 (.val 10 (.val 11 (.val 12 (.one 13 (.val 14 (.val 15 .done)))))))))))))))) (by kernel_rfl) (by kernel_rfl) HSY.out ?_
            repeat (first
              | (refine Sch.tw_q rfl rfl rfl (fun K hK => ?_); go_big_quiet_op; (first | refine hK _ ?_ | refine ⟨_, fun _ _ => rfl, hK _ ?_⟩); clear hK K)
              | (refine Sch.tw_chk _ _ _ rfl rfl rfl rfl rfl ?_; simp only [Act.put, List.setIfInBounds_toArray, List.set_cons_zero, List.set_cons_succ])
              | (refine Sch.tw_load _ _ _ _ _ rfl rfl rfl rfl (by first | exact A1.out | exact A2.out | exact A3.out) rfl ?_; simp only [Act.put, List.setIfInBounds_toArray, List.set_cons_zero, List.set_cons_succ])
              | (refine tw_fld _ _ _ _ _ _ rfl rfl rfl rfl (by first | exact A4.out) rfl ?_; simp only [Act.put, List.setIfInBounds_toArray, List.set_cons_zero, List.set_cons_succ]))
            generalize wr.drew = wd at *
            obtain ⟨fn, tmps, assign, body, hy, hR⟩ := HY.out (pre) k wd HJd.out (by rw [HS2.out]; exact ⟨rt.list, by simp⟩)
            have HRr := Lib.hid hR
            clear hR
            refine Sch.tw_e rfl rfl (fun K hK => ?_)
            gi_wp2_with fail
            refine HRr.out.mono ?_
            rintro e w6 ⟨hkp, ⟨rfl, hj6⟩ | ⟨rfl, hx6⟩⟩
            · have HJ6 := Lib.hid hj6
              have HU6 := Lib.hid (HU.out _ (HQ.out _ _ hj6))
              have HX6 : Hid (w6.heap[W.heap.size]? = some (.cells #[.func (.yield l) #[] #[]] 191 (0, 0))) := hkp.2 _ _ _ _ (Nat.le_refl _) (by simp) HSY.out.1
              have HD6 := Lib.hid (HDd.out.kp hkp)
              clear hkp hj6 HRr hy
              refine hK _ _ ⟨HX6.out, HU6.out⟩ ?_
              clear hK K
              repeat (first
                | (refine Sch.tw_q rfl rfl rfl (fun K hK => ?_); go_big_quiet_op; (first | refine hK _ ?_ | refine ⟨_, fun _ _ => rfl, hK _ ?_⟩); clear hK K)
                | (refine Sch.tw_chk _ _ _ rfl rfl rfl rfl rfl ?_; simp only [Act.put, List.setIfInBounds_toArray, List.set_cons_zero, List.set_cons_succ]))
              refine Sch.tw_n ?_
              have k3 := HU6.out.1.cr
              gi_wp2
              refine ⟨⟨rt, (lf.len : Int) - ((lf.len : Int) + 1), pre ++ [k], Ds, _, _, _, _, _, _, _, _, _, _, _, _, _, _, _, _, _, _, _, _, _, _, _, _, _, _, _, _, _, _, _, _, _, _, _, _, _, _, _, _, _, _, _, _, _, _, _, _, _, _, _, _, rfl, ?_, HJ6.out, fun A h => (HU.out A h).2.2, HX6.out, HD6.out, by rw [Tr.len_node] at hul; omega, by omega, by rw [Tr.len_node] at hx2; omega⟩, ?_⟩
              · show _ = _
                rw [HS2.out, show ((lf.len : Int) - ((lf.len : Int) + 1)).toNat = 0 by omega, List.drop_zero]
                simp
              · have e1 := lenOf_at HUI.out
                rw [Tr.ad_node] at e1
                show lenOf w6 (.pointer rt.ad) < lenOf _ (.pointer (some ⟨b, 0, none⟩))
                rw [lenOf_at HU6.out.2.2, e1, Tr.len_node]
                omega
            · have HX6 : Hid (w6.heap[W.heap.size]? = some (.cells #[.func (.yield l) #[] #[]] 191 (0, 0))) := hkp.2 _ _ _ _ (Nat.le_refl _) (by simp) HSY.out.1
              have HU6 := Lib.hid (HU.out _ (HQx.out _ hx6))
              have HD6 := Lib.hid (HDd.out.kp hkp)
              have HJ6 := Lib.hid hx6
              clear hkp hx6 HRr hy
              refine hK _ _ ⟨HX6.out, HU6.out⟩ ?_
              clear hK K
              repeat (first
                | (refine Sch.tw_q rfl rfl rfl (fun K hK => ?_); go_big_quiet_op; (first | refine hK _ ?_ | refine ⟨_, fun _ _ => rfl, hK _ ?_⟩); clear hK K)
                | (refine Sch.tw_chk _ _ _ rfl rfl rfl rfl rfl ?_; simp only [Act.put, List.setIfInBounds_toArray, List.set_cons_zero, List.set_cons_succ]))
              refine Sch.tw_n ?_
              gi_wp2
              exact leaves_all HR.out (Ds) w6 HD6.out (.inr HJ6.out)
          · have hgt : (lf.len : Int) < x := by omega
            have hle : ¬ x ≤ (lf.len : Int) := by omega
            have HS2 : Hid (T.list.drop z.toNat = pre ++ rt.list.drop (x - ((lf.len : Int) + 1)).toNat) := by
              show _ = _
              rw [HS.out, list_node, show x.toNat = lf.list.length + 1 + (x - ((lf.len : Int) + 1)).toNat by have : lf.len = lf.list.length := rfl; omega, drop_gt]
            gi_wp2_with fail
            refine ⟨trivial, HL.out.mono ?_⟩
            rintro e wq ⟨rfl, hwq⟩
            rw [hwq]
            clear hwq wq HL
            gi_wp2_with fail
            have HSY : Hid (SbY W.heap.size l b (.node b k lf rt) wr.drew) := ⟨HX.out, HUI.out.drew⟩
            refine Sch.wpIn_region_tn (SbY W.heap.size l b (.node b k lf rt)) (.val 0 (.val 1 (.val 2 (.val 3 (.val 4 (.val 5 (.val 6 (.val 7 (.val 8 (.val 9 (.val 10 (.val 11 (.val 12 (.one 13 (.val 14 (.val 15 .done)))))))))))))))) (by kernel_rfl) (by kernel_rfl) HSY.out ?_
            repeat (first
              | (refine Sch.tw_q rfl rfl rfl (fun K hK => ?_); go_big_quiet_op; (first | refine hK _ ?_ | refine ⟨_, fun _ _ => rfl, hK _ ?_⟩); clear hK K)
              | (refine Sch.tw_chk _ _ _ rfl rfl rfl rfl rfl ?_; simp only [Act.put, List.setIfInBounds_toArray, List.set_cons_zero, List.set_cons_succ])
              | (refine Sch.tw_load _ _ _ _ _ rfl rfl rfl rfl (by first | exact A1.out) rfl ?_; simp only [Act.put, List.setIfInBounds_toArray, List.set_cons_zero, List.set_cons_succ]))
            obtain ⟨vb, hv⟩ : ∃ vb, vb = decide (x ≤ (lf.len : Int)) := ⟨_, rfl⟩
            rw [← hv]
            have hvf : vb = false := by rw [hv]; simpa using hgt
            have hwv : (some vb == some true) = false := by rw [hvf]; rfl
            clear hv
            refine Sch.tw_s _ rfl hwv rfl ?_
            simp only [Act.put, List.setIfInBounds_toArray, List.set_cons_zero, List.set_cons_succ]
            refine Sch.tw_s _ rfl hwv rfl ?_
            simp only [Act.put, List.setIfInBounds_toArray, List.set_cons_zero, List.set_cons_succ]
            refine Sch.tw_s _ rfl hwv rfl ?_
            simp only [Act.put, List.setIfInBounds_toArray, List.set_cons_zero, List.set_cons_succ]
            refine Sch.tw_s _ rfl hwv rfl ?_
            simp only [Act.put, List.setIfInBounds_toArray, List.set_cons_zero, List.set_cons_succ]
            refine Sch.tw_s _ rfl hwv rfl ?_
            simp only [Act.put, List.setIfInBounds_toArray, List.set_cons_zero, List.set_cons_succ]
            refine Sch.tw_s _ rfl hwv rfl ?_
            simp only [Act.put, List.setIfInBounds_toArray, List.set_cons_zero, List.set_cons_succ]
            refine Sch.tw_s _ rfl hwv rfl ?_
            simp only [Act.put, List.setIfInBounds_toArray, List.set_cons_zero, List.set_cons_succ]
            refine Sch.tw_s _ rfl hwv rfl ?_
            simp only [Act.put, List.setIfInBounds_toArray, List.set_cons_zero, List.set_cons_succ]
            refine Sch.tw_s _ rfl hwv rfl ?_
            simp only [Act.put, List.setIfInBounds_toArray, List.set_cons_zero, List.set_cons_succ]
            refine Sch.tw_se _ rfl hwv rfl ?_
            simp only [Act.put, List.setIfInBounds_toArray, List.set_cons_zero, List.set_cons_succ]
            refine Sch.tw_s _ rfl hwv rfl ?_
            simp only [Act.put, List.setIfInBounds_toArray, List.set_cons_zero, List.set_cons_succ]
            subst hvf
            clear hwv
            repeat (first
              | (refine Sch.tw_q rfl rfl rfl (fun K hK => ?_); go_big_quiet_op; (first | refine hK _ ?_ | refine ⟨_, fun _ _ => rfl, hK _ ?_⟩); clear hK K)
              | (refine Sch.tw_chk _ _ _ rfl rfl rfl rfl rfl ?_; simp only [Act.put, List.setIfInBounds_toArray, List.set_cons_zero, List.set_cons_succ]))
            refine Sch.tw_n ?_
            have HJ6 := Lib.hid ((HJ.out _).drew HJp.out)
            have HD6 : Hid (Dl W.heap.size Ds wr.drew) := HD.out
            have HX6 : Hid (wr.drew.heap[W.heap.size]? = some (.cells #[.func (.yield l) #[] #[]] 191 (0, 0))) := HX.out
            have HU6 := Lib.hid HUI.out.drew
            generalize wr.drew = w6 at *
            have k3 := HU6.out.1.cr
            gi_wp2
            refine ⟨⟨rt, x - ((lf.len : Int) + 1), pre, Ds, _, _, _, _, _, _, _, _, _, _, _, _, _, _, _, _, _, _, _, _, _, _, _, _, _, _, _, _, _, _, _, _, _, _, _, _, _, _, _, _, _, _, _, _, _, _, _, _, _, _, _, _, rfl, HS2, HJ6.out, fun A h => (HU.out A h).2.2, HX6.out, HD6.out, by rw [Tr.len_node] at hul; omega, by omega, by rw [Tr.len_node] at hx2; omega⟩, ?_⟩
            have e1 := lenOf_at HUI.out
            rw [Tr.ad_node] at e1
            show lenOf w6 (.pointer rt.ad) < lenOf _ (.pointer (some ⟨b, 0, none⟩))
            rw [lenOf_at HU6.out.2.2, e1, Tr.len_node]
            omega
end Go.Proofs.YtkcbekebleodaaaGreat.Un
end

/-
  Maps of nodes: All, of a map and of none.
-/
section
namespace Go.Proofs.YtkcbekebleodaaaGreat.Un
set_option linter.unusedVariables false
open Go.RowKit V Go.Shelf D Nd Qs Wk

/-- A pointer to a map with these nodes; to none if there are none. -/
def Ma (w : World) (a : Option Nat) (L : List Nt) : Prop := match a with | none => L = [] | some g => Mp w g L
abbrev pt (a : Option Nat) : Value := .pointer (a.map fun g => ⟨g, 0, none⟩)
theorem Ma.keep {w w' : World} {a : Option Nat} {L : List Nt} (h : Ma w a L) (hb : Below w.heap.size w w') : Ma w' a L := by
  cases a with
  | none => exact h
  | some g => exact Mp.keep h hb
abbrev tyF : List TypeId := [191]
/-- An iterator over these nodes. -/
def It (w : World) (e : Ending) (w' : World) (L : List Nt) : Prop :=
  ∃ (b1 b2 : Nat) (T : Tr), e = .returned (.func (.func 148) #[] #[.pointer (some ⟨b1, 0, none⟩), .pointer (some ⟨b2, 0, none⟩)]) ∧ T.In w' ∧ T.list = L ∧ Below w.heap.size w w' ∧
    SeqP [] tyF encU 148 #[.pointer (some ⟨b1, 0, none⟩), .pointer (some ⟨b2, 0, none⟩)] (fun A => T.In A) L w'
theorem enters_from : ∀ args w, (callFunc 148 args).run Tryz.prog w = .ok (.enter 148 args) w := enters_of Tryz.func148 (by kernel_rfl) rfl
set_option maxRecDepth 100000 in
theorem all_nil (w : World) : Calls Tryz.prog 145 #[.pointer none] w fun e w' => e = .returned (.pointer none) ∧ w' = w := by
  go_enter Tryz.func145, Tryz.ntmps145
  go_wp2_with fail
  go_ret
  exact ⟨rfl, rfl⟩
set_option maxRecDepth 100000 in
theorem All_any (a : Option Nat) (L : List Nt) (w : World) (h : Ma w a L) : Calls Tryz.prog 135 #[pt a] w fun e w' => It w e w' L := by
  obtain ⟨T, HA, HT, hL, hl⟩ : ∃ T : Tr, Hid (Calls Tryz.prog 145 #[pt a] w fun e w' => e = .returned (.pointer T.ad) ∧ w' = w) ∧ T.In w ∧ T.list = L ∧ T.len ≤ 1000000 := by
    cases a with
    | none => exact ⟨.nil, all_nil w, trivial, h.symm, by rw [Tr.len_nil]; omega⟩
    | some g =>
      obtain ⟨T, h1, h2, h3, h4, h5, h6, h7, h9⟩ := h
      exact ⟨T, all_yes g T.ad w h1, h2, h3, by unfold Tr.len; rw [h3]; omega⟩
  have HF := Lib.hid (from_any T.ad 0 w)
  have HT2 := Lib.hid HT
  have HQ := Lib.hid (fun (w' : World) (b1 b2 : Nat) (c1 : w'.cell? ⟨b1, 0, none⟩ = some (.pointer T.ad)) (c2 : w'.cell? ⟨b2, 0, none⟩ = some (.int .i64 0)) => from_seq T.len T 0 w' b1 b2 rfl hl (by omega) (by omega) c1 c2)
  have HL := Lib.hid hL
  clear h HT hL hl
  go_enter Tryz.func135, Tryz.ntmps135
  go_wp2_with fail
  refine HA.out.mono ?_
  rintro e w2 ⟨rfl, rfl⟩
  go_wp2_with fail
  refine HF.out.mono ?_
  rintro e w3 ⟨b1, b2, rfl, c1, c2, hb⟩
  have HQ2 := Lib.hid (HQ.out _ _ _ c1 c2)
  have HB := Lib.hid hb
  clear c1 c2 hb HF HA HQ
  go_wp2_with fail
  go_ret
  exact ⟨b1, b2, T, rfl, HT2.out.keep HB.out, HL.out, HB.out, by have := HQ2.out; rw [← HL.out]; exact this⟩
end Go.Proofs.YtkcbekebleodaaaGreat.Un
end
