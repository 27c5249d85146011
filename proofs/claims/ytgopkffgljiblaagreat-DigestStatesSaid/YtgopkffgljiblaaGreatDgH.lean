/-
  Layer 16: the reference's union, Merge.
-/
import Derived.Test.YtgopkffgljiblaaGreatDgG
namespace Go.Proofs.YtgopkffgljiblaaGreat.Dg
set_option linter.unusedVariables false
open Go.RowKit V Go.Sort D Nd Qs Jn
open E (SV getV)
open F (Ct cv cbox Bc Apt)
attribute [local irreducible] Sch.heldN Sch.stepV Sch.stepE

/-- Two contexts' boxes. -/
def Tb (g g2 : Nat) (x y u v : Value) (w : World) : Prop := Bc w g x y ∧ Bc w g2 u v
section
variable {g g2 : Nat} {x y u v : Value}
theorem Tb.keep {w w' : World} (h : Tb g g2 x y u v w) (hb : Below w.heap.size w w') : Tb g g2 x y u v w' := ⟨h.1.keep hb, h.2.keep hb⟩
theorem Tb.lv : ∀ w, Tb g g2 x y u v w → (Instr.loadAt 23 (.pointer (some ⟨g, 0, none⟩))).run Tryz.prog w = .ok x w := fun w h => load_vec h.1.1
theorem Tb.lv2 : ∀ w, Tb g g2 x y u v w → (Instr.loadAt 23 (.pointer (some ⟨g2, 0, none⟩))).run Tryz.prog w = .ok u w := fun w h => load_vec h.2.1
end
theorem vecK_len (v : List Dt) {k : Nat} (hk : k ≤ 64) : (vecK v k).length ≤ 64 := by
  unfold vecK
  have := List.length_filterMap_le (fun (i : Nat) => if 0 < E.getV v ((i : Int) + 1) then some ((i : Int) + 1, E.getV v ((i : Int) + 1)) else none) (List.range k)
  rw [List.length_range] at this
  omega
/-- A new second row in place of the old one. -/
theorem Bs.new1 {w0 w w' : World} {x y y' : Value} {X Y Y' : List Dt} {C : Nat} (h : Bs w0 w x y X Y) (hb : Below w.heap.size w w') (hC : w.heap.size ≤ C) (ho : OD w' C D.E y' Y') : Bs w0 (w'.setCell ⟨w0.heap.size + 1, 1, none⟩ y') x y' X Y' := by
  have h2 := h.keep hb
  have hl := h.box.lt
  have hx : ∀ k, x.ownBlock = some k → k < C := fun k hk => Nat.lt_of_lt_of_le (h.xs.lt k hk).2 hC
  refine ⟨h2.bel.setCell (p := ⟨w0.heap.size + 1, 1, none⟩) (by show w0.heap.size ≤ w0.heap.size + 1; omega) _, wc_gb h2.res (gb_setCell _ _ _ _) (by simp), h2.box.set1 y', F.OD.set h2.xs _ _ _ (by omega), F.OD.set (OD.mono ho fun k hk => by have := (ho.lt k hk).1; omega) _ _ _ (by omega), fun g hg1 hg2 => ?_⟩
  have h3 := (ho.lt g hg1).1
  have h4 := hx g hg2
  omega
theorem wpList_appDn {P : Program} {w : World} {ops : Array Oper} {rest : List Oper} {x : Oper} {a : Act} {Q : Exit → Act → World → Prop} (hgd : x.guard = none) (s y : Operand) (T : TypeId)
    (ho : x.op = .call { callee := .builtin .append, args := #[s, y], argTypes := #[T, T] })
    {base : Nat} {E : TypeId} (hT : P.underlying T = some (.slice E)) (hinfo : (P.info? E).map (fun i => (i.zero, i.size, i.bytes)) = some (some (.agg #[.int .i64 0, .int .i64 0]), 2, 16))
    (v : Value) (l : List Dt) (hs : a.eval s = v) (h : OD w base E v l) (ad : Option Addr) (m : List Dt) (c n : Nat) (hn : n = m.length) (hx : a.eval y = .slice ad n c) (hrow : RowD w ad m) (hnil : ad = none → c = 0)
    (hlen : l.length + m.length ≤ 8796093022208) (hbase : base ≤ w.heap.size)
    (hk : ∀ v' w', OD w' base E v' (l ++ m) → w.grownBy w' v.ownBlock → G.Grew w v v' → wpList P ops Q rest (a.put x.dst v') w') : wpList P ops Q (x :: rest) a w := by
  subst hn
  exact wpList_appD hgd s y T ho hT hinfo v l hs h ad m c hx hrow hnil hlen hbase hk
theorem od_one (w : World) (base : Nat) (d : Dt) (hb : base ≤ w.heap.size) : OD (w.alloc (.cells #[.int .i64 d.1, .int .i64 d.2] 48)) base D.E (.slice (some ⟨w.heap.size, 0, none⟩) 1 1) [d] := by
  have hh : (w.alloc (.cells #[.int .i64 d.1, .int .i64 d.2] 48)).heap[w.heap.size]? = some (.cells #[.int .i64 d.1, .int .i64 d.2] 48 (0, 0)) := by show (w.heap.push _)[w.heap.size]? = _; simp
  exact ⟨rfl, .inr ⟨w.heap.size, 1, _, rfl, hb, hh, Nat.le_refl _, by decide, rfl, rfl⟩⟩
theorem stepU_len (v cl : List Dt) (x : Dt) : (stepU v cl x).length ≤ cl.length + 1 := by
  unfold stepU
  split
  · omega
  · exact ins_len cl x
theorem foldU_len (v : List Dt) : ∀ (t cl : List Dt), (t.foldl (stepU v) cl).length ≤ cl.length + t.length
  | [], cl => by simp
  | x :: t, cl => by
    rw [List.foldl_cons, List.length_cons]
    have h1 := foldU_len v t (stepU v cl x)
    have h2 := stepU_len v cl x
    omega
theorem foldU_take {v m cl : List Dt} {j : Nat} (hj : j < m.length) : (m.take (j + 1)).foldl (stepU v) cl = stepU v ((m.take j).foldl (stepU v) cl) m[j] := by
  rw [List.take_add_one, List.getElem?_eq_getElem hj, List.foldl_append]
  rfl
/-- The two rows of slices that the reference goes over. -/
def Ps (w : World) (g : Nat) (y1 y2 : Value) : Prop := w.cell? ⟨g, 0, none⟩ = some y1 ∧ w.cell? ⟨g, 1, none⟩ = some y2
theorem Ps.keep {w w' : World} {g : Nat} {y1 y2 : Value} (h : Ps w g y1 y2) (hb : Below w.heap.size w w') : Ps w' g y1 y2 :=
  ⟨(hb.cell (p := ⟨_, _, none⟩) (lt_of_cell h.1)).trans h.1, (hb.cell (p := ⟨_, _, none⟩) (lt_of_cell h.2)).trans h.2⟩
theorem Ps.set {w : World} {g g' i : Nat} {y1 y2 z : Value} (h : Ps w g y1 y2) (hne : g ≠ g') : Ps (w.setCell ⟨g', i, none⟩ z) g y1 y2 := by
  have e : (w.setCell ⟨g', i, none⟩ z).heap[g]? = w.heap[g]? := (gb_setCell w g' i z).block g (lt_of_cell h.1) (by simpa using hne)
  exact ⟨(World.cell?_of_block (a := ⟨g, 0, none⟩) e).trans h.1, (World.cell?_of_block (a := ⟨g, 1, none⟩) e).trans h.2⟩
theorem Ps.at {w : World} {g : Nat} {y1 y2 : Value} (h : Ps w g y1 y2) {k : Nat} (hk : k < 2) : w.cell? ⟨g, k, none⟩ = some (if k = 0 then y1 else y2) := by
  rcases k with _ | _ | k
  · exact h.1
  · exact h.2
  · omega
/-- The context's box, and a dot of a row. -/
def Ux (g : Nat) (x y : Value) (b o : Nat) (q : Dt) (w : World) : Prop := Bc w g x y ∧ Sd b o q w
section
variable {g b o : Nat} {x y : Value} {q : Dt}
theorem Ux.keep {w w' : World} (h : Ux g x y b o q w) (hb : Below w.heap.size w w') : Ux g x y b o q w' := ⟨h.1.keep hb, h.2.keep hb⟩
theorem Ux.lc : ∀ w, Ux g x y b o q w → (Instr.loadAt 25 (.pointer (some ⟨g, 0, none⟩))).run Tryz.prog w = .ok (cv x y) w := fun w h => F.load_ctx h.1
theorem Ux.ls : ∀ w, Ux g x y b o q w → (Instr.loadAt 22 (.pointer (some ⟨g, 1, none⟩))).run Tryz.prog w = .ok y w := fun w h => load_dts h.1.2
theorem Ux.ld : ∀ w, Ux g x y b o q w → (Instr.loadAt 48 (.pointer (some ⟨b, o, none⟩))).run Tryz.prog w = .ok (dv q) w := fun w h => h.2.l w
end
/-- The same, and a dot of the context's row. -/
def Uy (g : Nat) (x y : Value) (b o : Nat) (q : Dt) (b2 o2 : Nat) (p : Dt) (w : World) : Prop := Ux g x y b o q w ∧ Sd b2 o2 p w
section
variable {g b o b2 o2 : Nat} {x y : Value} {q p : Dt}
theorem Uy.keep {w w' : World} (h : Uy g x y b o q b2 o2 p w) (hb : Below w.heap.size w w') : Uy g x y b o q b2 o2 p w' := ⟨h.1.keep hb, h.2.keep hb⟩
theorem Uy.ls : ∀ w, Uy g x y b o q b2 o2 p w → (Instr.loadAt 22 (.pointer (some ⟨g, 1, none⟩))).run Tryz.prog w = .ok y w := fun w h => load_dts h.1.1.2
theorem Uy.ld : ∀ w, Uy g x y b o q b2 o2 p w → (Instr.loadAt 48 (.pointer (some ⟨b, o, none⟩))).run Tryz.prog w = .ok (dv q) w := fun w h => h.1.2.l w
theorem Uy.lp : ∀ w, Uy g x y b o q b2 o2 p w → (Instr.loadAt 48 (.pointer (some ⟨b2, o2, none⟩))).run Tryz.prog w = .ok (dv p) w := fun w h => h.2.l w
end
set_option maxRecDepth 100000 in
set_option maxHeartbeats 8000000 in
theorem unionR_ref (A B : Ct) (ha : F.isCompR A = true) (hb : F.isCompR B = true) (x y u v : Value) (w : World) (h : Kx w x y A) (h2 : Kx w u v B) (hl : KL 1000 A) (hm : KL 1000 B) :
    Calls Tryz.prog 34 #[cv x y, cv u v] w fun e w' => ∃ s t, e = .returned (cv s t) ∧ F.Ov w' w.heap.size s t (F.unionC A B) ∧ Below w.heap.size w w' := by
  have HKA := Lib.hid h
  have HKB := Lib.hid h2
  obtain ⟨⟨a1, n1, rfl, hr1, hn1, hc1⟩, a2, n2, rfl, hr2, hn2, hc2⟩ := h
  obtain ⟨⟨a3, n3, rfl, hr3, hn3, hc3⟩, a4, n4, rfl, hr4, hn4, hc4⟩ := h2
  have hU := F.union_comp (comp_vcC ha) (comp_vcC hb)
  have HUp := Lib.hid (fun r => union_above ha hb r)
  have HCl := Lib.hid (fun (r n : Int) (h1 : 1 ≤ r) (h2 : r ≤ 64) (h3 : 0 ≤ n) (h4 : n ≤ getV (F.unionC A B).1 r) => climbU ha hb h1 h2 h3 h4)
  have HFe := Lib.hid (foldU_end ha hb)
  have HGeA := Lib.hid (fun r => E.get_ge (comp_vcC ha).1 r)
  have HGtU := Lib.hid (fun r => getV_top (comp_vcC hU).1 r)
  have HU64 := Lib.hid (vecK_all (comp_vcC hU).1)
  have HUl : Hid ((F.unionC A B).1.length ≤ 64) := E.vd_len (comp_vcC hU).1
  have HLa := Lib.hid (fun r w h => last_ref A.1 r a1 n1 w h (by have := hl.1; omega))
  have HLb := Lib.hid (fun r w h => last_ref B.1 r a3 n3 w h (by have := hm.1; omega))
  have HHa := Lib.hid (fun d w h => hasR_ref A d (.slice a1 A.1.length n1) (.slice a2 A.2.length n2) w h (hl.mono (by decide)))
  have HHb := Lib.hid (fun d w h => hasR_ref B d (.slice a3 B.1.length n3) (.slice a4 B.2.length n4) w h (hm.mono (by decide)))
  have hb0 := bel_box w (cbox (.slice a1 A.1.length n1) (.slice a2 A.2.length n2))
  have hsz : (w.alloc (cbox (.slice a1 A.1.length n1) (.slice a2 A.2.length n2))).heap.size = w.heap.size + 1 := by simp
  have hb1 := bel_box (w.alloc (cbox (.slice a1 A.1.length n1) (.slice a2 A.2.length n2))) (cbox (.slice a3 B.1.length n3) (.slice a4 B.2.length n4))
  have hS := F.two_new (w.alloc (cbox (.slice a1 A.1.length n1) (.slice a2 A.2.length n2))) (.slice a3 B.1.length n3) (.slice a4 B.2.length n4)
  rw [hsz] at hS
  have HK : Hid (Tb w.heap.size (w.heap.size + 1) (.slice a1 A.1.length n1) (.slice a2 A.2.length n2) (.slice a3 B.1.length n3) (.slice a4 B.2.length n4) ((w.alloc (cbox (.slice a1 A.1.length n1) (.slice a2 A.2.length n2))).alloc (cbox (.slice a3 B.1.length n3) (.slice a4 B.2.length n4)))) := Lib.hid ⟨(F.two_new w (.slice a1 A.1.length n1) (.slice a2 A.2.length n2)).keep hb1, hS⟩
  have HB := bel_tr (Lib.hid hb0) hb1
  replace HKA := Lib.hid (HKA.out.keep HB.out)
  replace HKB := Lib.hid (HKB.out.keep HB.out)
  have HRA := Lib.hid (And.intro (hr1.keep HB.out) (hr2.keep HB.out))
  have HRB := Lib.hid (And.intro (hr3.keep HB.out) (hr4.keep HB.out))
  have HNc := Lib.hid (And.intro (And.intro hn2 hc2) (And.intro hn4 hc4))
  have HLn : Hid (A.2.length ≤ 1000 ∧ B.2.length ≤ 1000) := ⟨hl.2, hm.2⟩
  have HN := Lib.hid (bs_new ((w.alloc (cbox (.slice a1 A.1.length n1) (.slice a2 A.2.length n2))).alloc (cbox (.slice a3 B.1.length n3) (.slice a4 B.2.length n4))))
  have hsz2 : ((w.alloc (cbox (.slice a1 A.1.length n1) (.slice a2 A.2.length n2))).alloc (cbox (.slice a3 B.1.length n3) (.slice a4 B.2.length n4))).heap.size = w.heap.size + 1 + 1 := by simp
  have Hsz := Lib.hid hsz2
  clear ha hb hl hm hr1 hr2 hr3 hr4 hn1 hn2 hn3 hn4 hc1 hc2 hc3 hc4 hb0 hb1 hS hsz hU hsz2
  generalize F.unionC A B = U at *
  have HV0 : Hid (vecK U.1 0 = []) := rfl
  have HVs := Lib.hid (fun k => vecK_step U.1 k)
  have HVln : Hid (∀ k, k ≤ 64 → (vecK U.1 k).length ≤ 64) := fun k hk => vecK_len U.1 hk
  obtain ⟨vk, hvk⟩ : ∃ vk : Nat → List Dt, vk = vecK U.1 := ⟨_, rfl⟩
  rw [← hvk] at HV0 HU64 HVs HVln
  clear hvk
  go_enter Tryz.func34, Tryz.ntmps34
  go_wp2_with fail
  generalize (w.alloc (cbox (.slice a1 A.1.length n1) (.slice a2 A.2.length n2))).alloc (cbox (.slice a3 B.1.length n3) (.slice a4 B.2.length n4)) = w0 at *
  generalize w.heap.size + 1 + 1 = gr at *
  have hsz := Hsz.out
  subst hsz
  clear Hsz
  go_loopw [6, 7] (fun rep _ wr => ∃ (k : Nat) (x : Value), k ≤ 64 ∧ rep = .int .i64 ((k : Int) + 1) ∧ Hid (Bs w0 wr x (.slice none 0 0) (vk k) [])) (fun rep _ _ => 65 - (intOf rep).toNat)
  case atStart => exact ⟨0, _, Nat.zero_le _, rfl, (by show Bs _ _ _ _ (vk 0) _; rw [HV0.out]; exact HN.out)⟩
  case round =>
    obtain ⟨k, x, hk, rfl, HSx⟩ := hrel
    by_cases hlt : k < 64
    · have hi0 : (k : Int) + 1 ≤ 64 := by omega
      have hi1 : decide ((k : Int) + 1 ≤ 64) = true := decide_eq_true hi0
      have HVk := Lib.hid (HVs.out k)
      have HVl := Lib.hid (HVln.out k hk)
      have HUk := Lib.hid (HUp.out ((k : Int) + 1))
      have HCk := Lib.hid (fun n => HCl.out ((k : Int) + 1) n (by omega) (by omega))
      have HGe := Lib.hid (HGeA.out ((k : Int) + 1))
      have HGt := Lib.hid (HGtU.out ((k : Int) + 1))
      have HLk := Lib.hid (fun w h => HLa.out ((k : Int) + 1) w h)
      have HLk2 := Lib.hid (fun w h => HLb.out ((k : Int) + 1) w h)
      have HHk := Lib.hid (fun n w h => HHa.out ((k : Int) + 1, n) w h)
      have HHk2 := Lib.hid (fun n w h => HHb.out ((k : Int) + 1, n) w h)
      generalize getV U.1 ((k : Int) + 1) = gu at *
      generalize getV A.1 ((k : Int) + 1) = ga at *
      generalize getV B.1 ((k : Int) + 1) = gb at *
      generalize hasR A = fa at *
      generalize hasR B = fb at *
      have hd := (Below.refl wr.heap.size wr).drew
      have HS1 := Lib.hid (HSx.out.keep hd)
      have HQ := Lib.hid (HK.out.keep HS1.out.bel)
      clear hd
      go_wp2_with fail
      refine Sch.wp_region_tn (Tb w.heap.size (w.heap.size + 1) (.slice a1 A.1.length n1) (.slice a2 A.2.length n2) (.slice a3 B.1.length n3) (.slice a4 B.2.length n4)) (.val 0 (.val 1 (.val 2 (.val 4 (.val 5 (.val 6 (.one 3 (.one 7 (.one 8 (.val 9 .done)))))))))) (by kernel_rfl) (by kernel_rfl) HQ.out ?_
      repeat (first
        | (refine Sch.tn_q rfl rfl rfl (fun K hK => ?_); go_big_quiet_op; (first | refine hK _ ?_ | refine ⟨_, fun _ _ => rfl, hK _ ?_⟩); clear hK K)
        | (refine Sch.tn_chk _ _ _ rfl rfl rfl rfl rfl ?_; simp only [Act.put, List.setIfInBounds_toArray, List.set_cons_zero, List.set_cons_succ])
        | (refine Sch.tn_load _ _ _ _ _ rfl rfl rfl rfl (by first | exact Tb.lv | exact Tb.lv2) rfl ?_; simp only [Act.put, List.setIfInBounds_toArray, List.set_cons_zero, List.set_cons_succ]))
      generalize wr.drew = w2 at *
      refine Sch.tn_e rfl rfl (fun K hK => ?_)
      go_wp2_with fail
      refine (HLk.out _ (HRA.out.1.keep HS1.out.bel)).mono ?_
      rintro e w3 ⟨rfl, hl⟩
      have hb := hl.bel
      replace HQ := Lib.hid (HQ.out.keep hb)
      replace HS1 := Lib.hid (HS1.out.keep hb)
      clear hb hl HLk
      refine hK _ _ HQ.out ?_
      clear hK K
      refine Sch.tn_e rfl rfl (fun K hK => ?_)
      go_wp2_with fail
      refine (HLk2.out _ (HRB.out.1.keep HS1.out.bel)).mono ?_
      rintro e w4 ⟨rfl, hl⟩
      have hb := hl.bel
      replace HQ := Lib.hid (HQ.out.keep hb)
      replace HS1 := Lib.hid (HS1.out.keep hb)
      clear hb hl HLk2
      refine hK _ _ HQ.out ?_
      clear hK K
      refine Sch.tn_e rfl rfl (fun K hK => ?_)
      go_wp2_with fail
      refine hK _ _ HQ.out ?_
      clear hK K
      repeat (first
        | (refine Sch.tn_q rfl rfl rfl (fun K hK => ?_); go_big_quiet_op; (first | refine hK _ ?_ | refine ⟨_, fun _ _ => rfl, hK _ ?_⟩); clear hK K)
        | (refine Sch.tn_chk _ _ _ rfl rfl rfl rfl rfl ?_; simp only [Act.put, List.setIfInBounds_toArray, List.set_cons_zero, List.set_cons_succ]))
      refine Sch.tn_n ?_
      have HM0 : Hid (0 ≤ max ga gb ∧ max ga gb ≤ gu) := by have h1 := HUk.out; have h2 := HGe.out; show _ ∧ _; omega
      clear HUk HGe
      generalize max ga gb = m0 at *
      obtain ⟨wz, hwz⟩ : ∃ wz, wz = w4 := ⟨_, rfl⟩
      rw [← hwz] at HQ HS1 ⊢
      clear hwz
      go_wp2_with fail
      go_loopw [7] (fun n wr => ∃ z : Int, n = .int .i64 z ∧ 0 ≤ z ∧ z ≤ gu ∧ Hid (Bs w0 wr x (.slice none 0 0) (vk k) [])) (fun n _ => (gu - intOf n).toNat)
      case atStart => exact ⟨m0, rfl, HM0.out.1, HM0.out.2, HS1⟩
      case round =>
        obtain ⟨z, rfl, hz0, hz1, HS2⟩ := hrel
        obtain ⟨⟨t0, t1⟩, t2, t3⟩ := HK.out.keep HS2.out.bel
        have hwr : IntKind.i64.wrap (z + 1) = z + 1 := by have := HGt.out; exact wrap_mid (by omega) (by omega)
        have HCz := Lib.hid (HCk.out z hz0 hz1)
        have HGz := HGt
        have HHz := Lib.hid (HHk.out (z + 1) _ (HKA.out.keep HS2.out.bel))
        go_wp2_with fail
        refine HHz.out.mono ?_
        rintro e w5 ⟨rfl, hb⟩
        have HS3 := Lib.hid (HS2.out.keep hb)
        clear hb HHz t0 t1 t2 t3 HS2
        have HHz2 := Lib.hid (HHk2.out (z + 1) _ (HKB.out.keep HS3.out.bel))
        obtain ⟨⟨t0, t1⟩, t2, t3⟩ := HK.out.keep HS3.out.bel
        generalize fa ((k : Int) + 1, z + 1) = ra at *
        generalize fb ((k : Int) + 1, z + 1) = rb at *
        rcases ra with _ | _
        · go_wp2_with fail
          refine HHz2.out.mono ?_
          rintro e w6 ⟨rfl, hb⟩
          have HS4 := Lib.hid (HS3.out.keep hb)
          clear hb HHz2 t0 t1 t2 t3 HS3
          rcases rb with _ | _
          · have hz : z = gu := by have h1 := HCz.out.2; by_cases h2 : z < gu; exact absurd (h1 h2) (by simp); omega
            clear HCz
            subst hz
            by_cases hp : 0 < z
            · have hpb : decide (z > 0) = true := decide_eq_true hp
              have hpb2 : decide (0 < z) = true := decide_eq_true hp
              have HE : Hid (vk (k + 1) = vk k ++ [((k : Int) + 1, z)]) := by show _ = _; rw [HVk.out, if_pos hp]
              obtain ⟨ax, cx, rfl, -⟩ := HS4.out.xs.row
              have x0 := HS4.out.box.c0
              have hb2 := bel_box w6 (.cells #[.int .i64 ((k : Int) + 1), .int .i64 z] 48)
              have HS5 := Lib.hid (HS4.out.keep hb2)
              have HLt : Hid (RowD (w6.alloc (.cells #[.int .i64 ((k : Int) + 1), .int .i64 z] 48)) (some ⟨w6.heap.size, 0, none⟩) [((k : Int) + 1, z)]) := lit_one w6 ((k : Int) + 1, z) _
              have HZ : Hid (w0.heap.size + 2 ≤ (w6.alloc (.cells #[.int .i64 ((k : Int) + 1), .int .i64 z] 48)).heap.size) := by have := HS5.out.box.lt; show _ ≤ _; omega
              clear hb2 hp
              go_wp2_with (at_builtin; refine wpList_appD rfl _ _ _ rfl Tryz.underlying23 infoD _ _ rfl HS5.out.xs (some ⟨w6.heap.size, 0, none⟩) [((k : Int) + 1, z)] 1 rfl HLt.out (fun h => by cases h) (by have := HVl.out; simp only [List.length_cons, List.length_nil]; omega) HZ.out ?_)
              intro v7 w7 ho hg hgr
              rw [← HE.out] at ho
              obtain ⟨a7, c7, rfl, -⟩ := ho.row
              obtain ⟨hbx, -, hS7⟩ := HS5.out.grow0 ho hg hgr
              have HS7 := Lib.hid hS7
              have y0 := hbx.c0
              have f0 := hbx.fr 0
              clear hS7 ho hg hgr hbx x0
              go_wp2_with fail
              go_roundw
              case rel => exact ⟨k + 1, _, by omega, by go_num, HS7⟩
              case measure => simp [intOf]; omega
            · have hpb : decide (z > 0) = false := decide_eq_false hp
              have hpb2 : decide (0 < z) = false := decide_eq_false hp
              have HE : Hid (vk (k + 1) = vk k) := by show _ = _; rw [HVk.out, if_neg hp]
              clear hp
              go_wp2_with fail
              go_roundw
              case rel => exact ⟨k + 1, _, by omega, by go_num, by rw [HE.out]; exact HS4⟩
              case measure => simp [intOf]; omega
          · have hz : z < gu := HCz.out.1 (by first | rfl | simp)
            clear HCz
            have HZlt := Lib.hid hz
            clear hz
            go_wp2_with fail
            go_roundw
            case rel => exact ⟨z + 1, by go_num, by omega, by have := HZlt.out; omega, HS4⟩
            case measure => have := HZlt.out; simp [intOf]; omega
        · have hz : z < gu := HCz.out.1 (by first | rfl | simp)
          clear HCz HHz2
          have HZlt := Lib.hid hz
          clear hz
          go_wp2_with fail
          go_roundw
          case rel => exact ⟨z + 1, by go_num, by omega, by have := HZlt.out; omega, HS3⟩
          case measure => have := HZlt.out; simp [intOf]; omega
    · obtain rfl : k = 64 := by omega
      rw [HU64.out] at HSx
      have hi1 : decide (((64 : Nat) : Int) + 1 ≤ 64) = false := by decide
      obtain ⟨ax, cx, rfl, -⟩ := HSx.out.xs.row
      clear HVs HV0 HVln HU64 HUp HCl HGeA HGtU HLa HLb HHa HHb
      obtain ⟨cl, hcl⟩ : ∃ cl : Nat → List Dt, cl = fun k => if k = 0 then [] else if k = 1 then A.2.foldl (stepU U.1) [] else U.2 := ⟨_, rfl⟩
      have HC0 : Hid (cl 0 = []) := by show _ = _; rw [hcl]; rfl
      have HC1 : Hid (cl 1 = A.2.foldl (stepU U.1) (cl 0)) := by show _ = _; rw [hcl]; rfl
      have HC2 : Hid (cl 2 = B.2.foldl (stepU U.1) (cl 1)) := by
        show _ = _
        rw [hcl]
        show U.2 = B.2.foldl (stepU U.1) (A.2.foldl (stepU U.1) [])
        rw [← HFe.out, List.foldl_append]
      have HCe : Hid (cl 2 = U.2) := by show _ = _; rw [hcl]; rfl
      clear hcl HFe
      obtain ⟨wz, hwz⟩ : ∃ wz, wz = wr := ⟨_, rfl⟩
      rw [← hwz] at HSx ⊢
      clear hwz
      obtain ⟨⟨t0, t1⟩, t2, t3⟩ := HK.out.keep HSx.out.bel
      have hb2 := bel_box wz (.cells #[.slice a2 A.2.length n2, .slice a4 B.2.length n4] 22)
      have HS1 := Lib.hid (HSx.out.keep hb2)
      have HP1 : Hid (Ps (wz.alloc (.cells #[.slice a2 A.2.length n2, .slice a4 B.2.length n4] 22)) wz.heap.size (.slice a2 A.2.length n2) (.slice a4 B.2.length n4)) := by
        show Ps _ _ _ _
        constructor <;> go_simp
      have HGs : Hid (w0.heap.size + 2 ≤ wz.heap.size) := by have := HSx.out.box.lt; show _ ≤ _; omega
      clear hb2
      go_upto_region 11 with fail
      clear t0 t1 t2 t3
      generalize ((64 : Nat) : Int) + 1 = r65 at *
      generalize wz.alloc (.cells #[.slice a2 A.2.length n2, .slice a4 B.2.length n4] 22) = w2 at *
      generalize wz.heap.size = gs at *
      go_loopw [9, 10, 11, 12, 58] (fun _ _ _ _ i wr => ∃ (k : Nat) (y : Value), k ≤ 2 ∧ i = .int .i64 (k : Int) ∧ Hid (Bs w0 wr (.slice ax U.1.length cx) y U.1 (cl k)) ∧ Hid (Ps wr gs (.slice a2 A.2.length n2) (.slice a4 B.2.length n4))) (fun _ _ _ _ i _ => 2 - (intOf i).toNat)
      case atStart => exact ⟨0, _, Nat.zero_le _, rfl, (by show Bs _ _ _ _ _ (cl 0); rw [HC0.out]; exact HS1.out), HP1⟩
      case round =>
        obtain ⟨k, y, hk, rfl, HSk, HPk⟩ := hrel
        obtain ⟨wa, hwa⟩ : ∃ wa, wa = wr := ⟨_, rfl⟩
        rw [← hwa] at HSk HPk ⊢
        clear hwa
        by_cases hlt : k < 2
        · have hi2 : (k : Int) < 2 := by omega
          obtain ⟨m, am, cm, hcell, hrow, hnil, hcap, hcl, hml, hkl⟩ : ∃ (m : List Dt) (am : Option Addr) (cm : Nat), wa.cell? ⟨gs, k, none⟩ = some (.slice am m.length cm) ∧ RowD w0 am m ∧ (am = none → cm = 0) ∧ m.length ≤ cm ∧ cl (k + 1) = m.foldl (stepU U.1) (cl k) ∧ m.length ≤ 1000 ∧ (cl k).length ≤ 1000 := by
            rcases k with _ | _ | k
            · exact ⟨A.2, a2, n2, HPk.out.1, HRA.out.2, HNc.out.1.1, HNc.out.1.2, HC1.out, HLn.out.1, by rw [HC0.out]; exact Nat.zero_le _⟩
            · refine ⟨B.2, a4, n4, HPk.out.2, HRB.out.2, HNc.out.2.1, HNc.out.2.2, HC2.out, HLn.out.2, ?_⟩
              rw [HC1.out, HC0.out]
              have := foldU_len U.1 A.2 []
              have h2 := HLn.out.1
              simp only [List.length_nil] at this
              omega
            · omega
          obtain ⟨fl, hfl⟩ : ∃ fl : Nat → List Dt, fl = fun j => (m.take j).foldl (stepU U.1) (cl k) := ⟨_, rfl⟩
          have HF0 : Hid (fl 0 = cl k) := by show _ = _; rw [hfl]; rfl
          have HFs : Hid (∀ j (hj : j < m.length), fl (j + 1) = stepU U.1 (fl j) m[j]) := fun j hj => by rw [hfl]; exact foldU_take hj
          have HFn : Hid (fl m.length = cl (k + 1)) := by
            show _ = _
            rw [hfl, hcl]
            simp only [List.take_length]
          have HFl : Hid (∀ j, (fl j).length ≤ 2000) := fun j => by
            rw [hfl]
            have h1 := foldU_len U.1 (m.take j) (cl k)
            have h2 : (m.take j).length ≤ m.length := by rw [List.length_take]; omega
            show ((m.take j).foldl (stepU U.1) (cl k)).length ≤ _
            omega
          have hli : (m.length : Int) ≤ 1000 := by omega
          have HRm := Lib.hid hrow
          clear hfl hcl hrow hml hkl hnil hcap
          go_wp2_with fail
          clear hcell
          go_loopw [10, 11, 12] (fun i _ _ wr => ∃ (j : Nat) (y : Value), j ≤ m.length ∧ i = .int .i64 (j : Int) ∧ Hid (Bs w0 wr (.slice ax U.1.length cx) y U.1 (fl j)) ∧ Hid (Ps wr gs (.slice a2 A.2.length n2) (.slice a4 B.2.length n4))) (fun i _ _ _ => m.length - (intOf i).toNat)
          case atStart => exact ⟨0, _, Nat.zero_le _, rfl, (by show Bs _ _ _ _ _ (fl 0); rw [HF0.out]; exact HSk), HPk⟩
          case round =>
            obtain ⟨j, y, hj, rfl, HSj, HPj⟩ := hrel
            obtain ⟨wb, hwb⟩ : ∃ wb, wb = wr := ⟨_, rfl⟩
            rw [← hwb] at HSj HPj ⊢
            clear hwb
            by_cases hlj : j < m.length
            · have hj0 : (j : Int) < (m.length : Int) := by omega
              have hg : decide ((j : Int) < (m.length : Int)) = true := by simpa using hj0
              obtain ⟨b1, o1, rfl, -⟩ := HRm.out.get (Below.refl _ _) j hlj
              have HQ0 := Lib.hid (sd_at HRm.out j hlj)
              have hix := ix_dot b1 o1 m.length cm j (j : Int) rfl hlj
              have HSt := Lib.hid (HFs.out j hlj)
              have HLj := Lib.hid (HFl.out j)
              obtain ⟨q, hq⟩ : ∃ q, q = m[j] := ⟨_, rfl⟩
              rw [← hq] at HQ0 HSt
              clear hq
              obtain ⟨Y, hY⟩ : ∃ Y, Y = fl j := ⟨_, rfl⟩
              rw [← hY] at HSj HSt HLj
              clear hY
              obtain ⟨ay, cy, rfl, hry, hny, hcy, -⟩ := HSj.out.ys.row
              have HNy : Hid (ay = none → cy = 0) := fun h => (hny h).1
              have HCy := Lib.hid hcy
              have HHq := Lib.hid (fun w h => hasR_ref (U.1, Y) q (.slice ax U.1.length cx) (.slice ay Y.length cy) w h ⟨by have := HUl.out; show U.1.length ≤ _; omega, by have := HLj.out; show Y.length ≤ _; omega⟩)
              clear hry hny hcy
              have hd := (Below.refl wb.heap.size wb).drew
              have HS3 := Lib.hid (HSj.out.keep hd)
              have HP3 := Lib.hid (HPj.out.keep hd)
              have HK0 : Hid (Ux (w0.heap.size + 1) (.slice ax U.1.length cx) (.slice ay Y.length cy) b1 (o1 + j * 2) q wb.drew) := Lib.hid ⟨⟨HS3.out.box.c0, HS3.out.box.c1⟩, HQ0.out.keep HS3.out.bel⟩
              clear hd
              go_wp2_with fail
              refine Sch.wp_region_tn (Ux (w0.heap.size + 1) (.slice ax U.1.length cx) (.slice ay Y.length cy) b1 (o1 + j * 2) q) (.val 0 (.val 1 (.val 2 (.val 3 (.val 4 (.one 5 .done)))))) (by kernel_rfl) (by kernel_rfl) HK0.out ?_
              repeat (first
                | (refine Sch.tn_q rfl rfl rfl (fun K hK => ?_); go_big_quiet_op; (first | refine hK _ ?_ | refine ⟨_, fun _ _ => rfl, hK _ ?_⟩); clear hK K)
                | (refine Sch.tn_chk _ _ _ rfl rfl rfl rfl rfl ?_; simp only [Act.put, List.setIfInBounds_toArray, List.set_cons_zero, List.set_cons_succ])
                | (refine Sch.tn_load _ _ _ _ _ rfl rfl rfl rfl (by first | exact Ux.lc | exact Ux.ls | exact Ux.ld) rfl ?_; simp only [Act.put, List.setIfInBounds_toArray, List.set_cons_zero, List.set_cons_succ]))
              generalize wb.drew = w3 at *
              refine Sch.tn_e rfl rfl (fun K hK => ?_)
              go_wp2_with fail
              refine (HHq.out _ ⟨SV.of_od HS3.out.xs, SV.of_od HS3.out.ys⟩).mono ?_
              rintro e w4 ⟨rfl, hb⟩
              replace HS3 := Lib.hid (HS3.out.keep hb)
              replace HP3 := Lib.hid (HP3.out.keep hb)
              replace HK0 := Lib.hid (HK0.out.keep hb)
              clear hb HHq
              refine hK _ _ HK0.out ?_
              clear hK K
              refine Sch.tn_n ?_
              rcases hhr : hasR (U.1, Y) q with _ | _
              · have HNin : Hid (q ∉ Y) := fun h => by
                  unfold hasR at hhr
                  rw [Bool.or_eq_false_iff] at hhr
                  exact (of_decide_eq_false hhr.2) h
                have HI : Hid (fl (j + 1) = Y.take (pos Y q) ++ [q] ++ Y.drop (pos Y q)) := by
                  show _ = _
                  rw [HSt.out]
                  unfold stepU
                  rw [if_neg (by rw [hhr]; simp)]
                  unfold ins
                  rw [if_neg HNin.out]
                clear hhr HSt HSj HPj HK0
                have hyl : (Y.length : Int) ≤ 2000 := by have := HLj.out; omega
                go_wp2_with fail
                go_loopw [11] (fun i wr => ∃ e : Nat, i = .int .i64 (e : Int) ∧ Hid (e ≤ pos Y q) ∧ Hid (Below w4.heap.size w4 wr)) (fun i _ => Y.length - (intOf i).toNat)
                case atStart => exact ⟨0, rfl, Nat.zero_le _, Below.refl _ _⟩
                case round =>
                  obtain ⟨e, rfl, HEp, hh⟩ := hrel
                  have HTk : Hid (e ≤ Y.length) := by have := pos_le Y q; have := HEp.out; show _ ≤ _; omega
                  have HSr := Lib.hid (HS3.out.keep hh.out)
                  have HPr := Lib.hid (HP3.out.keep hh.out)
                  have hd := (Below.refl wr.heap.size wr).drew
                  have HSd := Lib.hid (HSr.out.keep hd)
                  have HPd := Lib.hid (HPr.out.keep hd)
                  have y1 := HSr.out.box.c1
                  by_cases hey : e < Y.length
                  · have hi3 : (e : Int) < (Y.length : Int) := by omega
                    have hg3 : decide ((e : Int) < (Y.length : Int)) = true := by simpa using hi3
                    obtain ⟨b2, o2, rfl, -⟩ := HSr.out.ys.r.1.get (Below.refl _ _) e hey
                    have hix2 := ix_dot b2 o2 Y.length cy e (e : Int) rfl hey
                    have HGo := Lib.hid (fun h => pos_go hey HEp.out h)
                    have HSp := Lib.hid (fun h => pos_stop hey HEp.out h)
                    have HQp := Lib.hid (sd_row HSr.out.ys.r.1 hd e hey)
                    obtain ⟨p, hp⟩ : ∃ p, p = Y[e] := ⟨_, rfl⟩
                    rw [← hp] at HGo HSp HQp
                    clear hp
                    have HBf := Lib.hid (fun w => before_ref p q w)
                    have HKy : Hid (Uy (w0.heap.size + 1) (.slice ax U.1.length cx) (.slice (some ⟨b2, o2, none⟩) Y.length cy) b1 (o1 + j * 2) q b2 (o2 + e * 2) p wr.drew) := Lib.hid ⟨⟨⟨HSd.out.box.c0, HSd.out.box.c1⟩, HQ0.out.keep HSd.out.bel⟩, HQp.out⟩
                    have HBd : Hid (Below w4.heap.size w4 wr.drew) := Lib.hid hh.out.drew
                    clear hd y1 HSr HPr
                    go_wp2_with fail
                    refine Sch.wp_region_tn (Uy (w0.heap.size + 1) (.slice ax U.1.length cx) (.slice (some ⟨b2, o2, none⟩) Y.length cy) b1 (o1 + j * 2) q b2 (o2 + e * 2) p) (.val 0 (.val 1 (.val 2 (.val 3 (.val 4 (.val 5 (.val 6 (.val 7 (.val 8 (.val 9 (.val 10 (.val 11 (.val 12 (.val 13 (.val 14 (.one 15 (.val 16 .done))))))))))))))))) (by kernel_rfl) (by kernel_rfl) HKy.out ?_
                    repeat (first
                      | (refine Sch.tn_q rfl rfl rfl (fun K hK => ?_); go_big_quiet_op; (first | refine hK _ ?_ | refine ⟨_, fun _ _ => rfl, hK _ ?_⟩); clear hK K)
                      | (refine Sch.tn_chk _ _ _ rfl rfl rfl rfl rfl ?_; simp only [Act.put, List.setIfInBounds_toArray, List.set_cons_zero, List.set_cons_succ])
                      | (refine Sch.tn_load _ _ _ _ _ rfl rfl rfl rfl (by first | exact Uy.ls | exact Uy.ld | exact Uy.lp) rfl ?_; simp only [Act.put, List.setIfInBounds_toArray, List.set_cons_zero, List.set_cons_succ]))
                    repeat (first
                      | (refine Sch.tn_q rfl rfl rfl (fun K hK => ?_); go_big_quiet_op; (first | refine hK _ ?_ | refine ⟨_, fun _ _ => rfl, hK _ ?_⟩); clear hK K)
                      | (refine Sch.tn_chk _ _ _ rfl rfl rfl rfl rfl ?_; simp only [Act.put, List.setIfInBounds_toArray, List.set_cons_zero, List.set_cons_succ])
                      | (refine Sch.tn_load _ _ _ _ _ rfl rfl rfl rfl (by first | exact Uy.ls | exact Uy.ld | exact Uy.lp) rfl ?_; simp only [Act.put, List.setIfInBounds_toArray, List.set_cons_zero, List.set_cons_succ])
                      | (refine Sch.tn_s _ rfl rfl rfl ?_; simp only [Act.put, List.setIfInBounds_toArray, List.set_cons_zero, List.set_cons_succ])
                      | (refine Sch.tn_se _ rfl rfl rfl ?_; simp only [Act.put, List.setIfInBounds_toArray, List.set_cons_zero, List.set_cons_succ]))
                    generalize wr.drew = w5x at *
                    refine Sch.tn_e rfl rfl (fun K hK => ?_)
                    go_wp2_with fail
                    refine (HBf.out _).mono ?_
                    rintro e' wt ⟨rfl, hl⟩
                    have hb := hl.bel
                    have HSt := Lib.hid (HSd.out.keep hb)
                    have HPt := Lib.hid (HPd.out.keep hb)
                    replace HKy := Lib.hid (HKy.out.keep hb)
                    replace HBd := bel_tr HBd hb
                    clear hb hl HBf HSd HPd
                    refine hK _ _ HKy.out ?_
                    clear hK K
                    rcases hls : less p q with _ | _
                    · have HE := Lib.hid (HSp.out hls)
                      clear hls HGo HSp HEp
                      repeat (first
                        | (refine Sch.tn_q rfl rfl rfl (fun K hK => ?_); go_big_quiet_op; (first | refine hK _ ?_ | refine ⟨_, fun _ _ => rfl, hK _ ?_⟩); clear hK K)
                        | (refine Sch.tn_chk _ _ _ rfl rfl rfl rfl rfl ?_; simp only [Act.put, List.setIfInBounds_toArray, List.set_cons_zero, List.set_cons_succ])
                        | (refine Sch.tn_load _ _ _ _ _ rfl rfl rfl rfl (by first | exact Uy.ls | exact Uy.ld | exact Uy.lp) rfl ?_; simp only [Act.put, List.setIfInBounds_toArray, List.set_cons_zero, List.set_cons_succ])
                        | (refine Sch.tn_s _ rfl rfl rfl ?_; simp only [Act.put, List.setIfInBounds_toArray, List.set_cons_zero, List.set_cons_succ])
                        | (refine Sch.tn_se _ rfl rfl rfl ?_; simp only [Act.put, List.setIfInBounds_toArray, List.set_cons_zero, List.set_cons_succ]))
                      refine Sch.tn_n ?_
                      clear HKy HBd HQp hix2 hi3 hg3 hh hey HS3 HP3
                      generalize (some ⟨b2, o2, none⟩ : Option Addr) = ay at *
                      have s2 := cut_hi ay Y.length cy e (Y.length - e) (by have := HTk.out; omega) HCy.out
                      have s1 := cut_lo ay Y.length cy e (by have := HTk.out; have := HCy.out; omega)
                      have HD : Hid ((Y.drop e).length = Y.length - e) := List.length_drop
                      have HTl : Hid ((Y.take e).length = e) := by show _ = _; rw [List.length_take]; have := HTk.out; omega
                      have hd := (Below.refl wt.heap.size wt).drew
                      have HS5 := Lib.hid (HSt.out.keep hd)
                      have HP5 := Lib.hid (HPt.out.keep hd)
                      have HKd : Hid (Ux (w0.heap.size + 1) (.slice ax U.1.length cx) (.slice ay Y.length cy) b1 (o1 + j * 2) q wt.drew) := Lib.hid ⟨⟨HS5.out.box.c0, HS5.out.box.c1⟩, HQ0.out.keep HS5.out.bel⟩
                      have HRd := Lib.hid (off_row HS5.out.ys.r.1 cy e HCy.out HTk.out)
                      have HLd := Lib.hid (RowD.take HS5.out.ys.r.1 e)
                      have HN2 : Hid (off ay cy e = none → cy - e = 0) := fun h => by have := HNy.out (off_none h); omega
                      have HI2 : Hid (fl (j + 1) = Y.take e ++ [q] ++ Y.drop e) := by show _ = _; rw [HE.out]; exact HI.out
                      have HLP : Hid ((Y.take e).length + (Y.drop e).length ≤ 2000) := by
                        show _ ≤ _
                        rw [List.length_take, List.length_drop]
                        have := HLj.out
                        have := HTk.out
                        omega
                      clear hd HSt HPt HE HI HLj HNin
                      generalize off ay cy e = ad2 at *
                      generalize cy - e = c2 at *
                      generalize Y.drop e = R at *
                      generalize Y.take e = P at *
                      generalize hmm : Y.length - e = m1 at *
                      have hR : m1 = R.length := HD.out.symm
                      have HMm := Lib.hid hmm
                      clear HD hmm
                      subst hR
                      obtain ⟨kk, hkk⟩ : ∃ kk, kk = e := ⟨_, rfl⟩
                      rw [← hkk] at HTl
                      have HKk := Lib.hid hkk
                      clear hkk
                      go_wp2_with fail
                      refine Sch.wp_region_tn (Ux (w0.heap.size + 1) (.slice ax U.1.length cx) (.slice ay Y.length cy) b1 (o1 + j * 2) q) (.val 0 (.val 1 (.val 2 (.val 3 (.val 5 (.val 6 (.val 7 (.val 8 (.one 4 (.one 9 (.val 10 .done))))))))))) (by kernel_rfl) (by kernel_rfl) HKd.out ?_
                      repeat (first
                        | (refine Sch.tn_q rfl rfl rfl (fun K hK => ?_); go_big_quiet_op; (first | refine hK _ ?_ | refine ⟨_, fun _ _ => rfl, hK _ ?_⟩); clear hK K)
                        | (refine Sch.tn_chk _ _ _ rfl rfl rfl rfl rfl ?_; simp only [Act.put, List.setIfInBounds_toArray, List.set_cons_zero, List.set_cons_succ])
                        | (refine Sch.tn_load _ _ _ _ _ rfl rfl rfl rfl (by first | exact Ux.lc | exact Ux.ls | exact Ux.ld) rfl ?_; simp only [Act.put, List.setIfInBounds_toArray, List.set_cons_zero, List.set_cons_succ]))
                      generalize wt.drew = w5 at *
                      refine Sch.tn_e rfl rfl (fun K hK => ?_)
                      go_wp2_with fail
                      have hb := bel_box w5 (.cells #[.int .i64 q.1, .int .i64 q.2] 48)
                      have HO := Lib.hid (od_one w5 w5.heap.size q (Nat.le_refl _))
                      have HK6 := Lib.hid (HKd.out.keep hb)
                      have HR6 := Lib.hid (HRd.out.keep hb)
                      have HZ := Lib.hid hb
                      clear hb
                      refine hK _ _ HK6.out ?_
                      clear hK K
                      generalize (w5.alloc (.cells #[.int .i64 q.1, .int .i64 q.2] 48)) = w6 at *
                      refine Sch.tn_e rfl rfl (fun K hK => ?_)
                      refine wp_appD _ _ _ rfl Tryz.underlying22 infoD _ [q] rfl HO.out ad2 R c2 _ rfl rfl HR6.out HN2.out (by have := HLP.out; simp only [List.length_cons, List.length_nil]; omega) HZ.out.size ?_
                      intro v2 w7 ho hg _
                      have HZ7 := Lib.hid (HZ.out.grown hg HZ.out.size (fun k hk => (HO.out.lt k hk).1))
                      have HO7 := Lib.hid ho
                      have HK7 := Lib.hid (HKd.out.keep HZ7.out)
                      have HL7 := Lib.hid (HLd.out.keep HZ7.out)
                      have HS7 := Lib.hid (HS5.out.keep HZ7.out)
                      have HP7 := Lib.hid (HP5.out.keep HZ7.out)
                      clear ho hg HO HK6 HR6 HZ HRd HLd HKd HS5 HP5
                      refine hK _ _ HK7.out ?_
                      clear hK K
                      simp only [Act.put, List.setIfInBounds_toArray, List.set_cons_zero, List.set_cons_succ]
                      repeat (first
                        | (refine Sch.tn_q rfl rfl rfl (fun K hK => ?_); go_big_quiet_op; (first | refine hK _ ?_ | refine ⟨_, fun _ _ => rfl, hK _ ?_⟩); clear hK K)
                        | (refine Sch.tn_chk _ _ _ rfl rfl rfl rfl rfl ?_; simp only [Act.put, List.setIfInBounds_toArray, List.set_cons_zero, List.set_cons_succ]))
                      refine Sch.tn_n ?_
                      obtain ⟨T7, hT7⟩ : ∃ T7, T7 = [q] ++ R := ⟨_, rfl⟩
                      rw [← hT7] at HO7
                      obtain ⟨a7, c7, rfl, hr7, hn7, -⟩ := HO7.out.row
                      have HR7 := Lib.hid hr7
                      have HN7 : Hid (a7 = none → c7 = 0) := fun h => (hn7 h).1
                      have HLT : Hid (P.length + T7.length ≤ 2001) := by
                        have := HLP.out
                        have e1 : T7.length = R.length + 1 := by rw [hT7]; simp
                        show _ ≤ _
                        omega
                      have HT7 := Lib.hid hT7
                      have HPe : Hid (e = P.length) := by have := HTl.out; have := HKk.out; show _ = _; omega
                      have y0 := HS7.out.box.c0
                      have y1 := HS7.out.box.c1
                      clear hr7 hn7 HO7 hT7 HTl HKk HN2 HK7 HMm HLP HZ7
                      go_wp2_with (at_builtin; refine wpList_appDn rfl _ _ _ rfl Tryz.underlying22 infoD (.slice none 0 0) [] rfl (OD.nil _ w7.heap.size _) ay P cy e HPe.out rfl HL7.out HNy.out (by have := HLT.out; simp only [List.length_nil]; omega) (Nat.le_refl _) ?_)
                      intro v8 w8 ho hg _
                      have HO8 := Lib.hid ho
                      have hb : Below w7.heap.size w7 w8 := (Below.refl _ _).grown hg (Nat.le_refl _) (fun k hk => by cases hk)
                      have HR8 := Lib.hid (HR7.out.keep hb)
                      have HZe : Hid (w7.heap.size ≤ w8.heap.size) := hb.size
                      have HZ78 := Lib.hid hb
                      clear ho hg hb HR7 HL7 HPe y0 y1
                      go_wp2_with (at_builtin; refine wpList_appDn rfl _ _ _ rfl Tryz.underlying22 infoD v8 P rfl HO8.out a7 T7 c7 T7.length rfl rfl HR8.out HN7.out (by have := HLT.out; omega) HZe.out ?_)
                      intro v9 w9 ho hg _
                      obtain ⟨V9, hV9⟩ : ∃ V9, V9 = P ++ T7 := ⟨_, rfl⟩
                      rw [← hV9] at ho
                      have HV9 := Lib.hid hV9
                      clear hV9
                      obtain ⟨a9, c9, rfl, -⟩ := ho.row
                      have HO9 := Lib.hid ho
                      have HZ9 := Lib.hid (HZ78.out.grown hg HZ78.out.size (fun k hk => (HO8.out.lt k hk).1))
                      have HS9 := Lib.hid (HS7.out.keep HZ9.out)
                      have y1 := HS9.out.box.c1
                      have f1 := HS9.out.box.fr 1
                      have HSn := Lib.hid (HS7.out.new1 HZ9.out (Nat.le_refl _) HO9.out)
                      have HPn := Lib.hid ((HP7.out.keep HZ9.out).set (i := 1) (z := .slice a9 V9.length c9) (show gs ≠ w0.heap.size + 1 by have := HGs.out; omega))
                      have HI3 : Hid (fl (j + 1) = V9) := by show _ = _; rw [HI2.out, List.append_assoc, ← HT7.out, ← HV9.out]
                      clear ho hg HO8 HR8 HZ78 HZe HS9 HI2
                      go_wp2_with fail
                      go_roundw
                      case rel => exact ⟨j + 1, _, by omega, by go_num, (by rw [HI3.out]; exact HSn), HPn⟩
                      case measure => simp [intOf]; omega
                    · have HE := Lib.hid (HGo.out hls)
                      clear hls HGo HSp HEp HTk HSt HPt
                      repeat (first
                        | (refine Sch.tn_q rfl rfl rfl (fun K hK => ?_); go_big_quiet_op; (first | refine hK _ ?_ | refine ⟨_, fun _ _ => rfl, hK _ ?_⟩); clear hK K)
                        | (refine Sch.tn_chk _ _ _ rfl rfl rfl rfl rfl ?_; simp only [Act.put, List.setIfInBounds_toArray, List.set_cons_zero, List.set_cons_succ])
                        | (refine Sch.tn_load _ _ _ _ _ rfl rfl rfl rfl (by first | exact Uy.ls | exact Uy.ld | exact Uy.lp) rfl ?_; simp only [Act.put, List.setIfInBounds_toArray, List.set_cons_zero, List.set_cons_succ])
                        | (refine Sch.tn_s _ rfl rfl rfl ?_; simp only [Act.put, List.setIfInBounds_toArray, List.set_cons_zero, List.set_cons_succ])
                        | (refine Sch.tn_se _ rfl rfl rfl ?_; simp only [Act.put, List.setIfInBounds_toArray, List.set_cons_zero, List.set_cons_succ]))
                      refine Sch.tn_n ?_
                      go_wp2_with fail
                      go_roundw
                      case rel => exact ⟨e + 1, by go_num, HE.out, HBd⟩
                      case measure => simp [intOf]; omega
                  · have HE : Hid (e = pos Y q) := pos_end (by have := HTk.out; omega) HEp.out
                    have hi3 : ¬ (e : Int) < (Y.length : Int) := by omega
                    have hg3 : decide ((e : Int) < (Y.length : Int)) = false := by simpa using hi3
                    have HKy : Hid (Ux (w0.heap.size + 1) (.slice ax U.1.length cx) (.slice ay Y.length cy) b1 (o1 + j * 2) q wr.drew) := Lib.hid ⟨⟨HSd.out.box.c0, HSd.out.box.c1⟩, HQ0.out.keep HSd.out.bel⟩
                    clear hd y1 HSr HPr
                    go_wp2_with fail
                    refine Sch.wp_region_tn (Ux (w0.heap.size + 1) (.slice ax U.1.length cx) (.slice ay Y.length cy) b1 (o1 + j * 2) q) (.val 0 (.val 1 (.val 2 (.val 3 (.val 4 (.val 5 (.val 6 (.val 7 (.val 8 (.val 9 (.val 10 (.val 11 (.val 12 (.val 13 (.val 14 (.one 15 (.val 16 .done))))))))))))))))) (by kernel_rfl) (by kernel_rfl) HKy.out ?_
                    repeat (first
                      | (refine Sch.tn_q rfl rfl rfl (fun K hK => ?_); go_big_quiet_op; (first | refine hK _ ?_ | refine ⟨_, fun _ _ => rfl, hK _ ?_⟩); clear hK K)
                      | (refine Sch.tn_chk _ _ _ rfl rfl rfl rfl rfl ?_; simp only [Act.put, List.setIfInBounds_toArray, List.set_cons_zero, List.set_cons_succ])
                      | (refine Sch.tn_load _ _ _ _ _ rfl rfl rfl rfl (by first | exact Ux.lc | exact Ux.ls | exact Ux.ld) rfl ?_; simp only [Act.put, List.setIfInBounds_toArray, List.set_cons_zero, List.set_cons_succ]))
                    repeat (first
                      | (refine Sch.tn_q rfl rfl rfl (fun K hK => ?_); go_big_quiet_op; (first | refine hK _ ?_ | refine ⟨_, fun _ _ => rfl, hK _ ?_⟩); clear hK K)
                      | (refine Sch.tn_chk _ _ _ rfl rfl rfl rfl rfl ?_; simp only [Act.put, List.setIfInBounds_toArray, List.set_cons_zero, List.set_cons_succ])
                      | (refine Sch.tn_load _ _ _ _ _ rfl rfl rfl rfl (by first | exact Ux.lc | exact Ux.ls | exact Ux.ld) rfl ?_; simp only [Act.put, List.setIfInBounds_toArray, List.set_cons_zero, List.set_cons_succ])
                      | (refine Sch.tn_s _ rfl rfl rfl ?_; simp only [Act.put, List.setIfInBounds_toArray, List.set_cons_zero, List.set_cons_succ])
                      | (refine Sch.tn_se _ rfl rfl rfl ?_; simp only [Act.put, List.setIfInBounds_toArray, List.set_cons_zero, List.set_cons_succ]))
                    refine Sch.tn_n ?_
                    have HSt := HSd
                    have HPt := HPd
                    clear HKy HSd HPd hi3 hg3 hh hey HS3 HP3 HEp
                    generalize wr.drew = wt at *
                    have s2 := cut_hi ay Y.length cy e (Y.length - e) (by have := HTk.out; omega) HCy.out
                    have s1 := cut_lo ay Y.length cy e (by have := HTk.out; have := HCy.out; omega)
                    have HD : Hid ((Y.drop e).length = Y.length - e) := List.length_drop
                    have HTl : Hid ((Y.take e).length = e) := by show _ = _; rw [List.length_take]; have := HTk.out; omega
                    have hd := (Below.refl wt.heap.size wt).drew
                    have HS5 := Lib.hid (HSt.out.keep hd)
                    have HP5 := Lib.hid (HPt.out.keep hd)
                    have HKd : Hid (Ux (w0.heap.size + 1) (.slice ax U.1.length cx) (.slice ay Y.length cy) b1 (o1 + j * 2) q wt.drew) := Lib.hid ⟨⟨HS5.out.box.c0, HS5.out.box.c1⟩, HQ0.out.keep HS5.out.bel⟩
                    have HRd := Lib.hid (off_row HS5.out.ys.r.1 cy e HCy.out HTk.out)
                    have HLd := Lib.hid (RowD.take HS5.out.ys.r.1 e)
                    have HN2 : Hid (off ay cy e = none → cy - e = 0) := fun h => by have := HNy.out (off_none h); omega
                    have HI2 : Hid (fl (j + 1) = Y.take e ++ [q] ++ Y.drop e) := by show _ = _; rw [HE.out]; exact HI.out
                    have HLP : Hid ((Y.take e).length + (Y.drop e).length ≤ 2000) := by
                      show _ ≤ _
                      rw [List.length_take, List.length_drop]
                      have := HLj.out
                      have := HTk.out
                      omega
                    clear hd HSt HPt HE HI HLj HNin
                    generalize off ay cy e = ad2 at *
                    generalize cy - e = c2 at *
                    generalize Y.drop e = R at *
                    generalize Y.take e = P at *
                    generalize hmm : Y.length - e = m1 at *
                    have hR : m1 = R.length := HD.out.symm
                    have HMm := Lib.hid hmm
                    clear HD hmm
                    subst hR
                    obtain ⟨kk, hkk⟩ : ∃ kk, kk = e := ⟨_, rfl⟩
                    rw [← hkk] at HTl
                    have HKk := Lib.hid hkk
                    clear hkk
                    go_wp2_with fail
                    refine Sch.wp_region_tn (Ux (w0.heap.size + 1) (.slice ax U.1.length cx) (.slice ay Y.length cy) b1 (o1 + j * 2) q) (.val 0 (.val 1 (.val 2 (.val 3 (.val 5 (.val 6 (.val 7 (.val 8 (.one 4 (.one 9 (.val 10 .done))))))))))) (by kernel_rfl) (by kernel_rfl) HKd.out ?_
                    repeat (first
                      | (refine Sch.tn_q rfl rfl rfl (fun K hK => ?_); go_big_quiet_op; (first | refine hK _ ?_ | refine ⟨_, fun _ _ => rfl, hK _ ?_⟩); clear hK K)
                      | (refine Sch.tn_chk _ _ _ rfl rfl rfl rfl rfl ?_; simp only [Act.put, List.setIfInBounds_toArray, List.set_cons_zero, List.set_cons_succ])
                      | (refine Sch.tn_load _ _ _ _ _ rfl rfl rfl rfl (by first | exact Ux.lc | exact Ux.ls | exact Ux.ld) rfl ?_; simp only [Act.put, List.setIfInBounds_toArray, List.set_cons_zero, List.set_cons_succ]))
                    generalize wt.drew = w5 at *
                    refine Sch.tn_e rfl rfl (fun K hK => ?_)
                    go_wp2_with fail
                    have hb := bel_box w5 (.cells #[.int .i64 q.1, .int .i64 q.2] 48)
                    have HO := Lib.hid (od_one w5 w5.heap.size q (Nat.le_refl _))
                    have HK6 := Lib.hid (HKd.out.keep hb)
                    have HR6 := Lib.hid (HRd.out.keep hb)
                    have HZ := Lib.hid hb
                    clear hb
                    refine hK _ _ HK6.out ?_
                    clear hK K
                    generalize (w5.alloc (.cells #[.int .i64 q.1, .int .i64 q.2] 48)) = w6 at *
                    refine Sch.tn_e rfl rfl (fun K hK => ?_)
                    refine wp_appD _ _ _ rfl Tryz.underlying22 infoD _ [q] rfl HO.out ad2 R c2 _ rfl rfl HR6.out HN2.out (by have := HLP.out; simp only [List.length_cons, List.length_nil]; omega) HZ.out.size ?_
                    intro v2 w7 ho hg _
                    have HZ7 := Lib.hid (HZ.out.grown hg HZ.out.size (fun k hk => (HO.out.lt k hk).1))
                    have HO7 := Lib.hid ho
                    have HK7 := Lib.hid (HKd.out.keep HZ7.out)
                    have HL7 := Lib.hid (HLd.out.keep HZ7.out)
                    have HS7 := Lib.hid (HS5.out.keep HZ7.out)
                    have HP7 := Lib.hid (HP5.out.keep HZ7.out)
                    clear ho hg HO HK6 HR6 HZ HRd HLd HKd HS5 HP5
                    refine hK _ _ HK7.out ?_
                    clear hK K
                    simp only [Act.put, List.setIfInBounds_toArray, List.set_cons_zero, List.set_cons_succ]
                    repeat (first
                      | (refine Sch.tn_q rfl rfl rfl (fun K hK => ?_); go_big_quiet_op; (first | refine hK _ ?_ | refine ⟨_, fun _ _ => rfl, hK _ ?_⟩); clear hK K)
                      | (refine Sch.tn_chk _ _ _ rfl rfl rfl rfl rfl ?_; simp only [Act.put, List.setIfInBounds_toArray, List.set_cons_zero, List.set_cons_succ]))
                    refine Sch.tn_n ?_
                    obtain ⟨T7, hT7⟩ : ∃ T7, T7 = [q] ++ R := ⟨_, rfl⟩
                    rw [← hT7] at HO7
                    obtain ⟨a7, c7, rfl, hr7, hn7, -⟩ := HO7.out.row
                    have HR7 := Lib.hid hr7
                    have HN7 : Hid (a7 = none → c7 = 0) := fun h => (hn7 h).1
                    have HLT : Hid (P.length + T7.length ≤ 2001) := by
                      have := HLP.out
                      have e1 : T7.length = R.length + 1 := by rw [hT7]; simp
                      show _ ≤ _
                      omega
                    have HT7 := Lib.hid hT7
                    have HPe : Hid (e = P.length) := by have := HTl.out; have := HKk.out; show _ = _; omega
                    have y0 := HS7.out.box.c0
                    have y1 := HS7.out.box.c1
                    clear hr7 hn7 HO7 hT7 HTl HKk HN2 HK7 HMm HLP HZ7
                    go_wp2_with (at_builtin; refine wpList_appDn rfl _ _ _ rfl Tryz.underlying22 infoD (.slice none 0 0) [] rfl (OD.nil _ w7.heap.size _) ay P cy e HPe.out rfl HL7.out HNy.out (by have := HLT.out; simp only [List.length_nil]; omega) (Nat.le_refl _) ?_)
                    intro v8 w8 ho hg _
                    have HO8 := Lib.hid ho
                    have hb : Below w7.heap.size w7 w8 := (Below.refl _ _).grown hg (Nat.le_refl _) (fun k hk => by cases hk)
                    have HR8 := Lib.hid (HR7.out.keep hb)
                    have HZe : Hid (w7.heap.size ≤ w8.heap.size) := hb.size
                    have HZ78 := Lib.hid hb
                    clear ho hg hb HR7 HL7 HPe y0 y1
                    go_wp2_with (at_builtin; refine wpList_appDn rfl _ _ _ rfl Tryz.underlying22 infoD v8 P rfl HO8.out a7 T7 c7 T7.length rfl rfl HR8.out HN7.out (by have := HLT.out; omega) HZe.out ?_)
                    intro v9 w9 ho hg _
                    obtain ⟨V9, hV9⟩ : ∃ V9, V9 = P ++ T7 := ⟨_, rfl⟩
                    rw [← hV9] at ho
                    have HV9 := Lib.hid hV9
                    clear hV9
                    obtain ⟨a9, c9, rfl, -⟩ := ho.row
                    have HO9 := Lib.hid ho
                    have HZ9 := Lib.hid (HZ78.out.grown hg HZ78.out.size (fun k hk => (HO8.out.lt k hk).1))
                    have HS9 := Lib.hid (HS7.out.keep HZ9.out)
                    have y1 := HS9.out.box.c1
                    have f1 := HS9.out.box.fr 1
                    have HSn := Lib.hid (HS7.out.new1 HZ9.out (Nat.le_refl _) HO9.out)
                    have HPn := Lib.hid ((HP7.out.keep HZ9.out).set (i := 1) (z := .slice a9 V9.length c9) (show gs ≠ w0.heap.size + 1 by have := HGs.out; omega))
                    have HI3 : Hid (fl (j + 1) = V9) := by show _ = _; rw [HI2.out, List.append_assoc, ← HT7.out, ← HV9.out]
                    clear ho hg HO8 HR8 HZ78 HZe HS9 HI2
                    go_wp2_with fail
                    go_roundw
                    case rel => exact ⟨j + 1, _, by omega, by go_num, (by rw [HI3.out]; exact HSn), HPn⟩
                    case measure => simp [intOf]; omega
              · have HI : Hid (fl (j + 1) = Y) := by
                  show _ = _
                  rw [HSt.out]
                  unfold stepU
                  rw [if_pos hhr]
                clear hhr HSt HSj HPj HK0
                go_wp2_with fail
                go_roundw
                case rel => exact ⟨j + 1, _, by omega, by go_num, (by rw [HI.out]; exact HS3), HP3⟩
                case measure => simp [intOf]; omega
            · obtain rfl : j = m.length := by omega
              have hend : ¬ (m.length : Int) < (m.length : Int) := by omega
              rw [HFn.out] at HSj
              go_wp2_with fail
              go_roundw
              case rel => exact ⟨k + 1, _, by omega, by go_num, HSj, HPj⟩
              case measure => simp [intOf]; omega
        · obtain rfl : k = 2 := by omega
          rw [HCe.out] at HSk
          obtain ⟨ay, cy, rfl, -⟩ := HSk.out.ys.row
          have x0 := HSk.out.box.c0
          have x1 := HSk.out.box.c1
          obtain ⟨⟨u0, r0⟩, r1⟩ := HSk.out.res 0 (by omega)
          obtain ⟨⟨u1, r2⟩, r3⟩ := HSk.out.res 1 (by omega)
          have HP := Lib.hid (F.put_two (x := .slice ax U.1.length cx) (y := .slice ay U.2.length cy) HSk.out.res)
          have HO : Hid (F.Ov ((wa.setCell ⟨w0.heap.size, 0, none⟩ (.slice ax U.1.length cx)).setCell ⟨w0.heap.size, 1, none⟩ (.slice ay U.2.length cy)) w.heap.size (.slice ax U.1.length cx) (.slice ay U.2.length cy) U) := Lib.hid ((F.Ov.put ⟨HSk.out.xs, HSk.out.ys⟩ (by omega)).mono (by have := HB.out.size; omega))
          have HBe : Hid (Below w.heap.size w ((wa.setCell ⟨w0.heap.size, 0, none⟩ (.slice ax U.1.length cx)).setCell ⟨w0.heap.size, 1, none⟩ (.slice ay U.2.length cy))) := Lib.hid (F.below_put (HB.out.trans (HSk.out.bel.mono HB.out.size)) HB.out.size)
          clear HSk
          go_wp2_with fail
          generalize (wa.setCell ⟨w0.heap.size, 0, none⟩ (.slice ax U.1.length cx)).setCell ⟨w0.heap.size, 1, none⟩ (.slice ay U.2.length cy) = W at *
          have q0 := HP.out.1
          have q1 := HP.out.2
          (try simp only [Exit.inBlock, Exit.then])
          refine bodyPost_ret (v := cv (.slice ax U.1.length cx) (.slice ay U.2.length cy)) (by rw [results_cell1 (fn := Tryz.f34) (p := 4) (ty := 25) rfl]; go_simp) rfl ?_
          exact ⟨_, _, rfl, HO.out, HBe.out⟩
end Go.Proofs.YtgopkffgljiblaaGreat.Dg
