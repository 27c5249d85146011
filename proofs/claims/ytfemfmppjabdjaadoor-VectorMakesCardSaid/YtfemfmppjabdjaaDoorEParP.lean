/-
  The program's Parse.
-/
import Derived.Test.YtfemfmppjabdjaaDoorEInv
namespace Go.Proofs.YtfemfmppjabdjaaDoor.E
set_option linter.unusedVariables false
open Go.RowKit V Go.Sort D Go.Shelf
attribute [local go_sem] Oper.semAt_some

theorem results_cell2 {P : Program} {fn : Func} {p q : Tmp} {ty ty2 : TypeId} (h : fn.results = #[.cell p ty, .cell q ty2]) (tmps : Array Value) (w : World) :
    (results fn tmps).run P w = ((asAddr (tmps.getD p undef)).run P w).andThen fun a w₁ => ((loadVar ty a).run P w₁).andThen fun v w₂ => ((asAddr (tmps.getD q undef)).run P w₂).andThen fun a2 w₃ => ((loadVar ty2 a2).run P w₃).andThen fun v2 w₄ => .ok (.tuple #[v, v2]) w₄ := by
  simp only [results, h]
  simp [Sem.run_bind, Result.andThen]

theorem new_cl (w : World) (v : Value) (t : TypeId) : Cl (w.alloc (.cells #[v] t)) w.heap.size v := by
  have h : (w.alloc (.cells #[v] t)).heap[w.heap.size]? = some (.cells #[v] t (0, 0)) := by show (w.heap.push _)[w.heap.size]? = _; simp
  constructor
  · simp only [World.cell?, h]
    rw [if_neg (by simp)]
    rfl
  · unfold World.frozen?
    rw [show (⟨w.heap.size, 0, none⟩ : Addr).block = w.heap.size from rfl, h]
    rfl
theorem Cl.grow {W : World} {b : Nat} {v : Value} (h : Cl W b v) (o : Obj) : Cl (W.alloc o) b v := h.gb (gb_alloc W o none) (fun e => by cases e)
theorem vars_start (w : World) (x y v s p n : Value) (t1 t2 t3 t4 t5 t6 : TypeId) (r : List UInt8) (hs : s = .string ⟨r.toArray⟩) (hp : p = .string ⟨#[32]⟩) (hn : n = .int .i64 0) :
    Vars w ((((((w.alloc (.cells #[x] t1)).alloc (.cells #[y] t2)).alloc (.cells #[v] t3)).alloc (.cells #[s] t4)).alloc (.cells #[p] t5)).alloc (.cells #[n] t6)) w.heap.size x y v r := by
  subst hs hp hn
  have c0 := new_cl w x t1
  have c1 := new_cl (w.alloc (.cells #[x] t1)) y t2
  have c2 := new_cl ((w.alloc (.cells #[x] t1)).alloc (.cells #[y] t2)) v t3
  have c3 := new_cl (((w.alloc (.cells #[x] t1)).alloc (.cells #[y] t2)).alloc (.cells #[v] t3)) (.string ⟨r.toArray⟩) t4
  have c4 := new_cl ((((w.alloc (.cells #[x] t1)).alloc (.cells #[y] t2)).alloc (.cells #[v] t3)).alloc (.cells #[.string ⟨r.toArray⟩] t4)) (.string ⟨#[32]⟩) t5
  have c5 := new_cl (((((w.alloc (.cells #[x] t1)).alloc (.cells #[y] t2)).alloc (.cells #[v] t3)).alloc (.cells #[.string ⟨r.toArray⟩] t4)).alloc (.cells #[.string ⟨#[32]⟩] t5)) (.int .i64 0) t6
  simp only [World.size_alloc] at c1 c2 c3 c4 c5
  refine ⟨((((c0.grow _).grow _).grow _).grow _).grow _, (((c1.grow _).grow _).grow _).grow _, ((c2.grow _).grow _).grow _, (c3.grow _).grow _, c4.grow _, c5, ?_, rfl⟩
  refine ((((((Below.refl _ _).alloc (Nat.le_refl _) _).alloc ?_ _).alloc ?_ _).alloc ?_ _).alloc ?_ _).alloc ?_ _ <;> simp <;> omega

theorem wpListIn_appD {F : Fence} {n : Nat} {P : Program} {w : World} {ops : Array Oper} {rest : List Oper} {x : Oper} {a : Act} {Q : Exit → Act → World → Prop} (hgd : x.guard = none) (s y : Operand) (T : TypeId)
    (ho : x.op = .call { callee := .builtin .append, args := #[s, y], argTypes := #[T, T] })
    {base : Nat} {E : TypeId} (hT : P.underlying T = some (.slice E)) (hinfo : (P.info? E).map (fun i => (i.zero, i.size, i.bytes)) = some (some (.agg #[.int .i64 0, .int .i64 0]), 2, 16))
    (v : Value) (l : List Dt) (hs : a.eval s = v) (h : OD w base E v l) (ad : Option Addr) (m : List Dt) (c : Nat) (hx : a.eval y = .slice ad m.length c) (hrow : RowD w ad m) (hnil : ad = none → c = 0)
    (hlen : l.length + m.length ≤ 8796093022208) (hbase : base ≤ w.heap.size)
    (hk : ∀ v' w', OD w' base E v' (l ++ m) → w.grownBy w' v.ownBlock → G.Grew w v v' → wpListIn F n P ops Q rest (a.put x.dst v') w') : wpListIn F n P ops Q (x :: rest) a w := by
  obtain ⟨v', w', hr, h2, h3, h4⟩ := run_appD hT hinfo h x.type ad m c hrow hnil hlen hbase
  refine wpListIn_plain hgd fun K hK => ?_
  unfold Oper.wpIn
  refine ⟨by simp [Oper.about, ho, resolve, Target.leads, Sem.run_pure], ?_⟩
  rw [Oper.semAt_plain F _ _ (by rw [ho]; intro c hc'; cases hc')]
  simp [execOp, ho, resolve, invoke, builtin, hs, hx, hr, Result.andThen]
  exact hK _ _ (hk v' w' h2 h3 h4)

theorem keeps_below (B : Nat) {W W' : World} (hb : Below W.heap.size W W') : KeepsFrom B W W' := ⟨hb.size, fun k o _ hk _ => (hb.block k (Array.getElem?_eq_some_iff.1 hk).1).trans hk⟩
theorem keeps_app {B : Nat} {W W2 W5 : World} {row : Option Nat} (h : KeepsFrom B W W2) (o o' : Obj) (hg : ((W2.alloc o).alloc o').grownBy W5 row) (hc : ∀ j, row = some j → ∃ q : Obj, ((W2.alloc o).alloc o').heap[j]? = some q ∧ q.isCells = true) : KeepsFrom B W W5 := by
  refine ((h.trans ((KeepsOthers.alloc _ o).from B)).trans ((KeepsOthers.alloc _ o').from B)).trans ((KeepsOthers.of_grownBy hg fun j q hj hq => ?_).from B)
  obtain ⟨q2, h2, h3⟩ := hc j hj
  rw [hq] at h2
  cases h2
  exact h3
theorem od_set2 {W : World} {B : Nat} {v u : Value} {l : List Dt} (h : OD W (B + 6) E v l) : OD (W.setCell ⟨B + 1 + 1, 0, none⟩ u) (B + 6) E v l :=
  h.keep (gb_setCell W (B + 1 + 1) 0 u) (.inr fun e => by have := (h.lt _ e).1; omega)
theorem row_set2 {W : World} {B n c : Nat} {a : Option Addr} {u : Value} {l : List Dt} (h : OD W (B + 6) E (.slice a n c) l) : RowD (W.setCell ⟨B + 1 + 1, 0, none⟩ u) a l := (od_set2 h).r.1

/-- What Parse says: a vector, or an error. -/
def prsE (l : List UInt8) : List Dt × Int := match prsV l with | some v => (v, 0) | none => ([], 6)
theorem prsE_of {l : List UInt8} {v : List Dt} {b : Bool} (h : prsVB l = (v, b)) : prsE l = (v, if b = true then 0 else 6) := by
  unfold prsVB at h
  unfold prsE
  cases hp : prsV l with
  | none => rw [hp] at h; cases h; rfl
  | some u => rw [hp] at h; cases h; rfl

/-- The function is left: the results are read. -/
theorem leave_par {w W : World} {B D : Nat} {x y v : Value} {r : List UInt8} {ds : List Dt} {u : Value} (h : Vars w W B x y v r) (hO : OD W (B + 6) E u ds) (hK : W.heap[D]? = some (.deferred (some []))) (hD : B + 6 ≤ D) :
    (∀ tmps : Array Value, tmps.getD 2 undef = .pointer (some ⟨B, 0, none⟩) → tmps.getD 3 undef = .pointer (some ⟨B + 1, 0, none⟩) →
      (results Tryd.f41 tmps).run Tryd.prog (W.putObj D (.deferred none)) = .ok (.tuple #[x, y]) (W.putObj D (.deferred none))) ∧
    Vars w (W.putObj D (.deferred none)) B x y v r ∧ OD (W.putObj D (.deferred none)) (B + 6) E u ds := by
  have hg := grownBy_putObj' W D (.deferred none)
  have hV := h.gb hg (fun k e => by cases e; omega)
  refine ⟨fun tmps h2 h3 => ?_, hV, hO.keep hg (.inr fun e => ?_)⟩
  · have c0 := hV.1.1
    have c1 := hV.2.1.1
    generalize W.putObj D (.deferred none) = W2 at *
    rw [results_cell2 (fn := Tryd.f41) (p := 2) (q := 3) (ty := 23) (ty2 := 34) rfl, h2, h3]
    have a1 := Tryd.isAgg23
    have a2 := Tryd.isAgg34
    go_simp
  · obtain ⟨o2, h5, h6⟩ := OD.cells hO e
    rw [hK] at h5
    cases h5
    cases h6
set_option maxRecDepth 100000 in
set_option maxHeartbeats 4000000 in
theorem parse_any5 (l : List UInt8) (w : World) (hL : Ld w) (hlen : l.length ≤ 1000) :
    Calls Tryd.prog 41 #[.string ⟨l.toArray⟩] w fun e w' => ∃ v, e = .returned (.tuple #[v, .int .i64 (prsE l).2]) ∧ OD w' w.heap.size E v (prsE l).1 ∧ Below w.heap.size w w' := by
  by_cases hroot : l = [45]
  · have HE : prsE l = ([], 0) := by unfold prsE prsV; rw [if_pos hroot]
    have hb : ((⟨l.toArray⟩ : ByteArray).toList == [45]) = true := by rw [hroot]; simp
    clear hroot hlen
    generalize prsE l = R at *
    subst HE
    generalize (⟨l.toArray⟩ : ByteArray) = S at *
    go_enter Tryd.func41, Tryd.ntmps41
    go_wp2_with fail
    (try simp only [Exit.inBlock, Exit.then])
    refine bodyPost_ret (v := .tuple #[.slice none 0 0, .int .i64 0]) (by rw [results_cell2 (fn := Tryd.f41) (p := 2) (q := 3) (ty := 23) (ty2 := 34) rfl]; go_simp) rfl ?_
    exact ⟨_, rfl, OD.nil _ _ _, ((Below.refl _ _).alloc (Nat.le_refl _) _).alloc (by simp) _⟩
  · have hb : ((⟨l.toArray⟩ : ByteArray).toList == [45]) = false := by
      rw [beq_eq_false_iff_ne]
      intro h
      exact hroot (by have : l = [45] := by simpa using h
                      exact this)
    have hb2 : (l == [45]) = false := by rw [beq_eq_false_iff_ne]; exact hroot
    have hHas : ∀ x ∈ parts [] l, x.length ≤ 1000 := fun x hx => by have := part_len l [] x hx; simp at this; omega
    have hPl := parts_len l []
    have HPs := Lib.hid (fun x (hx : x ∈ parts [] l) (wx : World) (hL : Ld wx) => D.parse_any x wx hL (by have := hHas x hx; omega))
    have HBn := Lib.hid (fun pre hp hb => prsE_of (bad_none hroot (pre := pre) hp hb))
    have HGd := Lib.hid (fun ds hr hv => prsE_of (good_some hroot (ds := ds) hr hv))
    have HSp := Lib.hid (fun w => SplitSeq_any l w)
    have HSi := Lib.hid (fun (k : Nat) J Jx hIt hset hY W h0 => split_in (5 - 1) k (w.heap.size + 3) (w.heap.size + 4) (w.heap.size + 5) (by omega) l (by omega) J Jx hIt hset hY W h0)
    have HLd := Lib.hid hL
    have HLn := Lib.hid hlen
    generalize prsE l = R at *
    clear hL hlen hroot hHas
    refine (callsIn_wide (n := 5)).1 ?_
    refine callsIn_of_wp_marks Tryd.func41 rfl trivial ?_ rfl
    simp only [Tryd.ntmps41, List.size_toArray, List.length_cons, List.length_nil, Nat.reduceAdd, Nat.reduceSub, Array.replicate_succ, Array.replicate_zero, List.push_toArray, List.append_toArray, List.nil_append, List.cons_append]
    gi_wp2_with ((try refine ⟨trivial, ?_⟩); gi_at_call 49; refine (callsIn_wide.2 (HSp.out _)).mono ?_; rintro e w' ⟨rfl, rfl⟩)
    have hV := vars_start w (.slice none 0 0) (.int .i64 0) (.slice none 0 0) (.string ⟨l.toArray⟩) (.string ⟨#[32]⟩) (.int .i64 0) 23 34 23 9 9 3 l rfl rfl rfl
    generalize ((((((w.alloc (Obj.cells #[Value.slice none 0 0] 23)).alloc (Obj.cells #[Value.int IntKind.i64 0] 34)).alloc (Obj.cells #[Value.slice none 0 0] 23)).alloc (Obj.cells #[Value.string { data := l.toArray }] 9)).alloc (Obj.cells #[Value.string { data := #[32] }] 9)).alloc (Obj.cells #[Value.int IntKind.i64 0] 3)) = w6 at *
    have HV := Lib.hid hV
    have hlt := hV.lt
    refine range_split (gf := 62) (lb := #[.pointer (some ⟨w.heap.size + 1 + 1 + 1 + 1, 0, none⟩), .pointer (some ⟨w.heap.size + 1 + 1 + 1, 0, none⟩), .pointer (some ⟨w.heap.size + 1 + 1 + 1 + 1 + 1, 0, none⟩)]) (by omega) (by rfl) (enters_of Tryd.func62 (by kernel_rfl) rfl) (by rfl)
      (parts [] l) l (w.heap.size + 3) (by omega) (Inv w w.heap.size) (Inx w w.heap.size) (inv_rides hlt) (inx_rides hlt) (inv_set (w0 := w) (B := w.heap.size))
      (fun o o' => ⟨_, [], ((HV.out.gb (gb_alloc _ o none) (fun k e => by cases e)).gb (gb_alloc _ o' none) (fun k e => by cases e)), OD.nil _ _ _, rfl, rfl⟩)
      (fun k J Jx W hJI hset hY h0 => HSi.out k J Jx (fun pre r A hj => inv_it (hJI pre r A hj)) hset hY W h0)
      (fun x => { tmps := #[.string ⟨l.toArray⟩, undef, .pointer (some ⟨w.heap.size, 0, none⟩), .pointer (some ⟨w.heap.size + 1, 0, none⟩), .pointer (some ⟨w.heap.size + 1 + 1, 0, none⟩), .string ⟨x.toArray⟩, undef, undef, .string ⟨l.toArray⟩, .bool false, .string ⟨l.toArray⟩,
        .func (.func 62) #[] #[.pointer (some ⟨w.heap.size + 1 + 1 + 1 + 1, 0, none⟩), .pointer (some ⟨w.heap.size + 1 + 1 + 1, 0, none⟩), .pointer (some ⟨w.heap.size + 1 + 1 + 1 + 1 + 1, 0, none⟩)], .string ⟨x.toArray⟩, undef, undef, undef, undef, undef, undef, undef, undef, undef, undef, undef, undef, undef, undef, undef, undef, undef], defers := [] }) ?assign ?body ?done ?stop
    case assign =>
      intro k x W K hK
      gi_wp2
      exact hK
    case body =>
      rintro k pre x r W ⟨v, ds, hVa, hO, hra, hva⟩ hpre
      have hmem : x ∈ parts [] l := hpre.subset (by simp)
      have hdl : ds.length ≤ 1001 := by
        have h1 := readAll_len hra
        have h2 := hpre.length_le
        have h3 := HLn.out
        simp at h2
        omega
      have hlt0 := hVa.lt
      obtain ⟨a2, c2, rfl, -⟩ := hO.row
      clear HSi HSp HBn HGd HV hV
      rcases hp : prsD x with _ | d
      · have HC := Lib.hid (HPs.out x hmem W (HLd.out.keep hVa.2.2.2.2.2.2.1 (Nat.le_refl _)))
        have e : prsR x = ((0, 0), 6) := by unfold prsR; rw [hp]
        rw [e] at HC
        have HBd : Hid (Bad (pre ++ [x])) := fun u hu => by rw [readAll_app, hra] at hu; simp [readAll, hp] at hu
        have HVa := Lib.hid hVa
        have HO := Lib.hid hO
        have HDl := Lib.hid hdl
        obtain ⟨m, hm⟩ : ∃ m, m = ds ++ [((0 : Int), (0 : Int))] := ⟨_, rfl⟩
        have HE := Lib.hid hm
        have h60 : ((6 : Int) != 0) = true := by decide
        clear e hp hra hva hVa hO hmem hdl hm HPs HLd HLn
        gi_wp2_with (first | ((try refine ⟨trivial, ?_⟩); gi_at_call 50; refine (CallsIn.inRound k (callsIn_wide.2 HC.out)).mono ?_; rintro e W2 ⟨rfl, hbl⟩; have HK2 := Lib.hid (keeps_below w6.heap.size hbl); have HV3 := Lib.hid ((HVa.out.below hbl).gb (gb_alloc W2 (Obj.cells #[Value.int IntKind.i64 0, Value.int IntKind.i64 0] 25) none) (fun j e => by cases e)); have HO3 := Lib.hid ((HO.out.below hbl).below ((Below.refl _ _).alloc (Nat.le_refl _) (Obj.cells #[Value.int IntKind.i64 0, Value.int IntKind.i64 0] 25))); have x2 : (W2.alloc (Obj.cells #[Value.int IntKind.i64 0, Value.int IntKind.i64 0] 25)).cell? ⟨w.heap.size + 1 + 1, 0, none⟩ = some (.slice a2 ds.length c2) := HV3.out.2.2.1.1; have hz3 : (W2.alloc (Obj.cells #[Value.int IntKind.i64 0, Value.int IntKind.i64 0] 25)).heap.size = W2.heap.size + 1 := (by simp); clear hbl) | (gi_at_builtin; refine wpListIn_appD rfl _ _ _ rfl Tryd.underlying23 infoD _ _ rfl (HO3.out.below ((Below.refl _ _).alloc (Nat.le_refl _) (Obj.cells #[Value.int IntKind.i64 0, Value.int IntKind.i64 0] 25))) (some ⟨(W2.alloc (Obj.cells #[Value.int IntKind.i64 0, Value.int IntKind.i64 0] 25)).heap.size, 0, none⟩) [(0, 0)] 1 (by rw [hz3]; rfl) (lit_one _ (0, 0) _) (fun h => by cases h) (by have := HDl.out; simp; omega) (Nat.le_trans HV3.out.lt (by simp)) ?_; intro v5 W5 ho5 hg5 _; rw [← HE.out] at ho5; have HV5 := Lib.hid ((HV3.out.gb (gb_alloc _ (Obj.cells #[Value.int IntKind.i64 0, Value.int IntKind.i64 0] 25) none) (fun j e => by cases e)).gb hg5 (fun j hj => (HO3.out.lt j hj).1)); have HK5 := Lib.hid (keeps_app HK2.out (Obj.cells #[Value.int IntKind.i64 0, Value.int IntKind.i64 0] 25) (Obj.cells #[Value.int IntKind.i64 0, Value.int IntKind.i64 0] 25) hg5 (fun j hj => OD.cells (HO3.out.below ((Below.refl _ _).alloc (Nat.le_refl _) (Obj.cells #[Value.int IntKind.i64 0, Value.int IntKind.i64 0] 25))) hj)); obtain ⟨a5, c5, rfl, hrow5, hn5, hc5, -⟩ := ho5.row; have HS := Lib.hid (HV5.out.set2 (.slice a5 m.length c5)); have HO5 := Lib.hid (od_set2 (u := .slice a5 m.length c5) ho5); have HR5 := Lib.hid (row_set2 (u := .slice a5 m.length c5) ho5); have x5 : W5.cell? ⟨w.heap.size + 1 + 1, 0, none⟩ = some (.slice a2 ds.length c2) := HV5.out.2.2.1.1; have f5 : W5.frozen? ⟨w.heap.size + 1 + 1, 0, none⟩ = false := HV5.out.2.2.1.2; have y2 : (W5.setCell ⟨w.heap.size + 1 + 1, 0, none⟩ (.slice a5 m.length c5)).cell? ⟨w.heap.size + 1 + 1, 0, none⟩ = some (.slice a5 m.length c5) := HS.out.2.2.1.1; have y0 : (W5.setCell ⟨w.heap.size + 1 + 1, 0, none⟩ (.slice a5 m.length c5)).cell? ⟨w.heap.size, 0, none⟩ = some (.slice none 0 0) := HS.out.1.1; have z0 : (W5.setCell ⟨w.heap.size + 1 + 1, 0, none⟩ (.slice a5 m.length c5)).frozen? ⟨w.heap.size, 0, none⟩ = false := HS.out.1.2; have HT := Lib.hid (HS.out.set0 (.slice none 0 0)); have y1 : ((W5.setCell ⟨w.heap.size + 1 + 1, 0, none⟩ (.slice a5 m.length c5)).setCell ⟨w.heap.size, 0, none⟩ (.slice none 0 0)).cell? ⟨w.heap.size + 1, 0, none⟩ = some (.int .i64 0) := HT.out.2.1.1; have z1 : ((W5.setCell ⟨w.heap.size + 1 + 1, 0, none⟩ (.slice a5 m.length c5)).setCell ⟨w.heap.size, 0, none⟩ (.slice none 0 0)).frozen? ⟨w.heap.size + 1, 0, none⟩ = false := HT.out.2.1.2; clear ho5 hg5 hrow5 hn5 hc5 x2))
        refine ⟨trivial, ?_⟩
        gi_wp2
        exact ⟨((HK5.out.trans ((KeepsOthers.setCell _ _ _).from _)).trans ((KeepsOthers.setCell _ _ _).from _)).trans ((KeepsOthers.setCell _ _ _).from _), _, _, HT.out.set1 _, HBd.out⟩
      · have HC := Lib.hid (HPs.out x hmem W (HLd.out.keep hVa.2.2.2.2.2.2.1 (Nat.le_refl _)))
        have e : prsR x = (d, 0) := by unfold prsR; rw [hp]
        rw [e] at HC
        obtain ⟨m, hm⟩ : ∃ m, m = ds ++ [d] := ⟨_, rfl⟩
        have hrm : readAll (pre ++ [x]) = some m := by rw [readAll_app, hra, hm]; simp [readAll, hp]
        have HRm := Lib.hid hrm
        have HE := Lib.hid hm
        have HVa := Lib.hid hVa
        have HO := Lib.hid hO
        have HDl := Lib.hid hdl
        rcases hvm : validV m with _ | _
        · have HBd : Hid (Bad (pre ++ [x])) := fun u hu => by rw [hrm] at hu; cases hu; exact hvm
          have HVm := Lib.hid hvm
          clear e hp hra hva hVa hO hmem hdl hm hrm hvm HPs HLd HLn
          obtain ⟨d1, d2⟩ := d
          gi_wp2_with (first | ((try refine ⟨trivial, ?_⟩); gi_at_call 50; refine (CallsIn.inRound k (callsIn_wide.2 HC.out)).mono ?_; rintro e W2 ⟨rfl, hbl⟩; have HK2 := Lib.hid (keeps_below w6.heap.size hbl); have HV3 := Lib.hid ((HVa.out.below hbl).gb (gb_alloc W2 (Obj.cells #[Value.int IntKind.i64 d1, Value.int IntKind.i64 d2] 25) none) (fun j e => by cases e)); have HO3 := Lib.hid ((HO.out.below hbl).below ((Below.refl _ _).alloc (Nat.le_refl _) (Obj.cells #[Value.int IntKind.i64 d1, Value.int IntKind.i64 d2] 25))); have x2 : (W2.alloc (Obj.cells #[Value.int IntKind.i64 d1, Value.int IntKind.i64 d2] 25)).cell? ⟨w.heap.size + 1 + 1, 0, none⟩ = some (.slice a2 ds.length c2) := HV3.out.2.2.1.1; have hz3 : (W2.alloc (Obj.cells #[Value.int IntKind.i64 d1, Value.int IntKind.i64 d2] 25)).heap.size = W2.heap.size + 1 := (by simp); clear hbl) | (gi_at_builtin; refine wpListIn_appD rfl _ _ _ rfl Tryd.underlying23 infoD _ _ rfl (HO3.out.below ((Below.refl _ _).alloc (Nat.le_refl _) (Obj.cells #[Value.int IntKind.i64 d1, Value.int IntKind.i64 d2] 25))) (some ⟨(W2.alloc (Obj.cells #[Value.int IntKind.i64 d1, Value.int IntKind.i64 d2] 25)).heap.size, 0, none⟩) [(d1, d2)] 1 (by rw [hz3]; rfl) (lit_one _ (d1, d2) _) (fun h => by cases h) (by have := HDl.out; simp; omega) (Nat.le_trans HV3.out.lt (by simp)) ?_; intro v5 W5 ho5 hg5 _; rw [← HE.out] at ho5; have HV5 := Lib.hid ((HV3.out.gb (gb_alloc _ (Obj.cells #[Value.int IntKind.i64 d1, Value.int IntKind.i64 d2] 25) none) (fun j e => by cases e)).gb hg5 (fun j hj => (HO3.out.lt j hj).1)); have HK5 := Lib.hid (keeps_app HK2.out (Obj.cells #[Value.int IntKind.i64 d1, Value.int IntKind.i64 d2] 25) (Obj.cells #[Value.int IntKind.i64 d1, Value.int IntKind.i64 d2] 25) hg5 (fun j hj => OD.cells (HO3.out.below ((Below.refl _ _).alloc (Nat.le_refl _) (Obj.cells #[Value.int IntKind.i64 d1, Value.int IntKind.i64 d2] 25))) hj)); obtain ⟨a5, c5, rfl, hrow5, hn5, hc5, -⟩ := ho5.row; have HS := Lib.hid (HV5.out.set2 (.slice a5 m.length c5)); have HO5 := Lib.hid (od_set2 (u := .slice a5 m.length c5) ho5); have HR5 := Lib.hid (row_set2 (u := .slice a5 m.length c5) ho5); have x5 : W5.cell? ⟨w.heap.size + 1 + 1, 0, none⟩ = some (.slice a2 ds.length c2) := HV5.out.2.2.1.1; have f5 : W5.frozen? ⟨w.heap.size + 1 + 1, 0, none⟩ = false := HV5.out.2.2.1.2; have y2 : (W5.setCell ⟨w.heap.size + 1 + 1, 0, none⟩ (.slice a5 m.length c5)).cell? ⟨w.heap.size + 1 + 1, 0, none⟩ = some (.slice a5 m.length c5) := HS.out.2.2.1.1; clear ho5 hg5 hrow5 hn5 hc5 x2) | ((try refine ⟨trivial, ?_⟩); gi_at_call 9; refine (CallsIn.inRound k (callsIn_wide.2 (validV_any m a5 c5 _ HR5.out (by have := HE.out; have := HDl.out; rw [HE.out]; simp; omega)))).mono ?_; rintro e W7 ⟨rfl, hl7⟩; have HV7 := Lib.hid (HS.out.below hl7.bel); have HO7 := Lib.hid (HO5.out.below hl7.bel); have HK7 := Lib.hid (keeps_below w6.heap.size hl7.bel); have y0 : W7.cell? ⟨w.heap.size, 0, none⟩ = some (.slice none 0 0) := HV7.out.1.1; have z0 : W7.frozen? ⟨w.heap.size, 0, none⟩ = false := HV7.out.1.2; have HT := Lib.hid (HV7.out.set0 (.slice none 0 0)); have y1 : (W7.setCell ⟨w.heap.size, 0, none⟩ (.slice none 0 0)).cell? ⟨w.heap.size + 1, 0, none⟩ = some (.int .i64 0) := HT.out.2.1.1; have z1 : (W7.setCell ⟨w.heap.size, 0, none⟩ (.slice none 0 0)).frozen? ⟨w.heap.size + 1, 0, none⟩ = false := HT.out.2.1.2; rw [HVm.out]; clear hl7 y2 x5 f5))
          exact ⟨(((HK5.out.trans ((KeepsOthers.setCell _ _ _).from _)).trans HK7.out).trans ((KeepsOthers.setCell _ _ _).from _)).trans ((KeepsOthers.setCell _ _ _).from _), _, _, HT.out.set1 _, HBd.out⟩
        · have HVm := Lib.hid hvm
          clear e hp hra hva hVa hO hmem hdl hm hrm hvm HPs HLd HLn
          obtain ⟨d1, d2⟩ := d
          gi_wp2_with (first | ((try refine ⟨trivial, ?_⟩); gi_at_call 50; refine (CallsIn.inRound k (callsIn_wide.2 HC.out)).mono ?_; rintro e W2 ⟨rfl, hbl⟩; have HK2 := Lib.hid (keeps_below w6.heap.size hbl); have HV3 := Lib.hid ((HVa.out.below hbl).gb (gb_alloc W2 (Obj.cells #[Value.int IntKind.i64 d1, Value.int IntKind.i64 d2] 25) none) (fun j e => by cases e)); have HO3 := Lib.hid ((HO.out.below hbl).below ((Below.refl _ _).alloc (Nat.le_refl _) (Obj.cells #[Value.int IntKind.i64 d1, Value.int IntKind.i64 d2] 25))); have x2 : (W2.alloc (Obj.cells #[Value.int IntKind.i64 d1, Value.int IntKind.i64 d2] 25)).cell? ⟨w.heap.size + 1 + 1, 0, none⟩ = some (.slice a2 ds.length c2) := HV3.out.2.2.1.1; have hz3 : (W2.alloc (Obj.cells #[Value.int IntKind.i64 d1, Value.int IntKind.i64 d2] 25)).heap.size = W2.heap.size + 1 := (by simp); clear hbl) | (gi_at_builtin; refine wpListIn_appD rfl _ _ _ rfl Tryd.underlying23 infoD _ _ rfl (HO3.out.below ((Below.refl _ _).alloc (Nat.le_refl _) (Obj.cells #[Value.int IntKind.i64 d1, Value.int IntKind.i64 d2] 25))) (some ⟨(W2.alloc (Obj.cells #[Value.int IntKind.i64 d1, Value.int IntKind.i64 d2] 25)).heap.size, 0, none⟩) [(d1, d2)] 1 (by rw [hz3]; rfl) (lit_one _ (d1, d2) _) (fun h => by cases h) (by have := HDl.out; simp; omega) (Nat.le_trans HV3.out.lt (by simp)) ?_; intro v5 W5 ho5 hg5 _; rw [← HE.out] at ho5; have HV5 := Lib.hid ((HV3.out.gb (gb_alloc _ (Obj.cells #[Value.int IntKind.i64 d1, Value.int IntKind.i64 d2] 25) none) (fun j e => by cases e)).gb hg5 (fun j hj => (HO3.out.lt j hj).1)); have HK5 := Lib.hid (keeps_app HK2.out (Obj.cells #[Value.int IntKind.i64 d1, Value.int IntKind.i64 d2] 25) (Obj.cells #[Value.int IntKind.i64 d1, Value.int IntKind.i64 d2] 25) hg5 (fun j hj => OD.cells (HO3.out.below ((Below.refl _ _).alloc (Nat.le_refl _) (Obj.cells #[Value.int IntKind.i64 d1, Value.int IntKind.i64 d2] 25))) hj)); obtain ⟨a5, c5, rfl, hrow5, hn5, hc5, -⟩ := ho5.row; have HS := Lib.hid (HV5.out.set2 (.slice a5 m.length c5)); have HO5 := Lib.hid (od_set2 (u := .slice a5 m.length c5) ho5); have HR5 := Lib.hid (row_set2 (u := .slice a5 m.length c5) ho5); have x5 : W5.cell? ⟨w.heap.size + 1 + 1, 0, none⟩ = some (.slice a2 ds.length c2) := HV5.out.2.2.1.1; have f5 : W5.frozen? ⟨w.heap.size + 1 + 1, 0, none⟩ = false := HV5.out.2.2.1.2; have y2 : (W5.setCell ⟨w.heap.size + 1 + 1, 0, none⟩ (.slice a5 m.length c5)).cell? ⟨w.heap.size + 1 + 1, 0, none⟩ = some (.slice a5 m.length c5) := HS.out.2.2.1.1; clear ho5 hg5 hrow5 hn5 hc5 x2) | ((try refine ⟨trivial, ?_⟩); gi_at_call 9; refine (CallsIn.inRound k (callsIn_wide.2 (validV_any m a5 c5 _ HR5.out (by have := HE.out; have := HDl.out; rw [HE.out]; simp; omega)))).mono ?_; rintro e W7 ⟨rfl, hl7⟩; have HV7 := Lib.hid (HS.out.below hl7.bel); have HO7 := Lib.hid (HO5.out.below hl7.bel); have HK7 := Lib.hid (keeps_below w6.heap.size hl7.bel); rw [HVm.out]; clear hl7 y2 x5 f5))
          exact ⟨(HK5.out.trans ((KeepsOthers.setCell _ _ _).from _)).trans HK7.out, _, _, HV7.out, HO7.out, HRm.out, HVm.out⟩
    case done =>
      rintro D r W hD ⟨v, ds, hVa, hO, hra, hva⟩ hK
      have hR := HGd.out ds hra hva
      simp only [if_true] at hR
      subst hR
      have x2 : W.cell? ⟨w.heap.size + 1 + 1, 0, none⟩ = some v := hVa.2.2.1.1
      have y0 : W.cell? ⟨w.heap.size, 0, none⟩ = some (.slice none 0 0) := hVa.1.1
      have z0 : W.frozen? ⟨w.heap.size, 0, none⟩ = false := hVa.1.2
      have hT := hVa.set0 v
      have y1 : (W.setCell ⟨w.heap.size, 0, none⟩ v).cell? ⟨w.heap.size + 1, 0, none⟩ = some (.int .i64 0) := hT.2.1.1
      have z1 : (W.setCell ⟨w.heap.size, 0, none⟩ v).frozen? ⟨w.heap.size + 1, 0, none⟩ = false := hT.2.1.2
      have hU := hT.set1 (.int .i64 0)
      have hK2 := ((KeepsOthers.setCell W ⟨w.heap.size, 0, none⟩ v).trans (KeepsOthers.setCell _ ⟨w.heap.size + 1, 0, none⟩ (.int .i64 0))).same D _ hK rfl
      have hO2 : OD ((W.setCell ⟨w.heap.size, 0, none⟩ v).setCell ⟨w.heap.size + 1, 0, none⟩ (.int .i64 0)) (w.heap.size + 6) E v ds :=
        (hO.keep (gb_setCell W w.heap.size 0 v) (.inr fun e => by have := (hO.lt _ e).1; omega)).keep (gb_setCell _ (w.heap.size + 1) 0 _) (.inr fun e => by have := (hO.lt _ e).1; omega)
      obtain ⟨HR3, HU3, HO3⟩ := leave_par hU hO2 hK2 (by omega)
      have HU := Lib.hid HU3
      have HO := Lib.hid HO3
      have HR3 := Lib.hid HR3
      have HK2 := Lib.hid hK2
      obtain ⟨a2, c2, rfl, -⟩ := hO.row
      clear hT hU hO hO2 hVa hra hva hK hb hb2 HPs HSi HSp HBn HGd HV hV HLd HLn hK2
      gi_wp2
      refine ⟨by simp, .inl ⟨_, _, rfl, run_takeDeferred HK2.out, ?_⟩⟩
      exact ⟨_, HR3.out _ (by rfl) (by rfl), _, rfl, OD.mono HO.out (fun k hk => Nat.le_trans (by omega) (HO.out.lt k hk).1), HU.out.2.2.2.2.2.2.1⟩
    case stop =>
      rintro D pre W hD hpre ⟨v, r, hVa, hbad⟩ hK
      have hR := HBn.out pre hpre hbad
      simp only [Bool.false_eq_true, if_false] at hR
      subst hR
      obtain ⟨HR3, HU3, HO3⟩ := leave_par hVa (OD.nil W (w.heap.size + 6) E) hK (by omega)
      have HU := Lib.hid HU3
      have HO := Lib.hid HO3
      have HR3 := Lib.hid HR3
      have HK2 := Lib.hid hK
      clear hVa hK hb hb2 HPs HSi HSp HBn HGd HV hV HLd HLn
      gi_wp2
      refine ⟨by simp, .inl ⟨_, _, rfl, run_takeDeferred HK2.out, ?_⟩⟩
      exact ⟨_, HR3.out _ (by rfl) (by rfl), _, rfl, OD.nil _ _ _, HU.out.2.2.2.2.2.2.1⟩
end Go.Proofs.YtfemfmppjabdjaaDoor.E
