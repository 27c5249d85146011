/-
  Lacking of the program: a range over a map.
-/
import Derived.Test.YtodjccfaipkpfaaGreatDoorQPlc
import Derived.Test.YtodjccfaipkpfaaGreatDoorQOwn
import Derived.Test.YtodjccfaipkpfaaGreatDoorMQMap
import Derived.Test.YtodjccfaipkpfaaGreatDoorMDSet
import Derived.Maps.RangeWalk
namespace Go.Proofs.YtodjccfaipkpfaaGreatDoor.Qs
set_option linter.unusedVariables false
open Go.RowKit V Go.Sort D Nd

/-- Which dots are parents. -/
def parF (l : List Nt) (d : Dt) : Option Bool := if d ∈ l.map (fun n => n.2.1) then some true else none
theorem par_nil : parF [] = fun _ => none := by funext d; simp [parF]
theorem par_step {l : List Nt} {k : Nat} (hk : k < l.length) : putF (parF (l.take k)) l[k].2.1 true = parF (l.take (k + 1)) := by
  have e : l.take (k + 1) = l.take k ++ [l[k]] := by rw [List.take_add_one, List.getElem?_eq_getElem hk]; rfl
  funext d
  unfold putF parF
  rw [e, List.map_append]
  by_cases h : d = l[k].2.1
  · rw [if_pos h, if_pos (List.mem_append_right _ (by simp [h]))]
  · rw [if_neg h]
    by_cases h2 : d ∈ (l.take k).map (fun n => n.2.1)
    · rw [if_pos h2, if_pos (List.mem_append_left _ h2)]
    · rw [if_neg h2, if_neg (fun h3 => (List.mem_append.1 h3).elim h2 (by simpa using h))]
theorem par_some {l : List Nt} {d : Dt} : parF l d ≠ none ↔ ∃ n ∈ l, n.2.1 = d := by
  unfold parF
  by_cases h : d ∈ l.map (fun n => n.2.1)
  · rw [if_pos h]
    simpa using List.mem_map.1 h
  · rw [if_neg h]
    simp only [ne_eq, not_true_eq_false, false_iff]
    exact fun ⟨n, hn, e⟩ => h (List.mem_map.2 ⟨n, hn, e⟩)
theorem nodup_len : ∀ (m s : List Dt), m.Nodup → (∀ x ∈ m, x ∈ s) → m.length ≤ s.length
  | [], s, _, _ => Nat.zero_le _
  | a :: m, s, h, hs => by
    rw [List.nodup_cons] at h
    have h1 := nodup_len m (s.erase a) h.2 (fun x hx => by
      have : x ≠ a := fun e => h.1 (e ▸ hx)
      exact (List.mem_erase_of_ne this).2 (hs x (by simp [hx])))
    have h2 := List.length_erase_of_mem (hs a (by simp))
    have h3 := List.length_pos_of_mem (hs a (by simp))
    rw [List.length_cons]
    omega
def lackD (l : List Nt) (d : Dt) : Bool := (atS l d).isNone && !rootR d
/-- What has been collected: those that are no longer to come. -/
structure Lc (l : List Nt) (todo : Dt → Bool) (m : List Dt) : Prop where
  nd : m.Nodup
  fit : ∀ d ∈ m, fitD d
  mem : ∀ d, fitD d → (d ∈ m ↔ parF l d ≠ none ∧ todo d = false ∧ lackD l d = true)
theorem lc_start (l : List Nt) : Lc l (fun d => (parF l d).isSome) [] := ⟨List.nodup_nil, (fun d h => by cases h), fun d hd => by
  constructor
  · intro h; cases h
  · rintro ⟨h1, h2, -⟩
    rcases h : parF l d with _ | x
    · exact absurd h h1
    · rw [h] at h2; cases h2⟩
theorem lc_skip {l : List Nt} {todo : Dt → Bool} {m : List Dt} {d : Dt} (h : Lc l todo m) (hd : fitD d) (hl : lackD l d = false) : Lc l (fun d' => todo d' && !decide (d' = d)) m := ⟨h.nd, h.fit, fun d' hd' => by
  rw [h.mem d' hd']
  by_cases e : d' = d
  · subst e; simp [hl]
  · simp [e]⟩
theorem lc_take {l : List Nt} {todo : Dt → Bool} {m : List Dt} {d : Dt} (h : Lc l todo m) (hd : fitD d) (ht : todo d = true) {x : Bool} (hf : parF l d = some x) (hl : lackD l d = true) : Lc l (fun d' => todo d' && !decide (d' = d)) (m ++ [d]) := by
  have hn : d ∉ m := fun k => by
    have := ((h.mem d hd).1 k).2.1
    rw [ht] at this
    cases this
  refine ⟨?_, ?_, fun d' hd' => ?_⟩
  · rw [List.nodup_append]
    exact ⟨h.nd, by simp, fun a ha b hb e => by simp at hb; subst hb; subst e; exact hn ha⟩
  · intro d' hd'
    rcases List.mem_append.1 hd' with k | k
    · exact h.fit d' k
    · simp at k; subst k; exact hd
  · rw [List.mem_append, h.mem d' hd']
    by_cases e : d' = d
    · subst e; simp [hl, hf]
    · simp [e]
theorem lc_len {l : List Nt} {todo : Dt → Bool} {m : List Dt} (h : Lc l todo m) : m.length ≤ l.length := by
  have := nodup_len m (l.map fun n => n.2.1) h.nd (fun d hd => by
    obtain ⟨n, hn, e⟩ := par_some.1 ((h.mem d (h.fit d hd)).1 hd).1
    exact List.mem_map.2 ⟨n, hn, e⟩)
  simpa using this
theorem lc_end {l : List Nt} {todo : Dt → Bool} {m : List Dt} (hf : ∀ x ∈ l, fitN x) (h : Lc l todo m) (ht : ∀ d, fitD d → todo d = false) : setR m = lackS l := lack_eq (srt_set m) fun d => by
  rw [mem_set]
  constructor
  · intro hd
    have hfd := h.fit d hd
    obtain ⟨h1, -, h3⟩ := (h.mem d hfd).1 hd
    unfold lackD at h3
    simp only [Bool.and_eq_true, Option.isNone_iff_eq_none, Bool.not_eq_true'] at h3
    exact ⟨h3.2, h3.1, par_some.1 h1⟩
  · rintro ⟨h1, h2, n, hn, rfl⟩
    have hfd := (hf n hn).2
    refine (h.mem _ hfd).2 ⟨par_some.2 ⟨n, hn, rfl⟩, ht _ hfd, ?_⟩
    unfold lackD
    rw [h1, h2]
    rfl
def lackP (l : List Nt) : List Dt × Int := if validS l = true then (lackS l, 0) else ([], 2)
theorem uBool : Tryz.prog.underlying 48 = some (.map 33 4) := Tryz.underlying48
theorem setv_nil (w : World) (base : Nat) : SetV w base (.slice none 0 0) [] := ⟨none, 0, rfl, fun _ => rfl, .inl rfl⟩

/-- What is owed at the next entry. -/
structure NextG {α : Type} (L : Elem α) (w : World) (ops : Array Oper) (rest : List Oper) (o : Oper) (a : Act) (Q : Exit → Act → World → Prop) (b r n cnt : Nat) (f : Dt → Option α) (todo : Dt → Bool) : Prop where
  done : (∀ d, fitD d → todo d = false) → wpList Tryz.prog ops Q rest (a.put o.dst (.tuple #[.bool false])) w
  more : ∀ (d : Dt) (x : α) (w' : World) (cnt' : Nat), fitD d → todo d = true → f d = some x → Dr L w' b r n f (fun d' => todo d' && !decide (d' = d)) cnt' → cnt' < cnt → w.grownBy w' (some r) → w'.heap.size = w.heap.size →
      (Instr.entry (.pointer (some ⟨r, 0, none⟩))).run Tryz.prog w' = .ok (.tuple #[dv d, L.e x]) w' → wpList Tryz.prog ops Q rest (a.put o.dst (.tuple #[.bool true, dv d, L.e x])) w'
theorem wpList_nextH {α : Type} (L : Elem α) {w : World} {ops : Array Oper} {rest : List Oper} {o : Oper} {a : Act} {Q : Exit → Act → World → Prop} (hg : o.guard = none) (it : Operand) (hop : o.op = Op.next it false) (b r n cnt : Nat) (f : Dt → Option α) (todo : Dt → Bool)
    (hit : a.eval it = .pointer (some ⟨r, 0, none⟩)) (h : Dr L w b r n f todo cnt)
    (hH : NextG L w ops rest o a Q b r n cnt f todo) :
    wpList Tryz.prog ops Q (o :: rest) a w := wpList_nextD L hg it hop b r n cnt f todo hit h hH.done hH.more
set_option maxRecDepth 100000 in
set_option maxHeartbeats 4000000 in
theorem lack_prog (l : List Nt) (a : Option Addr) (c : Nat) (w : World) (hf : ∀ x ∈ l, fitN x) (hx : RowN w a l) (hlx : l.length ≤ 300000) :
    Calls Tryz.prog 6 #[.slice a l.length c] w fun e w' => ∃ v, e = .returned (.tuple #[v, .int .i64 (lackP l).2]) ∧ SetV w' w.heap.size v (lackP l).1 ∧ Below w.heap.size w w' := by
  have HE : Hid ((validS l = true → lackP l = (lackS l, 0)) ∧ (validS l = false → lackP l = ([], 2))) := ⟨fun h => if_pos h, fun h => if_neg (by rw [h]; simp)⟩
  have HV := Lib.hid (fun w h => validS_any l a c w h (by omega))
  have HS : Hid (validS l = true → DN l) := fun h => dn_srt (validS_iff.1 h).2
  have HP := Lib.hid (fun w hs h => places_any l a c w hs hf h (by omega))
  have HX := Lib.hid hx
  have HF := Lib.hid hf
  have HLn := Lib.hid hlx
  have hli : (l.length : Int) ≤ 300000 := by omega
  have hmm := @run_makeMap Tryz.prog
  clear hx hlx hf
  generalize lackP l = R at *
  generalize validS l = va at *
  go_enter Tryz.func6, Tryz.ntmps6
  go_wp2_with fail
  refine (HV.out _ HX.out).mono ?_
  rintro e w2 ⟨rfl, hb⟩
  have HB := Lib.hid hb
  clear hb HV
  rcases va with _ | _
  · have HE2 := Lib.hid (HE.out.2 (by first | trivial | rfl))
    go_wp2_with fail
    go_ret2
    rw [HE2.out]
    exact ⟨_, rfl, setv_nil _ _, HB.out⟩
  · have HE2 := Lib.hid (HE.out.1 (by first | trivial | rfl))
    have HN := Lib.hid (HS.out (by first | trivial | rfl))
    have HM0 : Hid (Dm elBool (w2.alloc (.map #[] 0)) w2.heap.size 0 (parF (l.take 0))) := by
      rw [List.take_zero, par_nil]
      exact Dm.made w2
    have HB0 : Hid (Below w.heap.size w (w2.alloc (.map #[] 0))) := bel_tr HB (bel_box w2 _)
    have HB2 := Lib.hid HB.out.size
    go_wp2_with fail
    go_loopw [6, 18] (fun _ i wr => ∃ k : Nat, k ≤ l.length ∧ i = .int .i64 (k : Int) ∧ Hid (Below w.heap.size w wr) ∧ Hid (Dm elBool wr w2.heap.size k (parF (l.take k)))) (fun _ i _ => l.length - (intOf i).toNat)
    case atStart => exact ⟨0, Nat.zero_le _, rfl, HB0, HM0⟩
    case round =>
      obtain ⟨k, hk, rfl, hh, HM⟩ := hrel
      by_cases hlt : k < l.length
      · have hi0 : (k : Int) < (l.length : Int) := by omega
        obtain ⟨b1, o1, rfl, hna⟩ := na_of (HX.out.keep hh.out) k hlt
        have HIs := Lib.hid (par_step hlt)
        have HFq := Lib.hid (HF.out l[k] (List.getElem_mem hlt)).2
        obtain ⟨q, hq⟩ : ∃ q, q = l[k] := ⟨_, rfl⟩
        rw [← hq] at hna HIs HFq
        clear hq
        have HB1 := bel_tr hh (bel_box wr (.cells (nc q) 35))
        have HM1 := Lib.hid (HM.out.keep (bel_box wr (.cells (nc q) 35)))
        have HNm := Lib.hid (show k < maxLen by unfold maxLen; have := HLn.out; omega)
        obtain ⟨h0, h1, h2, h3, h4, h5⟩ := hna
        obtain ⟨⟨q1, q2⟩, ⟨q3, q4⟩, q5, q6⟩ := q
        go_wp2_with (at_mapUpdate; refine wpList_putD elBool rfl _ _ _ _ rfl 4 uBool w2.heap.size k _ rfl HM1.out HNm.out (q3, q4) true rfl rfl HFq.out ?_; intro w3 hm hg)
        have HM3 : Hid (Dm elBool w3 w2.heap.size (k + 1) (parF (l.take (k + 1)))) := HIs.out ▸ hm
        have HB3 := Lib.hid (below_gb HB1.out hg HB1.out.size HB2.out)
        clear hm hg h0 h1 h2 h3 h4 h5
        go_roundw
        case rel => exact ⟨k + 1, by omega, by go_num, HB3, HM3⟩
        case measure => simp [intOf]; omega
      · obtain rfl : k = l.length := by omega
        have hend : ¬ (l.length : Int) < (l.length : Int) := by omega
        rw [List.take_length] at HM
        go_wp2_with fail
        refine (HP.out _ HN.out (HX.out.keep hh.out)).mono ?_
        rintro e w4 ⟨b, rfl, -, hm, hb⟩
        have HI := Lib.hid hm
        replace HM := Lib.hid (HM.out.keep hb)
        have HB4 := bel_tr hh hb
        clear hb hm HP
        go_wp2_with (at_range; refine wpList_rangeD elBool rfl _ _ rfl 4 uBool w2.heap.size l.length _ rfl HM.out ?_; intro w5 cnt hr hb5)
        have HI5 := Lib.hid (HI.out.keep hb5)
        have HB5 := bel_tr HB4 hb5
        have HR5 := Lib.hid hr
        have HZ := Lib.hid hr.lt
        have HIl := Lib.hid HI.out.lt
        have HMl := Lib.hid HM.out.lt
        have HBs := Lib.hid HB4.out.size
        have HLc := Lib.hid (lc_start l)
        clear hr hb5 HM HI
        go_frame
        go_loopw [8, 9, 10, 11] (fun v _ _ _ wr => ∃ vv todo cnt m, vv = v ∧ Hid (Dr elBool wr w2.heap.size w4.heap.size l.length (parF l) todo cnt) ∧ Hid (OD wr w5.heap.size D.E vv m) ∧ Hid (Lc l todo m) ∧ Hid (Below w.heap.size w wr) ∧ Hid (Dm elInt wr b 1000000 (idxG l)) ∧ Hid (w5.heap.size ≤ wr.heap.size)) (fun _ _ _ _ wr => wr.rangeLeft w2.heap.size w4.heap.size)
        case atStart => exact ⟨_, _, _, [], rfl, HR5, OD.nil _ _ _, HLc, HB5, HI5, Nat.le_refl _⟩
        case round =>
          obtain ⟨v, todo, cn, m, rfl, HR, HO, HL, HB6, HI6, HS6⟩ := hrel
          go_wp2_with (at_next; refine wpList_nextH elBool rfl _ rfl w2.heap.size w4.heap.size l.length cn (parF l) todo rfl HR.out ?_)
          refine ⟨?_, ?_⟩
          · intro hdone
            have HEq := Lib.hid (lc_end HF.out HL.out hdone)
            have HLe := Lib.hid (lc_len HL.out)
            obtain ⟨A, cv, rfl, hrow, -⟩ := HO.out.row
            have HSe := Lib.hid (set_any m A cv wr hrow (by have := HLe.out; have := HLn.out; omega))
            rw [HEq.out] at HSe
            clear hrow hdone HR HO HL HI6
            go_wp2_with fail
            refine HSe.out.mono ?_
            rintro e w8 ⟨v, rfl, hs, hb⟩
            have HB8 := bel_tr HB6 hb
            have HS8 := Lib.hid (hs.mono (base' := w.heap.size) HB6.out.size)
            clear hs hb
            go_wp2_with fail
            go_ret2
            rw [HE2.out]
            exact ⟨_, rfl, HS8.out, HB8.out⟩
          · intro d x w7 cn7 hd ht hfx hr7 hlt7 hg7 hs7 hen
            have HO7 := Lib.hid (HO.out.keep hg7 (by
              rcases ho : v.ownBlock with _ | y
              · exact .inl rfl
              · right
                have := (HO.out.lt y ho).1
                have := HZ.out
                simp; omega))
            have HB7 := Lib.hid (below_gb HB6.out hg7 HB6.out.size HBs.out)
            have HI7 := Lib.hid (HI6.out.kept hg7 (by have := HIl.out; simp; omega))
            have HS7 : Hid (w5.heap.size ≤ w7.heap.size) := Nat.le_trans HS6.out hg7.size
            have hb8 := bel_box w7 (.cells #[.int .i64 d.1, .int .i64 d.2] 33)
            have HR8 := Lib.hid (hr7.keep hb8)
            have HO8 := Lib.hid (HO7.out.below hb8)
            have HB8 := bel_tr HB7 hb8
            have HI8 := Lib.hid (HI7.out.keep hb8)
            have HS8 := Lib.hid (Nat.le_trans HS7.out hb8.size)
            have HFd := Lib.hid hd
            have HLf : Hid (lackD l d = false → Lc l (fun d' => todo d' && !decide (d' = d)) m) := fun h => lc_skip HL.out hd h
            have HLt : Hid (lackD l d = true → Lc l (fun d' => todo d' && !decide (d' = d)) (m ++ [d])) := fun h => lc_take HL.out hd ht hfx h
            have HCn : Hid (cn7 < wr.rangeLeft w2.heap.size w4.heap.size) := by show _ < _; rw [HR.out.left_eq]; exact hlt7
            have hlk := HI8.out.look_ok uInt (zInt _) hd
            have HX9 : Hid (∀ z, z = idxG l d → (∃ y, z = some y ∧ (atS l d).isNone = false) ∨ (z = none ∧ (atS l d).isNone = true)) := fun z hz => by
              rcases h0 : idxG l d with _ | i
              · exact .inr ⟨hz.trans h0, by rw [idxG_none.1 h0]; rfl⟩
              · obtain ⟨k, hk, -, -, h1⟩ := idxG_some h0
                exact .inl ⟨i, hz.trans h0, by rw [h1]; rfl⟩
            obtain ⟨z, hz⟩ : ∃ z, z = idxG l d := ⟨_, rfl⟩
            rw [← hz] at hlk
            have hcl := HX9.out z hz
            have HLd : Hid (lackD l d = ((atS l d).isNone && !rootR d)) := rfl
            have HRt := Lib.hid (fun w => root_any d w)
            clear hb8 hd ht hfx hlt7 hg7 hs7 hr7 HR HO HL HI6 HO7 HB7 HI7 HX9 hz HS6
            generalize lackD l d = ld at *
            generalize rootR d = rt at *
            generalize (atS l d).isNone = an at *
            obtain ⟨d1, d2⟩ := d
            obtain ⟨y, rfl, rfl⟩ | ⟨rfl, rfl⟩ := hcl
            · have hld : ld = false := HLd.out
              subst hld
              have HL9 := Lib.hid (HLf.out rfl)
              have hlk2 : (Instr.lookup 49 (.map (some b)) (dv (d1, d2)) true).run Tryz.prog (w7.alloc (.cells #[.int .i64 d1, .int .i64 d2] 33)) = .ok (.tuple #[.int .i64 y, .bool true]) (w7.alloc (.cells #[.int .i64 d1, .int .i64 d2] 33)) := hlk
              clear hlk HLf HLt HRt HLd
              go_wp2_with fail
              go_roundw
              case rel => exact ⟨_, _, _, m, rfl, HR8, HO8, HL9, HB8, HI8, HS8⟩
              case measure => rw [HR8.out.left_eq]; exact HCn.out
            · have hlk2 : (Instr.lookup 49 (.map (some b)) (dv (d1, d2)) true).run Tryz.prog (w7.alloc (.cells #[.int .i64 d1, .int .i64 d2] 33)) = .ok (.tuple #[.int .i64 0, .bool false]) (w7.alloc (.cells #[.int .i64 d1, .int .i64 d2] 33)) := hlk
              have hk0 : (w7.alloc (.cells #[.int .i64 d1, .int .i64 d2] 33)).cell? ⟨w7.heap.size, 0, none⟩ = some (.int .i64 d1) := by go_simp
              have hk1 : (w7.alloc (.cells #[.int .i64 d1, .int .i64 d2] 33)).cell? ⟨w7.heap.size, 1, none⟩ = some (.int .i64 d2) := by go_simp
              clear hlk
              go_wp2_with fail
              refine (HRt.out _).mono ?_
              rintro e w9 ⟨rfl, hb⟩
              replace HR8 := Lib.hid (HR8.out.keep hb)
              replace HO8 := Lib.hid (HO8.out.below hb)
              replace HB8 := bel_tr HB8 hb
              replace HI8 := Lib.hid (HI8.out.keep hb)
              replace HS8 := Lib.hid (Nat.le_trans HS8.out hb.size)
              have e0 := (hb.cell (p := ⟨w7.heap.size, 0, none⟩) (lt_of_cell hk0)).trans hk0
              have e1 := (hb.cell (p := ⟨w7.heap.size, 1, none⟩) (lt_of_cell hk1)).trans hk1
              clear hb hlk2 hk0 hk1 HRt
              rcases rt with _ | _
              · have hld : ld = true := HLd.out
                subst hld
                have HL9 := Lib.hid (HLt.out rfl)
                clear HLf HLt HLd
                have hb2 := bel_box w9 (.cells #[.int .i64 d1, .int .i64 d2] 33)
                have HR9 := Lib.hid (HR8.out.keep hb2)
                have HO9 := Lib.hid (HO8.out.below hb2)
                have HB9 := bel_tr HB8 hb2
                have HI9 := Lib.hid (HI8.out.keep hb2)
                have HS9 := Lib.hid (Nat.le_trans HS8.out hb2.size)
                have HLm := Lib.hid (lc_len HL9.out)
                have HLi : Hid (RowD (w9.alloc (.cells #[.int .i64 d1, .int .i64 d2] 33)) (some ⟨w9.heap.size, 0, none⟩) [(d1, d2)]) := lit_one w9 (d1, d2) _
                clear hb2
                go_wp2_with (at_builtin; refine wpList_appD rfl _ _ _ rfl Tryz.underlying25 infoD _ _ rfl HO9.out (some ⟨w9.heap.size, 0, none⟩) [(d1, d2)] 1 rfl HLi.out (fun h => by cases h) (by have h1 := HLm.out; have h2 := HLn.out; simp only [List.length_append, List.length_cons, List.length_nil] at h1 ⊢; omega) HS9.out ?_)
                intro v10 w10 ho hg _
                have HOl := Lib.hid HO9.out.lt
                have HO10 : Hid (OD w10 w5.heap.size D.E v10 (m ++ [(d1, d2)])) := ho
                have HB10 := Lib.hid (HB9.out.grown hg HB9.out.size (fun x hx => by have := (HOl.out x hx).1; have := HZ.out; have := HBs.out; omega))
                have HR10 := Lib.hid (HR9.out.kept hg (fun e => by have := (HOl.out _ e.symm).1; have := HZ.out; have := HMl.out; omega) (fun e => by have := (HOl.out _ e.symm).1; have := HZ.out; omega))
                have HI10 := Lib.hid (HI9.out.kept hg (fun e => by have := (HOl.out _ e.symm).1; have := HZ.out; have := HIl.out; omega))
                have HS10 := Lib.hid (Nat.le_trans HS9.out hg.size)
                clear ho hg e0 e1
                go_wp2_with fail
                go_roundw
                case rel => exact ⟨_, _, _, _, rfl, HR10, HO10, HL9, HB10, HI10, HS10⟩
                case measure => rw [HR10.out.left_eq]; exact HCn.out
              · have hld : ld = false := HLd.out
                subst hld
                have HL9 := Lib.hid (HLf.out rfl)
                clear HLf HLt HLd
                go_wp2_with fail
                go_roundw
                case rel => exact ⟨_, _, _, m, rfl, HR8, HO8, HL9, HB8, HI8, HS8⟩
                case measure => rw [HR8.out.left_eq]; exact HCn.out
end Go.Proofs.YtodjccfaipkpfaaGreatDoor.Qs
