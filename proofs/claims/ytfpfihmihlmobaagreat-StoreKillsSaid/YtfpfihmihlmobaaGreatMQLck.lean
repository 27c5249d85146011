/-
  Lacking of the program: a range over a map.
-/
import Derived.Test.YtfpfihmihlmobaaGreatMQKil
import Derived.Test.YtfpfihmihlmobaaGreatQRg
import Derived.Test.YtfpfihmihlmobaaGreatMDSet
import Derived.Maps.RangeWalk
import Derived.Test.YtfpfihmihlmobaaGreatMQAsk
import Derived.Test.YtfpfihmihlmobaaGreatMQAdd
import Derived.Test.YtfpfihmihlmobaaGreatMFMis
import Derived.Test.YtfpfihmihlmobaaGreatMSched

section
namespace Go.Proofs.YtfpfihmihlmobaaGreat.Qs
set_option linter.unusedVariables false
open Go.RowKit V Go.Sort D Nd

/-- Which dots are parents. -/
def parF (l : List Nt) (d : Dt) : Option Bool := if d ∈ l.map (fun n => n.2.1) then some true else none
theorem par_nil : parF [] = fun _ => none := by funext d; simp [parF]
theorem par_step {l : List Nt} {k : Nat} (hk : k < l.length) : putF (parF (l.take k)) l[k].2.1 true = parF (l.take (k + 1)) := by
  have e : l.take (k + 1) = l.take k ++ [l[k]] := by rw [List.take_add_one, List.getElem?_eq_getElem hk]; rfl
  funext d
  unfold putF parF
  rw [e, List.map_append]
  by_cases h : d = l[k].2.1
  · rw [if_pos h, if_pos (List.mem_append_right _ (by simp [h]))]
  · rw [if_neg h]
    by_cases h2 : d ∈ (l.take k).map (fun n => n.2.1)
    · rw [if_pos h2, if_pos (List.mem_append_left _ h2)]
    · rw [if_neg h2, if_neg (fun h3 => (List.mem_append.1 h3).elim h2 (by simpa using h))]
theorem par_some {l : List Nt} {d : Dt} : parF l d ≠ none ↔ ∃ n ∈ l, n.2.1 = d := by
  unfold parF
  by_cases h : d ∈ l.map (fun n => n.2.1)
  · rw [if_pos h]
    simpa using List.mem_map.1 h
  · rw [if_neg h]
    simp only [ne_eq, not_true_eq_false, false_iff]
    exact fun ⟨n, hn, e⟩ => h (List.mem_map.2 ⟨n, hn, e⟩)
theorem nodup_len : ∀ (m s : List Dt), m.Nodup → (∀ x ∈ m, x ∈ s) → m.length ≤ s.length
  | [], s, _, _ => Nat.zero_le _
  | a :: m, s, h, hs => by
    rw [List.nodup_cons] at h
    have h1 := nodup_len m (s.erase a) h.2 (fun x hx => by
      have : x ≠ a := fun e => h.1 (e ▸ hx)
      exact (List.mem_erase_of_ne this).2 (hs x (by simp [hx])))
    have h2 := List.length_erase_of_mem (hs a (by simp))
    have h3 := List.length_pos_of_mem (hs a (by simp))
    rw [List.length_cons]
    omega
def lackD (l : List Nt) (d : Dt) : Bool := (atS l d).isNone && !rootR d
/-- What has been collected: those that are no longer to come. -/
structure Lc (l : List Nt) (todo : Dt → Bool) (m : List Dt) : Prop where
  nd : m.Nodup
  fit : ∀ d ∈ m, fitD d
  mem : ∀ d, fitD d → (d ∈ m ↔ parF l d ≠ none ∧ todo d = false ∧ lackD l d = true)
theorem lc_start (l : List Nt) : Lc l (fun d => (parF l d).isSome) [] := ⟨List.nodup_nil, (fun d h => by cases h), fun d hd => by
  constructor
  · intro h; cases h
  · rintro ⟨h1, h2, -⟩
    rcases h : parF l d with _ | x
    · exact absurd h h1
    · rw [h] at h2; cases h2⟩
theorem lc_skip {l : List Nt} {todo : Dt → Bool} {m : List Dt} {d : Dt} (h : Lc l todo m) (hd : fitD d) (hl : lackD l d = false) : Lc l (fun d' => todo d' && !decide (d' = d)) m := ⟨h.nd, h.fit, fun d' hd' => by
  rw [h.mem d' hd']
  by_cases e : d' = d
  · subst e; simp [hl]
  · simp [e]⟩
theorem lc_take {l : List Nt} {todo : Dt → Bool} {m : List Dt} {d : Dt} (h : Lc l todo m) (hd : fitD d) (ht : todo d = true) {x : Bool} (hf : parF l d = some x) (hl : lackD l d = true) : Lc l (fun d' => todo d' && !decide (d' = d)) (m ++ [d]) := by
  have hn : d ∉ m := fun k => by
    have := ((h.mem d hd).1 k).2.1
    rw [ht] at this
    cases this
  refine ⟨?_, ?_, fun d' hd' => ?_⟩
  · rw [List.nodup_append]
    exact ⟨h.nd, by simp, fun a ha b hb e => by simp at hb; subst hb; subst e; exact hn ha⟩
  · intro d' hd'
    rcases List.mem_append.1 hd' with k | k
    · exact h.fit d' k
    · simp at k; subst k; exact hd
  · rw [List.mem_append, h.mem d' hd']
    by_cases e : d' = d
    · subst e; simp [hl, hf]
    · simp [e]
theorem lc_len {l : List Nt} {todo : Dt → Bool} {m : List Dt} (h : Lc l todo m) : m.length ≤ l.length := by
  have := nodup_len m (l.map fun n => n.2.1) h.nd (fun d hd => by
    obtain ⟨n, hn, e⟩ := par_some.1 ((h.mem d (h.fit d hd)).1 hd).1
    exact List.mem_map.2 ⟨n, hn, e⟩)
  simpa using this
theorem lc_end {l : List Nt} {todo : Dt → Bool} {m : List Dt} (hf : ∀ x ∈ l, fitN x) (h : Lc l todo m) (ht : ∀ d, fitD d → todo d = false) : setR m = lackS l := lack_eq (srt_set m) fun d => by
  rw [mem_set]
  constructor
  · intro hd
    have hfd := h.fit d hd
    obtain ⟨h1, -, h3⟩ := (h.mem d hfd).1 hd
    unfold lackD at h3
    simp only [Bool.and_eq_true, Option.isNone_iff_eq_none, Bool.not_eq_true'] at h3
    exact ⟨h3.2, h3.1, par_some.1 h1⟩
  · rintro ⟨h1, h2, n, hn, rfl⟩
    have hfd := (hf n hn).2
    refine (h.mem _ hfd).2 ⟨par_some.2 ⟨n, hn, rfl⟩, ht _ hfd, ?_⟩
    unfold lackD
    rw [h1, h2]
    rfl
def lackP (l : List Nt) : List Dt × Int := if validS l = true then (lackS l, 0) else ([], 2)
theorem uBool : Tryz.prog.underlying 110 = some (.map 33 4) := Tryz.underlying110
theorem setv_nil (w : World) (base : Nat) : SetV w base (.slice none 0 0) [] := ⟨none, 0, rfl, fun _ => rfl, .inl rfl⟩

/-- What is owed at the next entry. -/
structure NextG {α : Type} (L : Elem α) (w : World) (ops : Array Oper) (rest : List Oper) (o : Oper) (a : Act) (Q : Exit → Act → World → Prop) (b r n cnt : Nat) (f : Dt → Option α) (todo : Dt → Bool) : Prop where
  done : (∀ d, fitD d → todo d = false) → wpList Tryz.prog ops Q rest (a.put o.dst (.tuple #[.bool false])) w
  more : ∀ (d : Dt) (x : α) (w' : World) (cnt' : Nat), fitD d → todo d = true → f d = some x → Dr L w' b r n f (fun d' => todo d' && !decide (d' = d)) cnt' → cnt' < cnt → w.grownBy w' (some r) → w'.heap.size = w.heap.size →
      (Instr.entry (.pointer (some ⟨r, 0, none⟩))).run Tryz.prog w' = .ok (.tuple #[dv d, L.e x]) w' → wpList Tryz.prog ops Q rest (a.put o.dst (.tuple #[.bool true, dv d, L.e x])) w'
theorem wpList_nextH {α : Type} (L : Elem α) {w : World} {ops : Array Oper} {rest : List Oper} {o : Oper} {a : Act} {Q : Exit → Act → World → Prop} (hg : o.guard = none) (it : Operand) (hop : o.op = Op.next it false) (b r n cnt : Nat) (f : Dt → Option α) (todo : Dt → Bool)
    (hit : a.eval it = .pointer (some ⟨r, 0, none⟩)) (h : Dr L w b r n f todo cnt)
    (hH : NextG L w ops rest o a Q b r n cnt f todo) :
    wpList Tryz.prog ops Q (o :: rest) a w := wpList_nextD L hg it hop b r n cnt f todo hit h hH.done hH.more
set_option maxRecDepth 100000 in
set_option maxHeartbeats 4000000 in
theorem lack_prog (l : List Nt) (a : Option Addr) (c : Nat) (w : World) (hf : ∀ x ∈ l, fitN x) (hx : RowN w a l) (hlx : l.length ≤ 300000) :
    Calls Tryz.prog 61 #[.slice a l.length c] w fun e w' => ∃ v, e = .returned (.tuple #[v, .int .i64 (lackP l).2]) ∧ SetV w' w.heap.size v (lackP l).1 ∧ Below w.heap.size w w' := by
  have HE : Hid ((validS l = true → lackP l = (lackS l, 0)) ∧ (validS l = false → lackP l = ([], 2))) := ⟨fun h => if_pos h, fun h => if_neg (by rw [h]; simp)⟩
  have HV := Lib.hid (fun w h => validS_any l a c w h (by omega))
  have HS : Hid (validS l = true → DN l) := fun h => dn_srt (validS_iff.1 h).2
  have HP := Lib.hid (fun w hs h => places_any l a c w hs hf h (by omega))
  have HX := Lib.hid hx
  have HF := Lib.hid hf
  have HLn := Lib.hid hlx
  have hli : (l.length : Int) ≤ 300000 := by omega
  have hmm := @run_makeMap Tryz.prog
  clear hx hlx hf
  generalize lackP l = R at *
  generalize validS l = va at *
  go_enter Tryz.func61, Tryz.ntmps61
  go_wp2_with fail
  refine (HV.out _ HX.out).mono ?_
  rintro e w2 ⟨rfl, hb⟩
  have HB := Lib.hid hb
  clear hb HV
  rcases va with _ | _
  · have HE2 := Lib.hid (HE.out.2 (by first | trivial | rfl))
    go_wp2_with fail
    go_ret2
    rw [HE2.out]
    exact ⟨_, rfl, setv_nil _ _, HB.out⟩
  · have HE2 := Lib.hid (HE.out.1 (by first | trivial | rfl))
    have HN := Lib.hid (HS.out (by first | trivial | rfl))
    have HM0 : Hid (Dm elBool (w2.alloc (.map #[] 0)) w2.heap.size 0 (parF (l.take 0))) := by
      rw [List.take_zero, par_nil]
      exact Dm.made w2
    have HB0 : Hid (Below w.heap.size w (w2.alloc (.map #[] 0))) := bel_tr HB (bel_box w2 _)
    have HB2 := Lib.hid HB.out.size
    go_wp2_with fail
    go_loopw [6, 18] (fun _ i wr => ∃ k : Nat, k ≤ l.length ∧ i = .int .i64 (k : Int) ∧ Hid (Below w.heap.size w wr) ∧ Hid (Dm elBool wr w2.heap.size k (parF (l.take k)))) (fun _ i _ => l.length - (intOf i).toNat)
    case atStart => exact ⟨0, Nat.zero_le _, rfl, HB0, HM0⟩
    case round =>
      obtain ⟨k, hk, rfl, hh, HM⟩ := hrel
      by_cases hlt : k < l.length
      · have hi0 : (k : Int) < (l.length : Int) := by omega
        obtain ⟨b1, o1, rfl, hna⟩ := na_of (HX.out.keep hh.out) k hlt
        have HIs := Lib.hid (par_step hlt)
        have HFq := Lib.hid (HF.out l[k] (List.getElem_mem hlt)).2
        obtain ⟨q, hq⟩ : ∃ q, q = l[k] := ⟨_, rfl⟩
        rw [← hq] at hna HIs HFq
        clear hq
        have HB1 := bel_tr hh (bel_box wr (.cells (nc q) 35))
        have HM1 := Lib.hid (HM.out.keep (bel_box wr (.cells (nc q) 35)))
        have HNm := Lib.hid (show k < maxLen by unfold maxLen; have := HLn.out; omega)
        obtain ⟨h0, h1, h2, h3, h4, h5⟩ := hna
        obtain ⟨⟨q1, q2⟩, ⟨q3, q4⟩, q5, q6⟩ := q
        go_wp2_with (at_mapUpdate; refine wpList_putD elBool rfl _ _ _ _ rfl 4 uBool w2.heap.size k _ rfl HM1.out HNm.out (q3, q4) true rfl rfl HFq.out ?_; intro w3 hm hg)
        have HM3 : Hid (Dm elBool w3 w2.heap.size (k + 1) (parF (l.take (k + 1)))) := HIs.out ▸ hm
        have HB3 := Lib.hid (below_gb HB1.out hg HB1.out.size HB2.out)
        clear hm hg h0 h1 h2 h3 h4 h5
        go_roundw
        case rel => exact ⟨k + 1, by omega, by go_num, HB3, HM3⟩
        case measure => simp [intOf]; omega
      · obtain rfl : k = l.length := by omega
        have hend : ¬ (l.length : Int) < (l.length : Int) := by omega
        rw [List.take_length] at HM
        go_wp2_with fail
        refine (HP.out _ HN.out (HX.out.keep hh.out)).mono ?_
        rintro e w4 ⟨b, rfl, -, hm, hb⟩
        have HI := Lib.hid hm
        replace HM := Lib.hid (HM.out.keep hb)
        have HB4 := bel_tr hh hb
        clear hb hm HP
        go_wp2_with (at_range; refine wpList_rangeD elBool rfl _ _ rfl 4 uBool w2.heap.size l.length _ rfl HM.out ?_; intro w5 cnt hr hb5)
        have HI5 := Lib.hid (HI.out.keep hb5)
        have HB5 := bel_tr HB4 hb5
        have HR5 := Lib.hid hr
        have HZ := Lib.hid hr.lt
        have HIl := Lib.hid HI.out.lt
        have HMl := Lib.hid HM.out.lt
        have HBs := Lib.hid HB4.out.size
        have HLc := Lib.hid (lc_start l)
        clear hr hb5 HM HI
        go_frame
        go_loopw [8, 9, 10, 11] (fun v _ _ _ wr => ∃ vv todo cnt m, vv = v ∧ Hid (Dr elBool wr w2.heap.size w4.heap.size l.length (parF l) todo cnt) ∧ Hid (OD wr w5.heap.size D.E vv m) ∧ Hid (Lc l todo m) ∧ Hid (Below w.heap.size w wr) ∧ Hid (Dm elInt wr b 1000000 (idxG l)) ∧ Hid (w5.heap.size ≤ wr.heap.size)) (fun _ _ _ _ wr => wr.rangeLeft w2.heap.size w4.heap.size)
        case atStart => exact ⟨_, _, _, [], rfl, HR5, OD.nil _ _ _, HLc, HB5, HI5, Nat.le_refl _⟩
        case round =>
          obtain ⟨v, todo, cn, m, rfl, HR, HO, HL, HB6, HI6, HS6⟩ := hrel
          go_wp2_with (at_next; refine wpList_nextH elBool rfl _ rfl w2.heap.size w4.heap.size l.length cn (parF l) todo rfl HR.out ?_)
          refine ⟨?_, ?_⟩
          · intro hdone
            have HEq := Lib.hid (lc_end HF.out HL.out hdone)
            have HLe := Lib.hid (lc_len HL.out)
            obtain ⟨A, cv, rfl, hrow, -⟩ := HO.out.row
            have HSe := Lib.hid (set_any m A cv wr hrow (by have := HLe.out; have := HLn.out; omega))
            rw [HEq.out] at HSe
            clear hrow hdone HR HO HL HI6
            go_wp2_with fail
            refine HSe.out.mono ?_
            rintro e w8 ⟨v, rfl, hs, hb⟩
            have HB8 := bel_tr HB6 hb
            have HS8 := Lib.hid (hs.mono (base' := w.heap.size) HB6.out.size)
            clear hs hb
            go_wp2_with fail
            go_ret2
            rw [HE2.out]
            exact ⟨_, rfl, HS8.out, HB8.out⟩
          · intro d x w7 cn7 hd ht hfx hr7 hlt7 hg7 hs7 hen
            have HO7 := Lib.hid (HO.out.keep hg7 (by
              rcases ho : v.ownBlock with _ | y
              · exact .inl rfl
              · right
                have := (HO.out.lt y ho).1
                have := HZ.out
                simp; omega))
            have HB7 := Lib.hid (below_gb HB6.out hg7 HB6.out.size HBs.out)
            have HI7 := Lib.hid (HI6.out.kept hg7 (by have := HIl.out; simp; omega))
            have HS7 : Hid (w5.heap.size ≤ w7.heap.size) := Nat.le_trans HS6.out hg7.size
            have hb8 := bel_box w7 (.cells #[.int .i64 d.1, .int .i64 d.2] 33)
            have HR8 := Lib.hid (hr7.keep hb8)
            have HO8 := Lib.hid (HO7.out.below hb8)
            have HB8 := bel_tr HB7 hb8
            have HI8 := Lib.hid (HI7.out.keep hb8)
            have HS8 := Lib.hid (Nat.le_trans HS7.out hb8.size)
            have HFd := Lib.hid hd
            have HLf : Hid (lackD l d = false → Lc l (fun d' => todo d' && !decide (d' = d)) m) := fun h => lc_skip HL.out hd h
            have HLt : Hid (lackD l d = true → Lc l (fun d' => todo d' && !decide (d' = d)) (m ++ [d])) := fun h => lc_take HL.out hd ht hfx h
            have HCn : Hid (cn7 < wr.rangeLeft w2.heap.size w4.heap.size) := by show _ < _; rw [HR.out.left_eq]; exact hlt7
            have hlk := HI8.out.look_ok uInt (zInt _) hd
            have HX9 : Hid (∀ z, z = idxG l d → (∃ y, z = some y ∧ (atS l d).isNone = false) ∨ (z = none ∧ (atS l d).isNone = true)) := fun z hz => by
              rcases h0 : idxG l d with _ | i
              · exact .inr ⟨hz.trans h0, by rw [idxG_none.1 h0]; rfl⟩
              · obtain ⟨k, hk, -, -, h1⟩ := idxG_some h0
                exact .inl ⟨i, hz.trans h0, by rw [h1]; rfl⟩
            obtain ⟨z, hz⟩ : ∃ z, z = idxG l d := ⟨_, rfl⟩
            rw [← hz] at hlk
            have hcl := HX9.out z hz
            have HLd : Hid (lackD l d = ((atS l d).isNone && !rootR d)) := rfl
            have HRt := Lib.hid (fun w => root_any d w)
            clear hb8 hd ht hfx hlt7 hg7 hs7 hr7 HR HO HL HI6 HO7 HB7 HI7 HX9 hz HS6
            generalize lackD l d = ld at *
            generalize rootR d = rt at *
            generalize (atS l d).isNone = an at *
            obtain ⟨d1, d2⟩ := d
            obtain ⟨y, rfl, rfl⟩ | ⟨rfl, rfl⟩ := hcl
            · have hld : ld = false := HLd.out
              subst hld
              have HL9 := Lib.hid (HLf.out rfl)
              have hlk2 : (Instr.lookup 76 (.map (some b)) (dv (d1, d2)) true).run Tryz.prog (w7.alloc (.cells #[.int .i64 d1, .int .i64 d2] 33)) = .ok (.tuple #[.int .i64 y, .bool true]) (w7.alloc (.cells #[.int .i64 d1, .int .i64 d2] 33)) := hlk
              clear hlk HLf HLt HRt HLd
              go_wp2_with fail
              go_roundw
              case rel => exact ⟨_, _, _, m, rfl, HR8, HO8, HL9, HB8, HI8, HS8⟩
              case measure => rw [HR8.out.left_eq]; exact HCn.out
            · have hlk2 : (Instr.lookup 76 (.map (some b)) (dv (d1, d2)) true).run Tryz.prog (w7.alloc (.cells #[.int .i64 d1, .int .i64 d2] 33)) = .ok (.tuple #[.int .i64 0, .bool false]) (w7.alloc (.cells #[.int .i64 d1, .int .i64 d2] 33)) := hlk
              have hk0 : (w7.alloc (.cells #[.int .i64 d1, .int .i64 d2] 33)).cell? ⟨w7.heap.size, 0, none⟩ = some (.int .i64 d1) := by go_simp
              have hk1 : (w7.alloc (.cells #[.int .i64 d1, .int .i64 d2] 33)).cell? ⟨w7.heap.size, 1, none⟩ = some (.int .i64 d2) := by go_simp
              clear hlk
              go_wp2_with fail
              refine (HRt.out _).mono ?_
              rintro e w9 ⟨rfl, hb⟩
              replace HR8 := Lib.hid (HR8.out.keep hb)
              replace HO8 := Lib.hid (HO8.out.below hb)
              replace HB8 := bel_tr HB8 hb
              replace HI8 := Lib.hid (HI8.out.keep hb)
              replace HS8 := Lib.hid (Nat.le_trans HS8.out hb.size)
              have e0 := (hb.cell (p := ⟨w7.heap.size, 0, none⟩) (lt_of_cell hk0)).trans hk0
              have e1 := (hb.cell (p := ⟨w7.heap.size, 1, none⟩) (lt_of_cell hk1)).trans hk1
              clear hb hlk2 hk0 hk1 HRt
              rcases rt with _ | _
              · have hld : ld = true := HLd.out
                subst hld
                have HL9 := Lib.hid (HLt.out rfl)
                clear HLf HLt HLd
                have hb2 := bel_box w9 (.cells #[.int .i64 d1, .int .i64 d2] 33)
                have HR9 := Lib.hid (HR8.out.keep hb2)
                have HO9 := Lib.hid (HO8.out.below hb2)
                have HB9 := bel_tr HB8 hb2
                have HI9 := Lib.hid (HI8.out.keep hb2)
                have HS9 := Lib.hid (Nat.le_trans HS8.out hb2.size)
                have HLm := Lib.hid (lc_len HL9.out)
                have HLi : Hid (RowD (w9.alloc (.cells #[.int .i64 d1, .int .i64 d2] 33)) (some ⟨w9.heap.size, 0, none⟩) [(d1, d2)]) := lit_one w9 (d1, d2) _
                clear hb2
                go_wp2_with (at_builtin; refine wpList_appD rfl _ _ _ rfl Tryz.underlying43 infoD _ _ rfl HO9.out (some ⟨w9.heap.size, 0, none⟩) [(d1, d2)] 1 rfl HLi.out (fun h => by cases h) (by have h1 := HLm.out; have h2 := HLn.out; simp only [List.length_append, List.length_cons, List.length_nil] at h1 ⊢; omega) HS9.out ?_)
                intro v10 w10 ho hg _
                have HOl := Lib.hid HO9.out.lt
                have HO10 : Hid (OD w10 w5.heap.size D.E v10 (m ++ [(d1, d2)])) := ho
                have HB10 := Lib.hid (HB9.out.grown hg HB9.out.size (fun x hx => by have := (HOl.out x hx).1; have := HZ.out; have := HBs.out; omega))
                have HR10 := Lib.hid (HR9.out.kept hg (fun e => by have := (HOl.out _ e.symm).1; have := HZ.out; have := HMl.out; omega) (fun e => by have := (HOl.out _ e.symm).1; have := HZ.out; omega))
                have HI10 := Lib.hid (HI9.out.kept hg (fun e => by have := (HOl.out _ e.symm).1; have := HZ.out; have := HIl.out; omega))
                have HS10 := Lib.hid (Nat.le_trans HS9.out hg.size)
                clear ho hg e0 e1
                go_wp2_with fail
                go_roundw
                case rel => exact ⟨_, _, _, _, rfl, HR10, HO10, HL9, HB10, HI10, HS10⟩
                case measure => rw [HR10.out.left_eq]; exact HCn.out
              · have hld : ld = false := HLd.out
                subst hld
                have HL9 := Lib.hid (HLf.out rfl)
                clear HLf HLt HLd
                go_wp2_with fail
                go_roundw
                case rel => exact ⟨_, _, _, m, rfl, HR8, HO8, HL9, HB8, HI8, HS8⟩
                case measure => rw [HR8.out.left_eq]; exact HCn.out
end Go.Proofs.YtfpfihmihlmobaaGreat.Qs
end

/-
  What the laws call: each returns true.
-/
section
namespace Go.Proofs.YtfpfihmihlmobaaGreat.Qs
set_option linter.unusedVariables false
open Go.RowKit V Go.Sort D Nd

set_option maxRecDepth 100000 in
theorem gives_true (x y : List Nt) (q : Int) (a b : Option Addr) (c d : Nat) (w : World) (h : x = y) (hx : RowN w a x) (hy : RowN w b y) (hlx : x.length ≤ 1000000) :
    Calls Tryz.prog 16 #[.slice a x.length c, .int .i64 q, .slice b y.length d, .int .i64 q] w fun e w' => e = .returned (.bool true) ∧ Below w.heap.size w w' := by
  have HC := Lib.hid (equal_ref x y a b c d w hx hy hlx (h ▸ hlx))
  rw [decide_eq_true h] at HC
  clear hx hy hlx h
  go_enter Tryz.func16, Tryz.ntmps16
  go_wp2_with fail
  refine HC.out.mono ?_
  rintro e w2 ⟨rfl, hb⟩
  have HB := Lib.hid hb
  clear hb HC
  go_wp2_with fail
  go_ret
  exact ⟨rfl, HB.out⟩
theorem at_any (r c : Int) (w : World) : Calls Tryz.prog 42 #[.int .i64 r, .int .i64 c] w fun e w' => e = .returned (dv (r, c)) ∧ Below w.heap.size w w' := by
  go_enter Tryz.func42, Tryz.ntmps42
  go_wp2_with fail
  (try simp only [Exit.inBlock, Exit.then])
  refine bodyPost_ret (v := .agg #[.int .i64 r, .int .i64 c]) (by rw [results_cell1 (fn := Tryz.f42) (p := 4) (ty := 33) rfl]; go_simp) rfl ?_
  exact ⟨rfl, bel_box _ _⟩
theorem of_any (d p : Dt) (t q : Int) (w : World) : Calls Tryz.prog 41 #[dv d, dv p, .int .i64 t, .int .i32 q] w fun e w' => e = .returned (nv (d, p, t, q)) ∧ Below w.heap.size w w' := by
  obtain ⟨d1, d2⟩ := d
  obtain ⟨p1, p2⟩ := p
  go_enter Tryz.func41, Tryz.ntmps41
  go_wp2_with fail
  (try simp only [Exit.inBlock, Exit.then])
  refine bodyPost_ret (v := .agg #[.int .i64 d1, .int .i64 d2, .int .i64 p1, .int .i64 p2, .int .i64 t, .int .i32 q]) (by rw [results_cell1 (fn := Tryz.f41) (p := 8) (ty := 35) rfl]; go_simp) rfl ?_
  exact ⟨rfl, ((bel_box _ _).alloc (by simp) _).alloc (by simp; omega) _⟩
theorem nodes_any (v : Value) (w : World) : Calls Tryz.prog 43 #[v] w fun e w' => e = .returned v ∧ w' = w := by
  go_enter Tryz.func43, Tryz.ntmps43
  go_wp2_with fail
  go_ret
  exact ⟨rfl, rfl⟩


set_option maxRecDepth 100000 in
set_option maxHeartbeats 1000000 in
theorem made_true (l : List Nt) (a : Option Addr) (c : Nat) (y : List Nt) (q : Int) (b : Option Addr) (d : Nat) (w : World) (h : ofN l = (y, q)) (hf : ∀ x ∈ l, fitN x) (hx : RowN w a l) (hlx : l.length ≤ 100000) (hy : RowN w b y) (hly : y.length ≤ 1000000) :
    Calls Tryz.prog 35 #[.slice a l.length c, .slice b y.length d, .int .i64 q] w fun e w' => e = .returned (.bool true) ∧ Below w.heap.size w w' := by
  have HC := Lib.hid (of_prog l a c w hf hx hlx)
  rw [h] at HC
  have HY := Lib.hid hy
  have HL := Lib.hid hly
  clear hy hly h
  go_enter Tryz.func35, Tryz.ntmps35
  go_wp2_with fail
  refine HC.out.mono ?_
  rintro e w2 ⟨v, rfl, ho, hb⟩
  have HB := Lib.hid hb
  obtain ⟨A, cv, rfl, hr, -⟩ := ho.row
  have HG := Lib.hid (gives_true y y q A b cv d w2 rfl hr (HY.out.keep HB.out) HL.out)
  clear ho hb hr HC
  generalize y.length = ny at *
  go_wp2_with fail
  refine HG.out.mono ?_
  rintro e w3 ⟨rfl, hb⟩
  have HB2 := bel_tr HB hb
  clear hb
  go_wp2_with fail
  go_ret
  exact ⟨rfl, HB2.out⟩


set_option maxRecDepth 100000 in
set_option maxHeartbeats 1000000 in
theorem puts_true (l : List Nt) (n : Nt) (a : Option Addr) (c : Nat) (y : List Nt) (q : Int) (b : Option Addr) (d : Nat) (w : World) (h : putP l n = (y, q)) (hf : ∀ x ∈ l, fitN x) (hn : fitN n) (hx : RowN w a l) (hna : a = none → c = 0) (hlx : l.length ≤ 90000) (hy : RowN w b y) (hly : y.length ≤ 1000000) :
    Calls Tryz.prog 21 #[.slice a l.length c, nv n, .slice b y.length d, .int .i64 q] w fun e w' => e = .returned (.bool true) ∧ Below w.heap.size w w' := by
  have HC := Lib.hid (fun w h => put_prog l n a c w hf hn h hna hlx)
  simp only [h] at HC
  have HB0 := Lib.hid (bel_box w (.cells (nc n) 35))
  have HX := Lib.hid (hx.keep HB0.out)
  have HY := Lib.hid hy
  have HL := Lib.hid hly
  clear hy hly h
  go_enter Tryz.func21, Tryz.ntmps21
  go_wp2_with fail
  generalize (w.alloc (.cells (nc n) 35)) = w1 at *
  refine (HC.out _ HX.out).mono ?_
  rintro e w2 ⟨v, rfl, ho, hb⟩
  have HB := bel_tr HB0 hb
  obtain ⟨A, cv, rfl, hr, -⟩ := ho.row
  have HG := Lib.hid (gives_true y y q A b cv d w2 rfl hr (HY.out.keep HB.out) HL.out)
  clear ho hb hr HC
  generalize y.length = ny at *
  go_wp2_with fail
  refine HG.out.mono ?_
  rintro e w3 ⟨rfl, hb⟩
  have HB2 := bel_tr HB hb
  clear hb
  go_wp2_with fail
  go_ret
  exact ⟨rfl, HB2.out⟩


set_option maxRecDepth 100000 in
set_option maxHeartbeats 1000000 in
theorem kills_true (l : List Nt) (dots : List Dt) (a a2 : Option Addr) (c c2 : Nat) (y : List Nt) (q : Int) (b : Option Addr) (d : Nat) (w : World) (h : killP l dots = (y, q)) (hf : ∀ x ∈ l, fitN x) (hd : ∀ x ∈ dots, fitD x) (hx : RowN w a l) (hx2 : RowD w a2 dots) (hna : a = none → c = 0) (hlx : l.length ≤ 1000000) (hld : dots.length ≤ 1000000) (hy : RowN w b y) (hly : y.length ≤ 1000000) :
    Calls Tryz.prog 24 #[.slice a l.length c, .slice a2 dots.length c2, .slice b y.length d, .int .i64 q] w fun e w' => e = .returned (.bool true) ∧ Below w.heap.size w w' := by
  have HC := Lib.hid (kill_prog l dots a a2 c c2 w hf hd hx hx2 hna hlx hld)
  rw [h] at HC
  have HY := Lib.hid hy
  have HL := Lib.hid hly
  clear hy hly h
  go_enter Tryz.func24, Tryz.ntmps24
  go_wp2_with fail
  refine HC.out.mono ?_
  rintro e w2 ⟨v, rfl, ho, hb⟩
  have HB := Lib.hid hb
  obtain ⟨A, cv, rfl, hr, -⟩ := ho.row
  have HG := Lib.hid (gives_true y y q A b cv d w2 rfl hr (HY.out.keep HB.out) HL.out)
  clear ho hb hr HC
  generalize y.length = ny at *
  go_wp2_with fail
  refine HG.out.mono ?_
  rintro e w3 ⟨rfl, hb⟩
  have HB2 := bel_tr HB hb
  clear hb
  go_wp2_with fail
  go_ret
  exact ⟨rfl, HB2.out⟩


set_option maxRecDepth 100000 in
set_option maxHeartbeats 1000000 in
theorem timed_true (l : List Nt) (z q : Int) (a : Option Addr) (c : Nat) (w : World) (h : timeP l = (z, q)) (hx : RowN w a l) (hlx : l.length ≤ 300000) :
    Calls Tryz.prog 29 #[.slice a l.length c, .int .i64 z, .int .i64 q] w fun e w' => e = .returned (.bool true) ∧ Below w.heap.size w w' := by
  have HC := Lib.hid (time_prog l a c w hx hlx)
  rw [h] at HC
  clear hx hlx h
  go_enter Tryz.func29, Tryz.ntmps29
  go_wp2_with fail
  refine HC.out.mono ?_
  rintro e w2 ⟨rfl, hb⟩
  have HB := Lib.hid hb
  clear hb HC
  go_wp2_with fail
  go_ret
  exact ⟨rfl, HB.out⟩
set_option maxRecDepth 100000 in
set_option maxHeartbeats 1000000 in
theorem lacks_true (l : List Nt) (y : List Dt) (q : Int) (a b : Option Addr) (c d : Nat) (w : World) (h : lackP l = (y, q)) (hf : ∀ x ∈ l, fitN x) (hx : RowN w a l) (hy : RowD w b y) (hlx : l.length ≤ 300000) (hly : y.length ≤ 1000000) :
    Calls Tryz.prog 30 #[.slice a l.length c, .slice b y.length d, .int .i64 q] w fun e w' => e = .returned (.bool true) ∧ Below w.heap.size w w' := by
  have HC := Lib.hid (lack_prog l a c w hf hx hlx)
  rw [h] at HC
  have HY := Lib.hid hy
  have HL := Lib.hid hly
  clear hx hlx h hy hly hf
  go_enter Tryz.func30, Tryz.ntmps30
  go_wp2_with fail
  refine HC.out.mono ?_
  rintro e w2 ⟨v, rfl, ho, hb⟩
  have HB := Lib.hid hb
  obtain ⟨A, cv, rfl, -, hr⟩ := ho.row
  have HG := Lib.hid (same_ref y y A b cv d w2 hr (HY.out.keep HB.out) (by have := HL.out; omega) (by have := HL.out; omega))
  rw [decide_eq_true rfl] at HG
  clear ho hb hr HC
  generalize y.length = ny at *
  go_wp2_with fail
  refine HG.out.mono ?_
  rintro e w3 ⟨rfl, hb⟩
  have HB2 := bel_tr HB hb
  clear hb
  go_wp2_with fail
  go_ret
  exact ⟨rfl, HB2.out⟩
set_option maxRecDepth 100000 in
set_option maxHeartbeats 1000000 in
theorem finds_true (l : List Nt) (d : Dt) (n : Nt) (q : Int) (a : Option Addr) (c : Nat) (w : World) (h : findS l d = (n, q)) (hf : ∀ x ∈ l, fitN x) (hd : fitD d) (hx : RowN w a l) (hlx : l.length ≤ 1000000) :
    Calls Tryz.prog 19 #[.slice a l.length c, dv d, nv n, .int .i64 q] w fun e w' => e = .returned (.bool true) ∧ Below w.heap.size w w' := by
  have HC := Lib.hid (fun w h => find_any l d a c w hf hd h hlx)
  simp only [h] at HC
  have hb0 := bel_box (w.alloc (.cells #[.int .i64 d.1, .int .i64 d.2] 33)) (.cells (nc n) 35)
  have hn0 := Nb.new (w.alloc (.cells #[.int .i64 d.1, .int .i64 d.2] 33)) n
  rw [show (w.alloc (.cells #[.int .i64 d.1, .int .i64 d.2] 33)).heap.size = w.heap.size + 1 by simp] at hn0
  have HN := Lib.hid hn0
  have HB := Lib.hid ((bel_box w (.cells #[.int .i64 d.1, .int .i64 d.2] 33)).trans (hb0.mono (by simp)))
  have HX := Lib.hid (hx.keep HB.out)
  have HE : ∀ w, Sem.run Tryz.prog (binOp .eql 35 (nv n) (nv n)) w = .ok (.bool true) w := fun w => by rw [eql_node, decide_eq_true rfl]
  clear hx hlx h hb0 hn0 hf hd
  obtain ⟨d1, d2⟩ := d
  go_enter Tryz.func19, Tryz.ntmps19
  go_wp2_with fail
  generalize ((w.alloc (.cells #[.int .i64 d1, .int .i64 d2] 33)).alloc (.cells (nc n) 35)) = w1 at *
  refine (HC.out _ HX.out).mono ?_
  rintro e w2 ⟨rfl, hb⟩
  replace HB := bel_tr HB hb
  have hb2 := bel_box w2 (.cells (nc n) 35)
  obtain ⟨n0, n1, n2, n3, n4, n5⟩ := (HN.out.keep hb).keep hb2
  clear hb HC
  have HB2 := bel_tr HB hb2
  clear hb2
  go_wp2_with fail
  go_ret
  exact ⟨rfl, HB2.out⟩


set_option maxRecDepth 100000 in
set_option maxHeartbeats 2000000 in
theorem seen_true (l : List Nt) (y : F.Ct) (q : Int) (a b1 b2 : Option Addr) (c d1 d2 : Nat) (w : World) (h : ctxP l (chs false) = (y, q)) (hx : RowN w a l) (hy1 : RowD w b1 y.1) (hy2 : RowD w b2 y.2) (hlx : l.length ≤ 300000) (hly1 : y.1.length ≤ 1000000) (hly2 : y.2.length ≤ 1000000) :
    Calls Tryz.prog 27 #[.slice a l.length c, F.cv (.slice b1 y.1.length d1) (.slice b2 y.2.length d2), .int .i64 q] w fun e w' => e = .returned (.bool true) ∧ Below w.heap.size w w' := by
  have HC := Lib.hid (fun w h => context_prog l a c w h hlx)
  simp only [h] at HC
  have HB := Lib.hid (bel_box w (F.cbox (.slice b1 y.1.length d1) (.slice b2 y.2.length d2)))
  have HT := Lib.hid (F.two_new w (.slice b1 y.1.length d1) (.slice b2 y.2.length d2))
  have HX := Lib.hid (hx.keep HB.out)
  have HY1 := Lib.hid (hy1.keep HB.out)
  have HY2 := Lib.hid (hy2.keep HB.out)
  have HL1 := Lib.hid hly1
  have HL2 := Lib.hid hly2
  clear hx hlx h hy1 hy2 hly1 hly2
  go_enter Tryz.func27, Tryz.ntmps27
  go_wp2_with fail
  generalize (w.alloc (F.cbox (.slice b1 y.1.length d1) (.slice b2 y.2.length d2))) = w1 at *
  refine (HC.out _ HX.out).mono ?_
  rintro e w2 ⟨x1, x2, rfl, ho, hb⟩
  obtain ⟨A1, n1, e1, hr1, -⟩ := ho.1.row
  obtain ⟨A2, n2, e2, hr2, -⟩ := ho.2.row
  subst e1
  subst e2
  replace HT := Lib.hid (HT.out.keep hb)
  replace HY1 := Lib.hid (HY1.out.keep hb)
  replace HY2 := Lib.hid (HY2.out.keep hb)
  replace HB := bel_tr HB hb
  have HR1 := Lib.hid hr1
  have HR2 := Lib.hid hr2
  clear ho hb hr1 hr2 HC
  have hb2 := bel_box w2 (F.cbox (.slice A1 y.1.length n1) (.slice A2 y.2.length n2))
  replace HT := Lib.hid (HT.out.keep hb2)
  replace HB := bel_tr HB hb2
  have HG := Lib.hid (F.equal_ref y.1 y.2 y.1 y.2 A1 A2 b1 b2 n1 n2 d1 d2 _ (HR1.out.keep hb2) (HR2.out.keep hb2) (HY1.out.keep hb2) (HY2.out.keep hb2) (by have := HL1.out; omega) (by have := HL2.out; omega) (by have := HL1.out; omega) (by have := HL2.out; omega))
  rw [decide_eq_true rfl] at HG
  obtain ⟨x0, x1⟩ := HT.out
  clear hb2
  generalize y.1.length = ny1 at *
  generalize y.2.length = ny2 at *
  go_wp2_with fail
  refine HG.out.mono ?_
  rintro e w3 ⟨rfl, hb⟩
  have HB3 := bel_tr HB hb
  clear hb
  go_wp2_with fail
  go_ret
  exact ⟨rfl, HB3.out⟩


set_option maxRecDepth 100000 in
set_option maxHeartbeats 2000000 in
theorem dead_true (l : List Nt) (y : F.Ct) (q : Int) (a b1 b2 : Option Addr) (c d1 d2 : Nat) (w : World) (h : ctxP l (chs true) = (y, q)) (hx : RowN w a l) (hy1 : RowD w b1 y.1) (hy2 : RowD w b2 y.2) (hlx : l.length ≤ 300000) (hly1 : y.1.length ≤ 1000000) (hly2 : y.2.length ≤ 1000000) :
    Calls Tryz.prog 28 #[.slice a l.length c, F.cv (.slice b1 y.1.length d1) (.slice b2 y.2.length d2), .int .i64 q] w fun e w' => e = .returned (.bool true) ∧ Below w.heap.size w w' := by
  have HC := Lib.hid (fun w h => dead_prog l a c w h hlx)
  simp only [h] at HC
  have HB := Lib.hid (bel_box w (F.cbox (.slice b1 y.1.length d1) (.slice b2 y.2.length d2)))
  have HT := Lib.hid (F.two_new w (.slice b1 y.1.length d1) (.slice b2 y.2.length d2))
  have HX := Lib.hid (hx.keep HB.out)
  have HY1 := Lib.hid (hy1.keep HB.out)
  have HY2 := Lib.hid (hy2.keep HB.out)
  have HL1 := Lib.hid hly1
  have HL2 := Lib.hid hly2
  clear hx hlx h hy1 hy2 hly1 hly2
  go_enter Tryz.func28, Tryz.ntmps28
  go_wp2_with fail
  generalize (w.alloc (F.cbox (.slice b1 y.1.length d1) (.slice b2 y.2.length d2))) = w1 at *
  refine (HC.out _ HX.out).mono ?_
  rintro e w2 ⟨x1, x2, rfl, ho, hb⟩
  obtain ⟨A1, n1, e1, hr1, -⟩ := ho.1.row
  obtain ⟨A2, n2, e2, hr2, -⟩ := ho.2.row
  subst e1
  subst e2
  replace HT := Lib.hid (HT.out.keep hb)
  replace HY1 := Lib.hid (HY1.out.keep hb)
  replace HY2 := Lib.hid (HY2.out.keep hb)
  replace HB := bel_tr HB hb
  have HR1 := Lib.hid hr1
  have HR2 := Lib.hid hr2
  clear ho hb hr1 hr2 HC
  have hb2 := bel_box w2 (F.cbox (.slice A1 y.1.length n1) (.slice A2 y.2.length n2))
  replace HT := Lib.hid (HT.out.keep hb2)
  replace HB := bel_tr HB hb2
  have HG := Lib.hid (F.equal_ref y.1 y.2 y.1 y.2 A1 A2 b1 b2 n1 n2 d1 d2 _ (HR1.out.keep hb2) (HR2.out.keep hb2) (HY1.out.keep hb2) (HY2.out.keep hb2) (by have := HL1.out; omega) (by have := HL2.out; omega) (by have := HL1.out; omega) (by have := HL2.out; omega))
  rw [decide_eq_true rfl] at HG
  obtain ⟨x0, x1⟩ := HT.out
  clear hb2
  generalize y.1.length = ny1 at *
  generalize y.2.length = ny2 at *
  go_wp2_with fail
  refine HG.out.mono ?_
  rintro e w3 ⟨rfl, hb⟩
  have HB3 := bel_tr HB hb
  clear hb
  go_wp2_with fail
  go_ret
  exact ⟨rfl, HB3.out⟩

end Go.Proofs.YtfpfihmihlmobaaGreat.Qs
end

/-
  What the laws call, at lists that are written out.
-/
section
namespace Go.Proofs.YtfpfihmihlmobaaGreat.Qs
set_option linter.unusedVariables false
open Go.RowKit V Go.Sort D Nd

def fitB (d : Dt) : Bool := (Lit.int .i64 d.1).wf && (Lit.int .i64 d.2).wf
theorem fitB_iff {d : Dt} : fitB d = true ↔ fitD d := by unfold fitB fitD; rw [Bool.and_eq_true]
theorem fitL {l : List Nt} (h : (l.all fun n => fitB n.1 && fitB n.2.1) = true) : ∀ x ∈ l, fitN x := fun x hx => by
  have := List.all_eq_true.1 h x hx
  rw [Bool.and_eq_true] at this
  exact ⟨fitB_iff.1 this.1, fitB_iff.1 this.2⟩
theorem fitDs {l : List Dt} (h : (l.all fitB) = true) : ∀ x ∈ l, fitD x := fun x hx => fitB_iff.1 (List.all_eq_true.1 h x hx)
section
variable {w : World} {a b b2 : Option Addr} {n m k c d d2 : Nat}
theorem validS_lit (l : List Nt) (r : Bool) (h : validS l = r) (hn : n = l.length) (hx : RowN w a l) (hl : l.length ≤ 1000) : Calls Tryz.prog 10 #[.slice a n c] w fun e w' => e = .returned (.bool r) ∧ Below w.heap.size w w' := by
  subst hn; rw [← h]; exact validS_any l a c w hx (by omega)
theorem made_lit (l y : List Nt) (q : Int) (h : ofN l = (y, q)) (hf : (l.all fun n => fitB n.1 && fitB n.2.1) = true) (hn : n = l.length) (hm : m = y.length) (hx : RowN w a l) (hy : RowN w b y) (hl : l.length ≤ 1000) (hl2 : y.length ≤ 1000) :
    Calls Tryz.prog 35 #[.slice a n c, .slice b m d, .int .i64 q] w fun e w' => e = .returned (.bool true) ∧ Below w.heap.size w w' := by
  subst hn; subst hm; exact made_true l a c y q b d w h (fitL hf) hx (by omega) hy (by omega)
theorem puts_lit (l y : List Nt) (t : Nt) (q : Int) (h : putP l t = (y, q)) (hf : ((t :: l).all fun n => fitB n.1 && fitB n.2.1) = true) (hn : n = l.length) (hm : m = y.length) (hx : RowN w a l) (hna : a = none → c = 0) (hy : RowN w b y) (hl : l.length ≤ 1000) (hl2 : y.length ≤ 1000) :
    Calls Tryz.prog 21 #[.slice a n c, nv t, .slice b m d, .int .i64 q] w fun e w' => e = .returned (.bool true) ∧ Below w.heap.size w w' := by
  subst hn; subst hm; exact puts_true l t a c y q b d w h (fun x hx => fitL hf x (by simp [hx])) (fitL hf t (by simp)) hx hna (by omega) hy (by omega)
theorem kills_lit (l y : List Nt) (ds : List Dt) (q : Int) (h : killP l ds = (y, q)) (hf : (l.all fun n => fitB n.1 && fitB n.2.1) = true) (hfd : ds.all fitB = true) (hn : n = l.length) (hk : k = ds.length) (hm : m = y.length) (hx : RowN w a l) (hna : a = none → c = 0) (hd : RowD w b2 ds) (hy : RowN w b y) (hl : l.length ≤ 1000) (hl3 : ds.length ≤ 1000) (hl2 : y.length ≤ 1000) :
    Calls Tryz.prog 24 #[.slice a n c, .slice b2 k d2, .slice b m d, .int .i64 q] w fun e w' => e = .returned (.bool true) ∧ Below w.heap.size w w' := by
  subst hn; subst hm; subst hk; exact kills_true l ds a b2 c d2 y q b d w h (fitL hf) (fitDs hfd) hx hd hna (by omega) (by omega) hy (by omega)
theorem finds_lit (l : List Nt) (dd : Dt) (t : Nt) (q : Int) (h : findS l dd = (t, q)) (hf : (l.all fun n => fitB n.1 && fitB n.2.1) = true) (hfd : fitB dd = true) (hn : n = l.length) (hx : RowN w a l) (hl : l.length ≤ 1000) :
    Calls Tryz.prog 19 #[.slice a n c, dv dd, nv t, .int .i64 q] w fun e w' => e = .returned (.bool true) ∧ Below w.heap.size w w' := by
  subst hn; exact finds_true l dd t q a c w h (fitL hf) (fitB_iff.1 hfd) hx (by omega)
theorem timed_lit (l : List Nt) (z q : Int) (h : timeP l = (z, q)) (hn : n = l.length) (hx : RowN w a l) (hl : l.length ≤ 1000) :
    Calls Tryz.prog 29 #[.slice a n c, .int .i64 z, .int .i64 q] w fun e w' => e = .returned (.bool true) ∧ Below w.heap.size w w' := by
  subst hn; exact timed_true l z q a c w h hx (by omega)
theorem lacks_lit (l : List Nt) (y : List Dt) (q : Int) (h : lackP l = (y, q)) (hf : (l.all fun n => fitB n.1 && fitB n.2.1) = true) (hn : n = l.length) (hm : m = y.length) (hx : RowN w a l) (hy : RowD w b y) (hl : l.length ≤ 1000) (hl2 : y.length ≤ 1000) :
    Calls Tryz.prog 30 #[.slice a n c, .slice b m d, .int .i64 q] w fun e w' => e = .returned (.bool true) ∧ Below w.heap.size w w' := by
  subst hn; subst hm; exact lacks_true l y q a b c d w h (fitL hf) hx hy (by omega) (by omega)
theorem seen_lit (l : List Nt) (y1 y2 : List Dt) (q : Int) (h : ctxP l (chs false) = ((y1, y2), q)) (hn : n = l.length) (hm : m = y1.length) (hk : k = y2.length) (hx : RowN w a l) (hy1 : RowD w b y1) (hy2 : RowD w b2 y2) (hl : l.length ≤ 1000) (hl1 : y1.length ≤ 1000) (hl2 : y2.length ≤ 1000) :
    Calls Tryz.prog 27 #[.slice a n c, F.cv (.slice b m d) (.slice b2 k d2), .int .i64 q] w fun e w' => e = .returned (.bool true) ∧ Below w.heap.size w w' := by
  subst hn; subst hm; subst hk; exact seen_true l (y1, y2) q a b b2 c d d2 w h hx hy1 hy2 (by omega) (by show y1.length ≤ _; omega) (by show y2.length ≤ _; omega)
theorem dead_lit (l : List Nt) (y1 y2 : List Dt) (q : Int) (h : ctxP l (chs true) = ((y1, y2), q)) (hn : n = l.length) (hm : m = y1.length) (hk : k = y2.length) (hx : RowN w a l) (hy1 : RowD w b y1) (hy2 : RowD w b2 y2) (hl : l.length ≤ 1000) (hl1 : y1.length ≤ 1000) (hl2 : y2.length ≤ 1000) :
    Calls Tryz.prog 28 #[.slice a n c, F.cv (.slice b m d) (.slice b2 k d2), .int .i64 q] w fun e w' => e = .returned (.bool true) ∧ Below w.heap.size w w' := by
  subst hn; subst hm; subst hk; exact dead_true l (y1, y2) q a b b2 c d d2 w h hx hy1 hy2 (by omega) (by show y1.length ≤ _; omega) (by show y2.length ≤ _; omega)
end
abbrev kA : Nt := ((1, 1), (0, 0), 1, 97)
abbrev kB : Nt := ((2, 2), (1, 1), 2, 98)
abbrev kC : Nt := ((1, 3), (9, 9), 7, 0)
abbrev kG : Nt := ((1, 1), (0, 0), 1, 0)
theorem ex1 : validS [kA, kB, kC] = true := by decide
theorem ex2 : validS [kB, kA] = false := by decide
theorem ex3 : validS [kA, kA] = false := by decide
theorem ex4 : ofN [kC, kA, kB, kA] = ([kA, kB, kC], 0) := by decide
theorem ex5 : ofN [kA, kG] = ([kG], 0) := by decide
theorem ex6 : ofN [kA, ((1, 1), (0, 0), 2, 97)] = ([], 15) := by decide
theorem ex7 : findS [kA, kB, kC] (2, 2) = (kB, 0) := by decide
theorem ex8 : findS [kA, kB, kC] (2, 3) = (zeroN, 9) := by decide
theorem ex9 : findS [kA, kB, kC] (2, 0) = (zeroN, 2) := by decide
theorem ex10 : putP [kA, kC] kB = ([kA, kB, kC], 0) := by decide
theorem ex11 : putP [kA, kC] ((1, 3), (9, 9), 8, 0) = ([], 15) := by decide
theorem ex12 : killP [kA, kB] [(2, 2), (2, 2)] = ([kA, ((2, 2), (1, 1), 2, 0)], 0) := by decide
theorem ex13 : killP [kA, kB] [(1, 3)] = ([], 9) := by decide
theorem ex14 : ctxP [kA, kB, kC] (chs false) = (([(1, 1)], [(2, 2), (1, 3)]), 0) := by decide
theorem ex15 : ctxP [kA, kB, kC] (chs true) = (([], [(1, 3)]), 0) := by decide
theorem ex16 : timeP [kA, kB, kC] = (7, 0) := by decide
theorem ex17 : timeP [] = (0, 0) := by decide
theorem ex18 : lackP [kA, kB, kC] = ([(9, 9)], 0) := by decide
theorem ex19 : lackP [kB, kA] = ([], 2) := by decide
end Go.Proofs.YtfpfihmihlmobaaGreat.Qs
end

/-
  The examples of the chapter: their nodes.
-/
section
namespace Go.Proofs.YtfpfihmihlmobaaGreat.Qs
set_option linter.unusedVariables false
open Go.RowKit V Go.Sort D Nd
attribute [local irreducible] Sch.heldN Sch.stepV Sch.stepE

/-- The root's box and the zero node's. -/
def K0 (g : Nat) (w : World) : Prop := w.cell? ⟨g, 0, none⟩ = some (.int .i64 0) ∧ w.cell? ⟨g, 1, none⟩ = some (.int .i64 0) ∧ Nb w (g + 1) zeroN
theorem K0.keep {g : Nat} {w w' : World} (h : K0 g w) (hb : Below w.heap.size w w') : K0 g w' :=
  ⟨(hb.cell (p := ⟨g, 0, none⟩) (lt_of_cell h.1)).trans h.1, (hb.cell (p := ⟨g, 1, none⟩) (lt_of_cell h.2.1)).trans h.2.1, h.2.2.keep hb⟩
theorem K0.r {g : Nat} : ∀ w, K0 g w → (Instr.loadAt 33 (.pointer (some ⟨g, 0, none⟩))).run Tryz.prog w = .ok (.agg #[.int .i64 0, .int .i64 0]) w := fun w h => load_dot (x := (0, 0)) h.1 h.2.1

theorem Sch.step_e {P : Program} {S : World → Prop} {Q : Exit → Act → World → Prop} {l : List Oper} {i : Nat} {o : Oper} {a : Act} {w : World} {J : Act → World → Prop} (ho : Sch.nth l i = some o) (hw : Region.wanted o (yielded l.toArray a.tmps) = true) (h : ∀ K : Act → World → Prop, (∀ a' w', S w' → J a' w' → K a' w') → o.wp P a w K Q) : Sch.stepE P l.toArray Q S i J a w := by
  unfold Sch.stepE
  simp only [Sch.nth_at, ho]
  rw [if_pos hw]
  exact h _ fun a' w' h1 h2 => ⟨h1, h2⟩
theorem Sch.step_load {P : Program} {S : World → Prop} {l : List Oper} {i : Nat} {o : Oper} {a : Act} {w : World} {J : Act → World → Prop} (t : TypeId) (x : Operand) (ad v : Value) (a' : Act) (ho : Sch.nth l i = some o) (hop : o.op = .load t x) (hw : Region.wanted o (yielded l.toArray a.tmps) = true) (hx : a.eval x = ad)
    (hr : ∀ w, S w → (Instr.loadAt t ad).run P w = .ok v w) (he : a.put o.dst v = a') (h : J a' w) : Sch.stepV P l.toArray S i J a w := by
  subst he
  subst hx
  unfold Sch.stepV
  simp only [Sch.nth_at, ho]
  rw [if_pos hw]
  refine ⟨_, fun w' hS => ?_, h⟩
  unfold execOp
  rw [hop]
  simp only [Sem.run_bind, hr w' hS, Result.andThen_ok]
  rfl
theorem k0_gb {g r : Nat} {w w' : World} (h : K0 g w) (hg : w.grownBy w' (some r)) (h1 : g ≠ r) (h2 : g + 1 ≠ r) : K0 g w' := by
  have e : w'.heap[g]? = w.heap[g]? := hg.block g (lt_of_cell h.1) (by simpa using h1)
  exact ⟨(World.cell?_of_block (a := ⟨g, 0, none⟩) e).trans h.1, (World.cell?_of_block (a := ⟨g, 1, none⟩) e).trans h.2.1, nb_gb h.2.2 hg h2⟩
theorem zb_gb {w w' : World} {g r : Nat} (h : Zb w g) (hg : w.grownBy w' (some r)) (hne : g ≠ r) : Zb w' g := by
  have e : w'.heap[g]? = w.heap[g]? := hg.block g h.1.lt (by simpa using hne)
  exact ⟨nb_gb h.1 hg hne, fun o => (World.frozen?_of_block (a := ⟨g, o, none⟩) e).trans (h.2 o)⟩
/-- All boxes of the examples. -/
def Kn (B g3 g4 g5 : Nat) (w : World) : Prop := K0 B w ∧ Nb w g3 kA ∧ Nb w g4 kB ∧ Nb w g5 kC
theorem Kn.keep {B g3 g4 g5 : Nat} {w w' : World} (h : Kn B g3 g4 g5 w) (hb : Below w.heap.size w w') : Kn B g3 g4 g5 w' := ⟨h.1.keep hb, h.2.1.keep hb, h.2.2.1.keep hb, h.2.2.2.keep hb⟩
theorem Kn.lt {B g3 g4 g5 : Nat} {w : World} (h : Kn B g3 g4 g5 w) : B + 1 < w.heap.size ∧ g3 < w.heap.size ∧ g4 < w.heap.size ∧ g5 < w.heap.size := ⟨h.1.2.2.lt, h.2.1.lt, h.2.2.1.lt, h.2.2.2.lt⟩
theorem Kn.a {B g3 g4 g5 : Nat} : ∀ w, Kn B g3 g4 g5 w → (Instr.loadAt 35 (.pointer (some ⟨g3, 0, none⟩))).run Tryz.prog w = .ok (.agg #[.int .i64 1, .int .i64 1, .int .i64 0, .int .i64 0, .int .i64 1, .int .i32 97]) w := fun w h => h.2.1.load
theorem Kn.b {B g3 g4 g5 : Nat} : ∀ w, Kn B g3 g4 g5 w → (Instr.loadAt 35 (.pointer (some ⟨g4, 0, none⟩))).run Tryz.prog w = .ok (.agg #[.int .i64 2, .int .i64 2, .int .i64 1, .int .i64 1, .int .i64 2, .int .i32 98]) w := fun w h => h.2.2.1.load
theorem Kn.c {B g3 g4 g5 : Nat} : ∀ w, Kn B g3 g4 g5 w → (Instr.loadAt 35 (.pointer (some ⟨g5, 0, none⟩))).run Tryz.prog w = .ok (.agg #[.int .i64 1, .int .i64 3, .int .i64 9, .int .i64 9, .int .i64 7, .int .i32 0]) w := fun w h => h.2.2.2.load
theorem Kn.r {B g3 g4 g5 : Nat} : ∀ w, Kn B g3 g4 g5 w → (Instr.loadAt 33 (.pointer (some ⟨B, 0, none⟩))).run Tryz.prog w = .ok (.agg #[.int .i64 0, .int .i64 0]) w := fun w h => K0.r w h.1
theorem kn_gb {B g3 g4 g5 r : Nat} {w w' : World} (h : Kn B g3 g4 g5 w) (hg : w.grownBy w' (some r)) (hn : B ≠ r ∧ B + 1 ≠ r ∧ g3 ≠ r ∧ g4 ≠ r ∧ g5 ≠ r) : Kn B g3 g4 g5 w' := ⟨k0_gb h.1 hg hn.1 hn.2.1, nb_gb h.2.1 hg hn.2.2.1, nb_gb h.2.2.1 hg hn.2.2.2.1, nb_gb h.2.2.2 hg hn.2.2.2.2⟩
theorem Kn.ca {B g3 g4 g5 : Nat} {w : World} (h : Kn B g3 g4 g5 w) : w.cell? ⟨g3, 0, none⟩ = some (.int .i64 1) ∧ w.cell? ⟨g3, 1, none⟩ = some (.int .i64 1) ∧ w.cell? ⟨g3, 2, none⟩ = some (.int .i64 0) ∧ w.cell? ⟨g3, 3, none⟩ = some (.int .i64 0) ∧ w.cell? ⟨g3, 4, none⟩ = some (.int .i64 1) ∧ w.cell? ⟨g3, 5, none⟩ = some (.int .i32 97) := h.2.1
theorem Kn.cb {B g3 g4 g5 : Nat} {w : World} (h : Kn B g3 g4 g5 w) : w.cell? ⟨g4, 0, none⟩ = some (.int .i64 2) ∧ w.cell? ⟨g4, 1, none⟩ = some (.int .i64 2) ∧ w.cell? ⟨g4, 2, none⟩ = some (.int .i64 1) ∧ w.cell? ⟨g4, 3, none⟩ = some (.int .i64 1) ∧ w.cell? ⟨g4, 4, none⟩ = some (.int .i64 2) ∧ w.cell? ⟨g4, 5, none⟩ = some (.int .i32 98) := h.2.2.1
theorem Kn.cc {B g3 g4 g5 : Nat} {w : World} (h : Kn B g3 g4 g5 w) : w.cell? ⟨g5, 0, none⟩ = some (.int .i64 1) ∧ w.cell? ⟨g5, 1, none⟩ = some (.int .i64 3) ∧ w.cell? ⟨g5, 2, none⟩ = some (.int .i64 9) ∧ w.cell? ⟨g5, 3, none⟩ = some (.int .i64 9) ∧ w.cell? ⟨g5, 4, none⟩ = some (.int .i64 7) ∧ w.cell? ⟨g5, 5, none⟩ = some (.int .i32 0) := h.2.2.2
theorem Kn.cz {B g3 g4 g5 : Nat} {w : World} (h : Kn B g3 g4 g5 w) : w.cell? ⟨B + 1, 0, none⟩ = some (.int .i64 0) ∧ w.cell? ⟨B + 1, 1, none⟩ = some (.int .i64 0) ∧ w.cell? ⟨B + 1, 2, none⟩ = some (.int .i64 0) ∧ w.cell? ⟨B + 1, 3, none⟩ = some (.int .i64 0) ∧ w.cell? ⟨B + 1, 4, none⟩ = some (.int .i64 0) ∧ w.cell? ⟨B + 1, 5, none⟩ = some (.int .i32 0) := h.1.2.2
theorem Kn.z {B g3 g4 g5 : Nat} : ∀ w, Kn B g3 g4 g5 w → (Instr.loadAt 35 (.pointer (some ⟨B + 1, 0, none⟩))).run Tryz.prog w = .ok (.agg #[.int .i64 0, .int .i64 0, .int .i64 0, .int .i64 0, .int .i64 0, .int .i32 0]) w := fun w h => h.1.2.2.load
def K4 (B g3 g4 g5 g7 : Nat) (w : World) : Prop := Kn B g3 g4 g5 w ∧ Nb w g7 kG
theorem K4.keep {B g3 g4 g5 g7 : Nat} {w w' : World} (h : K4 B g3 g4 g5 g7 w) (hb : Below w.heap.size w w') : K4 B g3 g4 g5 g7 w' := ⟨h.1.keep hb, h.2.keep hb⟩
theorem K4.a {B g3 g4 g5 g7 : Nat} : ∀ w, K4 B g3 g4 g5 g7 w → (Instr.loadAt 35 (.pointer (some ⟨g3, 0, none⟩))).run Tryz.prog w = .ok (.agg #[.int .i64 1, .int .i64 1, .int .i64 0, .int .i64 0, .int .i64 1, .int .i32 97]) w := fun w h => Kn.a w h.1
theorem K4.b {B g3 g4 g5 g7 : Nat} : ∀ w, K4 B g3 g4 g5 g7 w → (Instr.loadAt 35 (.pointer (some ⟨g4, 0, none⟩))).run Tryz.prog w = .ok (.agg #[.int .i64 2, .int .i64 2, .int .i64 1, .int .i64 1, .int .i64 2, .int .i32 98]) w := fun w h => Kn.b w h.1
theorem K4.c {B g3 g4 g5 g7 : Nat} : ∀ w, K4 B g3 g4 g5 g7 w → (Instr.loadAt 35 (.pointer (some ⟨g5, 0, none⟩))).run Tryz.prog w = .ok (.agg #[.int .i64 1, .int .i64 3, .int .i64 9, .int .i64 9, .int .i64 7, .int .i32 0]) w := fun w h => Kn.c w h.1
theorem K4.r {B g3 g4 g5 g7 : Nat} : ∀ w, K4 B g3 g4 g5 g7 w → (Instr.loadAt 33 (.pointer (some ⟨B, 0, none⟩))).run Tryz.prog w = .ok (.agg #[.int .i64 0, .int .i64 0]) w := fun w h => Kn.r w h.1
theorem K4.g {B g3 g4 g5 g7 : Nat} : ∀ w, K4 B g3 g4 g5 g7 w → (Instr.loadAt 35 (.pointer (some ⟨g7, 0, none⟩))).run Tryz.prog w = .ok (.agg #[.int .i64 1, .int .i64 1, .int .i64 0, .int .i64 0, .int .i64 1, .int .i32 0]) w := fun w h => h.2.load
def opk (c : Nat) : Nat := if c = 0 then 0 else c + 1
def Tk (s : Nat) : List (Nat × Nat) := (if s < 64 then [(opk (s / 8), s + 8)] else []) ++ (if s % 2 = 0 then [(9, s + 1)] else []) ++ (if s / 2 % 2 = 0 then [(10, s + 2)] else []) ++ (if s / 4 % 2 = 0 then [(11, s + 4)] else [])
def Lk (s : Nat) : List Bool := [decide (0 < s / 8), true, decide (1 < s / 8), decide (2 < s / 8), decide (3 < s / 8), decide (4 < s / 8), decide (5 < s / 8), decide (6 < s / 8), decide (7 < s / 8), decide (s % 2 = 1), decide (s / 2 % 2 = 1), decide (s / 4 % 2 = 1), false, false, false]
/-- What holds in a state of the region. -/
def KJ (w0 : World) (B s : Nat) (a : Act) (w : World) : Prop :=
  ∃ (u3 u4 u5 y0 y1 y2 y3 y4 y5 y6 y7 : Value) (g3 g4 g5 : Nat), a = { tmps := #[.bool false, .pointer (some ⟨B, 0, none⟩), .pointer (some ⟨B + 1, 0, none⟩), u3, u4, u5, undef, undef, .agg #[.int .i64 0, .int .i64 0], .agg #[.int .i64 0, .int .i64 0, .int .i64 0, .int .i64 0, .int .i64 0, .int .i32 0], y0, .agg #[.int .i64 0, .int .i64 0], y1, y2, y3, y4, y5, y6, y7, undef, undef, undef, undef, undef, undef, undef, undef, undef, undef, undef, undef, undef, undef, undef, undef, undef, undef, undef, undef, undef, undef, undef, undef, undef, undef, undef, undef, undef, undef, undef, undef, undef, undef, undef, undef, undef, undef, undef, undef, undef, undef, undef, undef, undef, undef, undef, undef, undef, undef, undef, undef, undef, undef, undef, undef, undef, undef, undef, undef, undef, undef, undef, undef, undef, undef, undef, undef, undef, undef, undef, undef, undef, undef, undef, undef, undef, undef, undef, undef, undef, undef, undef, undef, undef, undef, undef, undef, undef, undef, undef, undef, undef, undef, undef, undef, undef, undef, undef, undef, undef, undef, undef, undef, undef, undef, undef, undef, undef, undef, undef, undef, undef, undef, undef, undef, undef, undef, undef, undef, undef, undef, undef, undef, undef, undef, undef, undef, undef, undef, undef, undef, undef, undef, undef, undef, undef, undef, undef, undef, undef, undef, undef, undef, undef, undef, undef, undef, undef, undef, undef, undef, undef, undef, undef, undef, undef, undef, undef, undef, undef], defers := [] } ∧
    (Hid (0 < s / 8 → y0 = dv (1, 1)) ∧ Hid (1 < s / 8 → y1 = nv kA) ∧ Hid (2 < s / 8 → y2 = dv (2, 2)) ∧ Hid (3 < s / 8 → y3 = dv (1, 1)) ∧ Hid (4 < s / 8 → y4 = nv kB) ∧ Hid (5 < s / 8 → y5 = dv (1, 3)) ∧ Hid (6 < s / 8 → y6 = dv (9, 9)) ∧ Hid (7 < s / 8 → y7 = nv kC)) ∧ (Hid (s % 2 = 1 → u3 = .pointer (some ⟨g3, 0, none⟩) ∧ Zb w g3 ∧ B + 1 < g3) ∧ Hid (s / 2 % 2 = 1 → u4 = .pointer (some ⟨g4, 0, none⟩) ∧ Zb w g4 ∧ B + 1 < g4) ∧ Hid (s / 4 % 2 = 1 → u5 = .pointer (some ⟨g5, 0, none⟩) ∧ Zb w g5 ∧ B + 1 < g5)) ∧ (Hid (s % 2 = 1 → s / 2 % 2 = 1 → g3 ≠ g4) ∧ Hid (s % 2 = 1 → s / 4 % 2 = 1 → g3 ≠ g5) ∧ Hid (s / 2 % 2 = 1 → s / 4 % 2 = 1 → g4 ≠ g5)) ∧ Hid (Below w0.heap.size w0 w)
def codeAt : List Bool → Code → Code
  | [], c => c
  | false :: p, .seq x _ => codeAt p x
  | true :: p, .seq _ y => codeAt p y
  | _ :: _, c => c
end Go.Proofs.YtfpfihmihlmobaaGreat.Qs
end

/-
  The examples of the chapter: one statement's operations.
-/
section
namespace Go.Proofs.YtfpfihmihlmobaaGreat.Qs
set_option linter.unusedVariables false
open Go.RowKit V Go.Sort D Nd
attribute [local irreducible] Sch.heldN Sch.stepV Sch.stepE

def opsAt : Code → Array Oper
  | .region _ ops _ => ops
  | _ => #[]
set_option maxRecDepth 100000 in
set_option maxHeartbeats 8000000 in
theorem known_t6 (w w40 : World) (B g3 g4 g5 g7 r ba bd be : Nat) (u8 u9 u10 u11 u12 u13 u14 u15 u16 u17 u18 u19 u20 u21 u22 u23 u24 u25 u26 u27 u28 u29 u30 u31 u32 u33 u34 u35 u36 u37 u38 u39 u40 u41 u42 u43 u44 u45 u46 u47 u48 u49 u50 u51 u52 u53 u54 u55 u56 u57 u58 u59 u60 u61 u62 u63 u64 u65 u66 u67 u68 u69 u70 u71 u72 u73 u74 u76 u77 u78 u79 u80 u81 u82 u83 u84 u85 u86 u87 u88 u89 u90 u91 u92 u93 u94 u95 u96 u97 u98 u99 u100 u101 u102 u103 u104 u105 u106 u107 u108 u109 u110 u111 u112 u113 u114 u115 u117 u118 u119 u121 u122 u124 u125 u126 u127 u128 : Value) (Q : Exit → Act → World → Prop) (HK : Hid (Kn B g3 g4 g5 w40)) (HR : Hid (RowN w40 (some ⟨r, 0, none⟩) [kA, kB, kC])) (HB : Hid (Below w.heap.size w w40))
    (HA : Hid (RowN w40 (some ⟨ba, 0, none⟩) [kA, kB])) (HD : Hid (RowD w40 (some ⟨bd, 0, none⟩) [(2, 2), (2, 2)])) (HE : Hid (RowN w40 (some ⟨be, 0, none⟩) [kA, ((2, 2), (1, 1), 2, 0)]))
    (hQ : ∀ (v76 v77 v78 v79 v80 v81 v82 v83 v84 v85 v86 v87 v88 v89 v90 v91 v92 v93 v94 v95 v96 v97 v98 v99 v100 v101 v102 v103 v104 v105 v106 v107 v108 v109 v110 v111 v112 v113 v114 v115 v116 v117 v118 v119 v120 v121 v122 v123 v124 v125 v126 v127 v128 v129 v130 v131 v132 v133 v134 v135 v136 v137 v138 v139 v140 v141 : Value) (wx : World), Hid (Kn B g3 g4 g5 wx) → Hid (RowN wx (some ⟨r, 0, none⟩) [kA, kB, kC]) → Hid (Below w.heap.size w wx) → Q .normal { tmps := #[.bool false, .pointer (some ⟨B, 0, none⟩), .pointer (some ⟨B + 1, 0, none⟩), .pointer (some ⟨g3, 0, none⟩), .pointer (some ⟨g4, 0, none⟩), .pointer (some ⟨g5, 0, none⟩), .slice (some ⟨r, 0, none⟩) 3 3, .pointer (some ⟨g7, 0, none⟩), u8, u9, u10, u11, u12, u13, u14, u15, u16, u17, u18, u19, u20, u21, u22, u23, u24, u25, u26, u27, u28, u29, u30, u31, u32, u33, u34, u35, u36, u37, u38, u39, u40, u41, u42, u43, u44, u45, u46, u47, u48, u49, u50, u51, u52, u53, u54, u55, u56, u57, u58, u59, u60, u61, u62, u63, u64, u65, u66, u67, u68, u69, u70, u71, u72, u73, u74, .bool false, v76, v77, v78, v79, v80, v81, v82, v83, v84, v85, v86, v87, v88, v89, v90, v91, v92, v93, v94, v95, v96, v97, v98, v99, v100, v101, v102, v103, v104, v105, v106, v107, v108, v109, v110, v111, v112, v113, v114, v115, v116, v117, v118, v119, v120, v121, v122, v123, v124, v125, v126, v127, v128, v129, v130, v131, v132, v133, v134, v135, v136, v137, v138, v139, v140, v141, .bool false, undef, undef, undef, undef, undef, undef, undef, undef, undef, undef, undef, undef, undef, undef, undef, undef, undef, undef, undef, undef, undef, undef, undef, undef, undef, undef, undef, undef, undef, undef, undef, undef, undef, undef, undef, undef, undef], defers := [] } wx) : Sch.heldN Tryz.prog (opsAt (codeAt [true, true, true, true, true, false, false] (Tryz.f9.body.getD .skip))) (NoPanic Q) (Kn B g3 g4 g5) (.one 54 (.val 55 (.val 56 (.val 57 (.val 58 (.val 59 (.one 60 (.one 61 (.one 62 (.one 63 (.one 64 (.val 65 (.val 66 .done))))))))))))) { tmps := #[.bool false, .pointer (some ⟨B, 0, none⟩), .pointer (some ⟨B + 1, 0, none⟩), .pointer (some ⟨g3, 0, none⟩), .pointer (some ⟨g4, 0, none⟩), .pointer (some ⟨g5, 0, none⟩), .slice (some ⟨r, 0, none⟩) 3 3, .pointer (some ⟨g7, 0, none⟩), u8, u9, u10, u11, u12, u13, u14, u15, u16, u17, u18, u19, u20, u21, u22, u23, u24, u25, u26, u27, u28, u29, u30, u31, u32, u33, u34, u35, u36, u37, u38, u39, u40, u41, u42, u43, u44, u45, u46, u47, u48, u49, u50, u51, u52, u53, u54, u55, u56, u57, u58, u59, u60, u61, u62, u63, u64, u65, u66, u67, u68, u69, u70, u71, u72, u73, u74, .bool false, u76, u77, u78, u79, u80, u81, u82, u83, u84, u85, u86, u87, u88, u89, u90, u91, u92, u93, u94, u95, u96, u97, u98, u99, u100, u101, u102, u103, u104, u105, u106, u107, u108, u109, u110, u111, u112, u113, u114, u115, .bool false, u117, u118, u119, .slice (some ⟨ba, 0, none⟩) 2 2, u121, u122, .slice (some ⟨bd, 0, none⟩) 2 2, u124, u125, u126, u127, u128, .slice (some ⟨be, 0, none⟩) 2 2, undef, undef, undef, undef, undef, undef, undef, undef, undef, undef, undef, undef, undef, undef, undef, undef, undef, undef, undef, undef, undef, undef, undef, undef, undef, undef, undef, undef, undef, undef, undef, undef, undef, undef, undef, undef, undef, undef, undef, undef, undef, undef, undef, undef, undef, undef, undef, undef, undef, undef], defers := [] } w40 := by
  dsimp only [opsAt, codeAt, Tryz.f9, Option.getD]
  refine Sch.tn_e rfl rfl (fun K hK => ?_)
  go_wp2_with fail
  refine (kills_lit [kA, kB] [kA, ((2, 2), (1, 1), 2, 0)] [(2, 2), (2, 2)] 0 ex12 (by decide) (by decide) rfl rfl rfl HA.out (by intro h; cases h) HD.out HE.out (by decide) (by decide) (by decide)).mono ?_
  rintro e w301 ⟨rfl, hb⟩
  replace HK := Lib.hid (HK.out.keep hb)
  replace HR := Lib.hid (HR.out.keep hb)
  replace HA := Lib.hid (HA.out.keep hb)
  replace HD := Lib.hid (HD.out.keep hb)
  replace HE := Lib.hid (HE.out.keep hb)
  replace HB := bel_tr HB hb
  clear hb
  refine hK _ _ HK.out ?_
  clear hK K
  repeat (first
    | (refine Sch.tn_q rfl rfl rfl (fun K hK => ?_); go_big_quiet_op; (first | refine hK _ ?_ | refine ⟨_, fun _ _ => rfl, hK _ ?_⟩); clear hK K)
    | (refine Sch.tn_chk _ _ _ rfl rfl rfl rfl rfl ?_; simp only [Act.put, List.setIfInBounds_toArray, List.set_cons_zero, List.set_cons_succ])
    | (refine Sch.tn_load _ _ _ _ _ rfl rfl rfl rfl (by first | exact Kn.a | exact Kn.b | exact Kn.c | exact Kn.z | exact Kn.r) rfl ?_; simp only [Act.put, List.setIfInBounds_toArray, List.set_cons_zero, List.set_cons_succ]))
  clear HA
  clear HD
  clear HE
  refine Sch.tn_e rfl rfl (fun K hK => ?_)
  have hbn := bel_box w301 (.cells #[.int .i64 1, .int .i64 1, .int .i64 0, .int .i64 0, .int .i64 1, .int .i32 97, .int .i64 2, .int .i64 2, .int .i64 1, .int .i64 1, .int .i64 2, .int .i32 98] 35)
  replace HK := Lib.hid (HK.out.keep hbn)
  replace HR := Lib.hid (HR.out.keep hbn)
  replace HB := bel_tr HB hbn
  have HA := Lib.hid (RowN.lit w301 [kA, kB] #[.int .i64 1, .int .i64 1, .int .i64 0, .int .i64 0, .int .i64 1, .int .i32 97, .int .i64 2, .int .i64 2, .int .i64 1, .int .i64 1, .int .i64 2, .int .i32 98] 35 (0, 0) rfl)
  clear hbn
  go_wp2_with fail
  refine hK _ _ HK.out ?_
  clear hK K
  generalize w301.alloc (.cells #[.int .i64 1, .int .i64 1, .int .i64 0, .int .i64 0, .int .i64 1, .int .i32 97, .int .i64 2, .int .i64 2, .int .i64 1, .int .i64 1, .int .i64 2, .int .i32 98] 35) = w302 at *
  generalize w301.heap.size = a302 at *
  repeat (first
    | (refine Sch.tn_q rfl rfl rfl (fun K hK => ?_); go_big_quiet_op; (first | refine hK _ ?_ | refine ⟨_, fun _ _ => rfl, hK _ ?_⟩); clear hK K)
    | (refine Sch.tn_chk _ _ _ rfl rfl rfl rfl rfl ?_; simp only [Act.put, List.setIfInBounds_toArray, List.set_cons_zero, List.set_cons_succ])
    | (refine Sch.tn_load _ _ _ _ _ rfl rfl rfl rfl (by first | exact Kn.a | exact Kn.b | exact Kn.c | exact Kn.z | exact Kn.r) rfl ?_; simp only [Act.put, List.setIfInBounds_toArray, List.set_cons_zero, List.set_cons_succ]))
  refine Sch.tn_e rfl rfl (fun K hK => ?_)
  go_wp2_with fail
  refine (nodes_any _ _).mono ?_
  rintro e w303 ⟨rfl, rfl⟩
  refine hK _ _ HK.out ?_
  clear hK K
  repeat (first
    | (refine Sch.tn_q rfl rfl rfl (fun K hK => ?_); go_big_quiet_op; (first | refine hK _ ?_ | refine ⟨_, fun _ _ => rfl, hK _ ?_⟩); clear hK K)
    | (refine Sch.tn_chk _ _ _ rfl rfl rfl rfl rfl ?_; simp only [Act.put, List.setIfInBounds_toArray, List.set_cons_zero, List.set_cons_succ])
    | (refine Sch.tn_load _ _ _ _ _ rfl rfl rfl rfl (by first | exact Kn.a | exact Kn.b | exact Kn.c | exact Kn.z | exact Kn.r) rfl ?_; simp only [Act.put, List.setIfInBounds_toArray, List.set_cons_zero, List.set_cons_succ]))
  refine Sch.tn_e rfl rfl (fun K hK => ?_)
  go_wp2_with fail
  refine (at_any 1 3 _).mono ?_
  rintro e w304 ⟨rfl, hb⟩
  replace HK := Lib.hid (HK.out.keep hb)
  replace HR := Lib.hid (HR.out.keep hb)
  replace HA := Lib.hid (HA.out.keep hb)
  replace HB := bel_tr HB hb
  clear hb
  refine hK _ _ HK.out ?_
  clear hK K
  repeat (first
    | (refine Sch.tn_q rfl rfl rfl (fun K hK => ?_); go_big_quiet_op; (first | refine hK _ ?_ | refine ⟨_, fun _ _ => rfl, hK _ ?_⟩); clear hK K)
    | (refine Sch.tn_chk _ _ _ rfl rfl rfl rfl rfl ?_; simp only [Act.put, List.setIfInBounds_toArray, List.set_cons_zero, List.set_cons_succ])
    | (refine Sch.tn_load _ _ _ _ _ rfl rfl rfl rfl (by first | exact Kn.a | exact Kn.b | exact Kn.c | exact Kn.z | exact Kn.r) rfl ?_; simp only [Act.put, List.setIfInBounds_toArray, List.set_cons_zero, List.set_cons_succ]))
  refine Sch.tn_e rfl rfl (fun K hK => ?_)
  have hbn := bel_box w304 (.cells #[.int .i64 1, .int .i64 3] 33)
  replace HK := Lib.hid (HK.out.keep hbn)
  replace HR := Lib.hid (HR.out.keep hbn)
  replace HA := Lib.hid (HA.out.keep hbn)
  replace HB := bel_tr HB hbn
  have HD := Lib.hid (RowD.lit w304 [(1, 3)] #[.int .i64 1, .int .i64 3] 33 (0, 0) rfl)
  clear hbn
  go_wp2_with fail
  refine hK _ _ HK.out ?_
  clear hK K
  generalize w304.alloc (.cells #[.int .i64 1, .int .i64 3] 33) = w305 at *
  generalize w304.heap.size = a305 at *
  repeat (first
    | (refine Sch.tn_q rfl rfl rfl (fun K hK => ?_); go_big_quiet_op; (first | refine hK _ ?_ | refine ⟨_, fun _ _ => rfl, hK _ ?_⟩); clear hK K)
    | (refine Sch.tn_chk _ _ _ rfl rfl rfl rfl rfl ?_; simp only [Act.put, List.setIfInBounds_toArray, List.set_cons_zero, List.set_cons_succ])
    | (refine Sch.tn_load _ _ _ _ _ rfl rfl rfl rfl (by first | exact Kn.a | exact Kn.b | exact Kn.c | exact Kn.z | exact Kn.r) rfl ?_; simp only [Act.put, List.setIfInBounds_toArray, List.set_cons_zero, List.set_cons_succ]))
  refine Sch.tn_e rfl rfl (fun K hK => ?_)
  go_wp2_with fail
  refine (kills_lit [kA, kB] [] [(1, 3)] 9 ex13 (by decide) (by decide) rfl rfl rfl HA.out (by intro h; cases h) HD.out (RowN.nil _ _) (by decide) (by decide) (by decide)).mono ?_
  rintro e w306 ⟨rfl, hb⟩
  replace HK := Lib.hid (HK.out.keep hb)
  replace HR := Lib.hid (HR.out.keep hb)
  replace HA := Lib.hid (HA.out.keep hb)
  replace HD := Lib.hid (HD.out.keep hb)
  replace HB := bel_tr HB hb
  clear hb
  refine hK _ _ HK.out ?_
  clear hK K
  repeat (first
    | (refine Sch.tn_q rfl rfl rfl (fun K hK => ?_); go_big_quiet_op; (first | refine hK _ ?_ | refine ⟨_, fun _ _ => rfl, hK _ ?_⟩); clear hK K)
    | (refine Sch.tn_chk _ _ _ rfl rfl rfl rfl rfl ?_; simp only [Act.put, List.setIfInBounds_toArray, List.set_cons_zero, List.set_cons_succ])
    | (refine Sch.tn_load _ _ _ _ _ rfl rfl rfl rfl (by first | exact Kn.a | exact Kn.b | exact Kn.c | exact Kn.z | exact Kn.r) rfl ?_; simp only [Act.put, List.setIfInBounds_toArray, List.set_cons_zero, List.set_cons_succ]))
  clear HA
  clear HD
  refine Sch.tn_n ?_
  go_wp2_with fail
  refine hQ _ _ _ _ _ _ _ _ _ _ _ _ _ _ _ _ _ _ _ _ _ _ _ _ _ _ _ _ _ _ _ _ _ _ _ _ _ _ _ _ _ _ _ _ _ _ _ _ _ _ _ _ _ _ _ _ _ _ _ _ _ _ _ _ _ _ _ HK HR HB
end Go.Proofs.YtfpfihmihlmobaaGreat.Qs
end
