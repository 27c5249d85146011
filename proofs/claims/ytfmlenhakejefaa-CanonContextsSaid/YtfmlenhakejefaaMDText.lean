/-
  The text of a dot, plainly, and what is read as one.
-/
import Derived.Test.YtfmlenhakejefaaDPure
import Derived.Lib.ItoaNum
import Derived.Lib.ItoaMem

section
namespace Go.Proofs.Ytfmlenhakejefaa.D
set_option linter.unusedVariables false
open Go.Lib

def validR (d : Dt) : Bool := decide (0 < d.1) && decide (d.1 ≤ 64) && decide (0 < d.2) && decide (d.2 ≤ 4294967295)
theorem valid_iff {d : Dt} : validR d = true ↔ 0 < d.1 ∧ d.1 ≤ 64 ∧ 0 < d.2 ∧ d.2 ≤ 4294967295 := by
  unfold validR
  simp only [Bool.and_eq_true, decide_eq_true_eq]
  constructor
  · rintro ⟨⟨⟨h1, h2⟩, h3⟩, h4⟩; exact ⟨h1, h2, h3, h4⟩
  · rintro ⟨h1, h2, h3, h4⟩; exact ⟨⟨⟨h1, h2⟩, h3⟩, h4⟩
def rootR (d : Dt) : Bool := decide (d.1 = 0) && decide (d.2 = 0)
theorem root_iff {d : Dt} : rootR d = true ↔ d = (0, 0) := by
  unfold rootR
  simp only [Bool.and_eq_true, decide_eq_true_eq]
  exact ⟨fun ⟨h1, h2⟩ => Prod.ext h1 h2, fun h => by subst h; exact ⟨rfl, rfl⟩⟩
/-- Which dots have a text. -/
def named (d : Dt) : Prop := validR d = true ∨ rootR d = true
def rootT : List UInt8 := [114, 111, 111, 116]
def txtD (d : Dt) : List UInt8 := if rootR d = true then rootT else decDigits d.1.toNat ++ [46] ++ decDigits d.2.toNat

theorem dig_small {u : Nat} (h : u < 10) : decDigits u = [UInt8.ofNat (48 + u)] := by rw [decDigits, dif_pos h]
theorem dig_big {u : Nat} (h : ¬ u < 10) : decDigits u = decDigits (u / 10) ++ [UInt8.ofNat (48 + u % 10)] := by rw [decDigits, dif_neg h]
theorem dig_nat {d : Nat} (h : d < 10) : (UInt8.ofNat (48 + d)).toNat = 48 + d := by
  rw [UInt8.toNat_ofNat']
  exact Nat.mod_eq_of_lt (by omega)
theorem dig_ne (u : Nat) : decDigits u ≠ [] := by
  by_cases h : u < 10
  · rw [dig_small h]; simp
  · rw [dig_big h]; simp
/-- The first byte of digits is a digit. -/
theorem dig_first (u : Nat) : ∃ c t, decDigits u = c :: t ∧ 48 ≤ c.toNat ∧ c.toNat ≤ 57 := by
  induction u using Nat.strongRecOn with
  | _ u ih =>
    by_cases h : u < 10
    · exact ⟨_, [], dig_small h, by rw [dig_nat h]; omega, by rw [dig_nat h]; omega⟩
    · obtain ⟨c, t, he, h1, h2⟩ := ih (u / 10) (by omega)
      exact ⟨c, t ++ [UInt8.ofNat (48 + u % 10)], by rw [dig_big h, he]; rfl, h1, h2⟩

/-! ### Reading -/
/-- The reference's loop: two numbers, and which one is read. -/
def fP : Nat → Nat → Bool → List UInt8 → Option (Nat × Nat)
  | a, b, _, [] => some (a, b)
  | a, b, k, c :: t =>
    if 48 ≤ c.toNat ∧ c.toNat ≤ 57 then
      (if k = true then fP a (min 1099511627776 (10 * b + c.toNat - 48)) k t else fP (min 1099511627776 (10 * a + c.toNat - 48)) b k t)
    else if c.toNat = 46 ∧ k = false then fP a b true t else none
def prsD (l : List UInt8) : Option Dt :=
  if l = rootT then some (0, 0) else
  match fP 0 0 false l with
  | none => none
  | some (a, b) => if validR ((a : Int), (b : Int)) = true ∧ txtD ((a : Int), (b : Int)) = l then some ((a : Int), (b : Int)) else none
theorem fP_first (b : Nat) : ∀ (a : Nat) (t : List UInt8), a < 1099511627776 → fP 0 b false (decDigits a ++ t) = fP a b false t := by
  intro a
  induction a using Nat.strongRecOn with
  | _ a ih =>
    intro t ha
    by_cases h : a < 10
    · rw [dig_small h, List.singleton_append, fP, dig_nat h, if_pos (by omega), if_neg (by simp)]
      congr 1
      omega
    · rw [dig_big h, List.append_assoc, ih (a / 10) (by omega) _ (by omega), List.singleton_append, fP, dig_nat (Nat.mod_lt _ (by omega)), if_pos (by omega), if_neg (by simp)]
      congr 1
      omega
theorem fP_second (a : Nat) : ∀ (b : Nat) (t : List UInt8), b < 1099511627776 → fP a 0 true (decDigits b ++ t) = fP a b true t := by
  intro b
  induction b using Nat.strongRecOn with
  | _ b ih =>
    intro t hb
    by_cases h : b < 10
    · rw [dig_small h, List.singleton_append, fP, dig_nat h, if_pos (by omega), if_pos rfl]
      congr 1
      omega
    · rw [dig_big h, List.append_assoc, ih (b / 10) (by omega) _ (by omega), List.singleton_append, fP, dig_nat (Nat.mod_lt _ (by omega)), if_pos (by omega), if_pos rfl]
      congr 1
      omega
theorem fP_both (a b : Nat) (ha : a < 1099511627776) (hb : b < 1099511627776) : fP 0 0 false (decDigits a ++ [46] ++ decDigits b) = some (a, b) := by
  rw [List.append_assoc, fP_first 0 a _ ha, List.singleton_append, fP, if_neg (by decide), if_pos (by decide)]
  have := fP_second a b [] hb
  rw [List.append_nil] at this
  rw [this]
  rfl
theorem txt_root {d : Dt} (h : rootR d = true) : txtD d = rootT := by unfold txtD; rw [if_pos h]
theorem valid_not_root {d : Dt} (h : validR d = true) : rootR d = false := by
  rw [valid_iff] at h
  rw [← Bool.not_eq_true, root_iff]
  rintro rfl
  exact absurd h.1 (by omega)
theorem txt_valid {d : Dt} (h : validR d = true) : txtD d = decDigits d.1.toNat ++ [46] ++ decDigits d.2.toNat := by
  unfold txtD; rw [if_neg (by rw [valid_not_root h]; simp)]
theorem txt_ne_root {d : Dt} (h : validR d = true) : txtD d ≠ rootT := by
  rw [txt_valid h]
  obtain ⟨c, t, he, h1, h2⟩ := dig_first d.1.toNat
  rw [he]
  intro e
  have : c = 114 := by simpa [rootT] using congrArg List.head? e
  subst this
  exact absurd h2 (by decide)
theorem prs_txt {d : Dt} (h : named d) : prsD (txtD d) = some d := by
  rcases h with h | h
  · have hv := valid_iff.1 h
    unfold prsD
    rw [if_neg (txt_ne_root h), txt_valid h, fP_both _ _ (by omega) (by omega)]
    have e : (((d.1.toNat : Nat) : Int), ((d.2.toNat : Nat) : Int)) = d := Prod.ext (by show ((d.1.toNat : Nat) : Int) = d.1; omega) (by show ((d.2.toNat : Nat) : Int) = d.2; omega)
    simp only
    rw [e, if_pos ⟨h, txt_valid h⟩]
  · unfold prsD
    rw [txt_root h, if_pos rfl, root_iff.1 h]
theorem prs_back {l : List UInt8} {d : Dt} (h : prsD l = some d) : named d ∧ l = txtD d := by
  unfold prsD at h
  split at h
  · rename_i e
    cases h
    exact ⟨.inr rfl, by rw [e]; rfl⟩
  · split at h
    · cases h
    · split at h
      · rename_i hh
        cases h
        exact ⟨.inl hh.1, hh.2.symm⟩
      · cases h
theorem prs_none {l : List UInt8} (h : prsD l = none) : ∀ d, named d → l ≠ txtD d := by
  rintro d hd rfl
  rw [prs_txt hd] at h
  cases h
theorem txt_inj {d e : Dt} (hd : named d) (he : named e) (h : txtD d = txtD e) : d = e := by
  have h1 := prs_txt hd
  rw [h, prs_txt he] at h1
  exact (Option.some.inj h1).symm
end Go.Proofs.Ytfmlenhakejefaa.D
end

/-
  Version vectors, plainly.
-/
section
namespace Go.Proofs.Ytfmlenhakejefaa.E
set_option linter.unusedVariables false
open D

/-- In order of the replicas, each once. -/
def Inc (v : List Dt) : Prop := v.Pairwise fun a b => a.1 < b.1
def Vd (v : List Dt) : Prop := (∀ x ∈ v, validR x = true) ∧ Inc v
theorem vd_nil : Vd [] := ⟨fun x h => by simp at h, List.Pairwise.nil⟩
theorem vd_cons {a : Dt} {t : List Dt} : Vd (a :: t) ↔ validR a = true ∧ (∀ b ∈ t, a.1 < b.1) ∧ Vd t := by
  unfold Vd Inc
  rw [List.pairwise_cons]
  constructor
  · rintro ⟨h1, h2, h3⟩
    exact ⟨h1 a (by simp), h2, fun x hx => h1 x (by simp [hx]), h3⟩
  · rintro ⟨h1, h2, h3, h4⟩
    refine ⟨fun x hx => ?_, h2, h4⟩
    rcases List.mem_cons.1 hx with rfl | hx
    · exact h1
    · exact h3 x hx
/-- The reference's loop: each dot is valid, and its replica is greater than the one before. -/
def validV : List Dt → Bool
  | [] => true
  | [a] => validR a
  | a :: b :: t => validR a && decide (a.1 < b.1) && validV (b :: t)
theorem valid_vd : ∀ (v : List Dt), validV v = true ↔ Vd v
  | [] => ⟨fun _ => vd_nil, fun _ => rfl⟩
  | [a] => by
    rw [vd_cons]
    simp [validV, vd_nil]
  | a :: b :: t => by
    rw [vd_cons]
    simp only [validV, Bool.and_eq_true, decide_eq_true_eq]
    rw [valid_vd (b :: t)]
    constructor
    · rintro ⟨⟨h1, h2⟩, h3⟩
      refine ⟨h1, fun x hx => ?_, h3⟩
      rcases List.mem_cons.1 hx with rfl | hx
      · exact h2
      · have := (vd_cons.1 h3).2.1 x hx
        omega
    · rintro ⟨h1, h2, h3⟩
      exact ⟨⟨h1, h2 b (by simp)⟩, h3⟩
/-- The counter of a replica. -/
def getV : List Dt → Int → Int
  | [], _ => 0
  | a :: t, r => if a.1 = r then a.2 else getV t r
def hasV (v : List Dt) (d : Dt) : Bool := validR d && decide (d.2 ≤ getV v d.1)
theorem get_none : ∀ {v : List Dt} {r : Int}, (∀ x ∈ v, x.1 ≠ r) → getV v r = 0
  | [], _, _ => rfl
  | a :: t, r, h => by
    rw [getV, if_neg (h a (by simp)), get_none fun x hx => h x (by simp [hx])]
theorem get_some : ∀ {v : List Dt} {x : Dt}, Inc v → x ∈ v → getV v x.1 = x.2
  | a :: t, x, hv, hx => by
    unfold Inc at hv
    rw [List.pairwise_cons] at hv
    rcases List.mem_cons.1 hx with rfl | hx
    · rw [getV, if_pos rfl]
    · have := hv.1 x hx
      rw [getV, if_neg (by omega), get_some hv.2 hx]
theorem get_cases (v : List Dt) (r : Int) : (∀ x ∈ v, x.1 ≠ r) ∨ ∃ x ∈ v, x.1 = r := by
  by_cases h : ∃ x ∈ v, x.1 = r
  · exact .inr h
  · exact .inl fun x hx e => h ⟨x, hx, e⟩
theorem get_ge {v : List Dt} (hv : Vd v) (r : Int) : 0 ≤ getV v r := by
  rcases get_cases v r with h | ⟨x, hx, rfl⟩
  · rw [get_none h]; exact Int.le_refl _
  · rw [get_some hv.2 hx]
    have := valid_iff.1 (hv.1 x hx)
    omega
theorem get_pos {v : List Dt} (hv : Vd v) {r : Int} (h : 0 < getV v r) : (r, getV v r) ∈ v := by
  rcases get_cases v r with h2 | ⟨x, hx, rfl⟩
  · rw [get_none h2] at h; omega
  · rw [get_some hv.2 hx]; exact hx
theorem get_mem {v : List Dt} (hv : Vd v) {x : Dt} : x ∈ v ↔ 0 < x.2 ∧ getV v x.1 = x.2 := by
  constructor
  · intro hx
    have := valid_iff.1 (hv.1 x hx)
    exact ⟨by omega, get_some hv.2 hx⟩
  · rintro ⟨h1, h2⟩
    have := get_pos hv (r := x.1) (by omega)
    rw [h2] at this
    exact this

/-- Two vectors with the same counters are one. -/
theorem inc_ext : ∀ {l m : List Dt}, Inc l → Inc m → (∀ x, x ∈ l ↔ x ∈ m) → l = m
  | [], [], _, _, _ => rfl
  | [], b :: m, _, _, h => absurd ((h b).2 (by simp)) (by simp)
  | a :: l, [], _, _, h => absurd ((h a).1 (by simp)) (by simp)
  | a :: l, b :: m, hl, hm, h => by
    unfold Inc at hl hm
    rw [List.pairwise_cons] at hl hm
    have hab : a = b := by
      rcases List.mem_cons.1 ((h a).1 (by simp)) with e | e
      · exact e
      · rcases List.mem_cons.1 ((h b).2 (by simp)) with e2 | e2
        · exact e2.symm
        · have h1 := hm.1 a e
          have h2 := hl.1 b e2
          omega
    subst hab
    congr 1
    refine inc_ext hl.2 hm.2 fun x => ?_
    constructor
    · intro hx
      rcases List.mem_cons.1 ((h x).1 (by simp [hx])) with e | e
      · subst e; have := hl.1 x hx; omega
      · exact e
    · intro hx
      rcases List.mem_cons.1 ((h x).2 (by simp [hx])) with e | e
      · subst e; have := hm.1 x hx; omega
      · exact e
theorem vd_ext {l m : List Dt} (hl : Vd l) (hm : Vd m) (h : ∀ r, getV l r = getV m r) : l = m :=
  inc_ext hl.2 hm.2 fun x => by rw [get_mem hl, get_mem hm, h]

/-! ### One more dot -/
/-- The reference's loop. -/
def raiseW (d : Dt) : Bool → List Dt → List Dt
  | done, [] => if done = true then [] else [d]
  | done, x :: t =>
    (if done = false ∧ d.1 ≤ x.1 then [d] else []) ++ (if x.1 ≠ d.1 then [x] else []) ++ raiseW d (done || decide (d.1 ≤ x.1)) t
def raiseR (v : List Dt) (d : Dt) : List Dt := if hasV v d = true then v else raiseW d false v
theorem raise_done : ∀ {v : List Dt} {d : Dt}, (∀ x ∈ v, d.1 < x.1) → raiseW d true v = v
  | [], _, _ => rfl
  | x :: t, d, h => by
    have := h x (by simp)
    rw [raiseW, if_neg (by simp), if_pos (by omega), Bool.true_or, raise_done fun y hy => h y (by simp [hy])]
    rfl
theorem raise_mem : ∀ {v : List Dt} {d : Dt}, Inc v → ∀ x, x ∈ raiseW d false v ↔ x = d ∨ (x ∈ v ∧ x.1 ≠ d.1)
  | [], d, _, x => by simp [raiseW]
  | y :: t, d, hv, x => by
    unfold Inc at hv
    rw [List.pairwise_cons] at hv
    rw [raiseW]
    by_cases h : d.1 ≤ y.1
    · rw [if_pos ⟨rfl, h⟩, Bool.false_or, decide_eq_true h, raise_done fun z hz => by have := hv.1 z hz; omega]
      by_cases e : y.1 = d.1
      · rw [if_neg (by simp [e])]
        simp only [List.append_nil, List.cons_append, List.nil_append, List.mem_cons]
        constructor
        · rintro (h1 | h1)
          · exact .inl h1
          · have := hv.1 x h1
            exact .inr ⟨.inr h1, by omega⟩
        · rintro (h1 | ⟨rfl | h1, h2⟩)
          · exact .inl h1
          · exact absurd e h2
          · exact .inr h1
      · rw [if_pos e]
        simp only [List.cons_append, List.nil_append, List.mem_cons]
        constructor
        · rintro (h1 | rfl | h1)
          · exact .inl h1
          · exact .inr ⟨.inl rfl, e⟩
          · have := hv.1 x h1
            exact .inr ⟨.inr h1, by omega⟩
        · rintro (h1 | ⟨h1, -⟩)
          · exact .inl h1
          · exact .inr h1
    · rw [if_neg (fun hh => h hh.2), if_pos (by omega), Bool.false_or, decide_eq_false h]
      simp only [List.nil_append, List.cons_append, List.mem_cons]
      rw [raise_mem hv.2 x]
      constructor
      · rintro (rfl | h1 | ⟨h1, h2⟩)
        · exact .inr ⟨.inl rfl, by omega⟩
        · exact .inl h1
        · exact .inr ⟨.inr h1, h2⟩
      · rintro (h1 | ⟨h1 | h1, h2⟩)
        · exact .inr (.inl h1)
        · exact .inl h1
        · exact .inr (.inr ⟨h1, h2⟩)
theorem raise_inc : ∀ {v : List Dt} {d : Dt}, Inc v → Inc (raiseW d false v)
  | [], d, _ => by simp [raiseW, Inc]
  | y :: t, d, hv => by
    have hv0 := hv
    unfold Inc at hv
    rw [List.pairwise_cons] at hv
    rw [raiseW]
    by_cases h : d.1 ≤ y.1
    · rw [if_pos ⟨rfl, h⟩, Bool.false_or, decide_eq_true h, raise_done fun z hz => by have := hv.1 z hz; omega]
      unfold Inc
      by_cases e : y.1 = d.1
      · rw [if_neg (by simp [e])]
        simp only [List.append_nil, List.cons_append, List.nil_append, List.pairwise_cons]
        exact ⟨fun z hz => by have := hv.1 z hz; omega, hv.2⟩
      · rw [if_pos e]
        simp only [List.cons_append, List.nil_append, List.pairwise_cons]
        refine ⟨fun z hz => ?_, hv.1, hv.2⟩
        rcases List.mem_cons.1 hz with rfl | hz
        · omega
        · have := hv.1 z hz; omega
    · rw [if_neg (fun hh => h hh.2), if_pos (by omega), Bool.false_or, decide_eq_false h]
      unfold Inc
      simp only [List.nil_append, List.cons_append, List.pairwise_cons]
      refine ⟨fun z hz => ?_, raise_inc hv.2⟩
      rcases (raise_mem hv.2 z).1 hz with rfl | ⟨h1, -⟩
      · omega
      · exact hv.1 z h1
theorem raise_vd {v : List Dt} {d : Dt} (hv : Vd v) (hd : validR d = true) : Vd (raiseR v d) := by
  unfold raiseR
  split
  · exact hv
  · refine ⟨fun x hx => ?_, raise_inc hv.2⟩
    rcases (raise_mem hv.2 x).1 hx with rfl | ⟨h1, -⟩
    · exact hd
    · exact hv.1 x h1
theorem raise_get {v : List Dt} {d : Dt} (hv : Vd v) (hd : validR d = true) (r : Int) : getV (raiseR v d) r = if r = d.1 then max (getV v r) d.2 else getV v r := by
  have hR := raise_vd hv hd
  unfold raiseR at hR ⊢
  by_cases h : hasV v d = true
  · rw [if_pos h]
    split
    · rename_i e
      subst e
      unfold hasV at h
      simp only [Bool.and_eq_true, decide_eq_true_eq] at h
      omega
    · rfl
  · rw [if_neg h] at hR ⊢
    have hlt : getV v d.1 < d.2 := by
      unfold hasV at h
      simp only [Bool.and_eq_true, decide_eq_true_eq, not_and] at h
      have := h hd
      omega
    split
    · rename_i e
      subst e
      have hm : d ∈ raiseW d false v := (raise_mem hv.2 d).2 (.inl rfl)
      rw [get_some hR.2 hm]
      omega
    · rename_i e
      rcases get_cases v r with h1 | ⟨x, hx, rfl⟩
      · rw [get_none h1, get_none]
        intro y hy
        rcases (raise_mem hv.2 y).1 hy with rfl | ⟨h2, -⟩
        · exact fun h => e h.symm
        · exact h1 y h2
      · rw [get_some hv.2 hx, get_some hR.2 ((raise_mem hv.2 x).2 (.inr ⟨hx, e⟩))]

/-! ### Merging -/
def mergeR (a b : List Dt) : List Dt := b.foldl raiseR a
theorem merge_both : ∀ {b a : List Dt}, Vd a → (∀ x ∈ b, validR x = true) → Vd (mergeR a b) ∧ ∀ r, getV (mergeR a b) r = b.foldl (fun n d => if r = d.1 then max n d.2 else n) (getV a r)
  | [], a, ha, _ => ⟨ha, fun _ => rfl⟩
  | d :: t, a, ha, hb => by
    have h1 := raise_vd ha (hb d (by simp))
    obtain ⟨h2, h3⟩ := merge_both (b := t) (a := raiseR a d) h1 (fun x hx => hb x (by simp [hx]))
    refine ⟨h2, fun r => ?_⟩
    have := h3 r
    rw [raise_get ha (hb d (by simp))] at this
    exact this
theorem fold_max (r : Int) : ∀ {b : List Dt} (n : Int), Inc b → (∀ x ∈ b, 0 < x.2) → 0 ≤ n → b.foldl (fun n d => if r = d.1 then max n d.2 else n) n = max n (getV b r)
  | [], n, _, _, hn => by
    show n = max n 0
    omega
  | d :: t, n, hb, hp, hn => by
    unfold Inc at hb
    rw [List.pairwise_cons] at hb
    rw [List.foldl_cons, getV]
    by_cases e : r = d.1
    · rw [if_pos e, if_pos e.symm, fold_max r _ hb.2 (fun x hx => hp x (by simp [hx])) (by omega), get_none fun x hx => by have := hb.1 x hx; omega]
      have := hp d (by simp)
      omega
    · rw [if_neg e, if_neg (fun h => e h.symm), fold_max r _ hb.2 (fun x hx => hp x (by simp [hx])) hn]
theorem merge_vd {a b : List Dt} (ha : Vd a) (hb : Vd b) : Vd (mergeR a b) := (merge_both ha hb.1).1
theorem merge_get {a b : List Dt} (ha : Vd a) (hb : Vd b) (r : Int) : getV (mergeR a b) r = max (getV a r) (getV b r) := by
  rw [(merge_both ha hb.1).2 r]
  exact fold_max r _ hb.2 (fun x hx => by have := valid_iff.1 (hb.1 x hx); omega) (get_ge ha r)
/-- What is valid and has the counters of a merge is the merge. -/
theorem merge_eq {a b m : List Dt} (ha : Vd a) (hb : Vd b) (hm : Vd m) (h : ∀ r, getV m r = max (getV a r) (getV b r)) : m = mergeR a b :=
  vd_ext hm (merge_vd ha hb) fun r => by rw [h, merge_get ha hb]
theorem merge_comm {a b : List Dt} (ha : Vd a) (hb : Vd b) : mergeR a b = mergeR b a := merge_eq hb ha (merge_vd ha hb) fun r => by rw [merge_get ha hb]; omega
theorem merge_self {a : List Dt} (ha : Vd a) : mergeR a a = a := (merge_eq ha ha ha fun r => by omega).symm
theorem merge_assoc {a b c : List Dt} (ha : Vd a) (hb : Vd b) (hc : Vd c) : mergeR (mergeR a b) c = mergeR a (mergeR b c) :=
  merge_eq ha (merge_vd hb hc) (merge_vd (merge_vd ha hb) hc) fun r => by rw [merge_get (merge_vd ha hb) hc, merge_get ha hb, merge_get hb hc]; omega
theorem has_merge {a b : List Dt} (ha : Vd a) (hb : Vd b) (d : Dt) : hasV (mergeR a b) d = (hasV a d || hasV b d) := by
  unfold hasV
  rw [merge_get ha hb]
  rcases validR d with _ | _
  · rfl
  · simp only [Bool.true_and, ← Bool.decide_or]
    apply decide_eq_decide.2
    omega
/-- The vector of some dots. -/
def ofR (l : List Dt) : List Dt := mergeR [] l
theorem of_vd {l : List Dt} (hl : ∀ x ∈ l, validR x = true) : Vd (ofR l) := (merge_both vd_nil hl).1

/-! ### Order -/
def withinV (a b : List Dt) : Bool := a.all fun d => hasV b d
theorem within_iff {a b : List Dt} (ha : Vd a) (hb : Vd b) : withinV a b = true ↔ ∀ r, getV a r ≤ getV b r := by
  unfold withinV
  rw [List.all_eq_true]
  constructor
  · intro h r
    rcases get_cases a r with h1 | ⟨x, hx, rfl⟩
    · rw [get_none h1]; exact get_ge hb r
    · have := h x hx
      unfold hasV at this
      simp only [Bool.and_eq_true, decide_eq_true_eq] at this
      rw [get_some ha.2 hx]
      exact this.2
  · intro h x hx
    unfold hasV
    rw [ha.1 x hx, Bool.true_and, decide_eq_true_eq, ← get_some ha.2 hx]
    exact h x.1
def orderR (a b : List Dt) : Int := if withinV a b = true then (if withinV b a = true then 0 else -1) else if withinV b a = true then 1 else 2
theorem order_zero {a b : List Dt} (ha : Vd a) (hb : Vd b) : orderR a b = 0 ↔ a = b := by
  unfold orderR
  constructor
  · intro h
    by_cases h1 : withinV a b = true
    · rw [if_pos h1] at h
      by_cases h2 : withinV b a = true
      · rw [within_iff ha hb] at h1
        rw [within_iff hb ha] at h2
        exact vd_ext ha hb fun r => by have := h1 r; have := h2 r; omega
      · rw [if_neg h2] at h; omega
    · rw [if_neg h1] at h
      split at h <;> omega
  · rintro rfl
    have : withinV a a = true := (within_iff ha ha).2 fun r => Int.le_refl _
    rw [if_pos this, if_pos this]
theorem order_merge {a b : List Dt} (ha : Vd a) (hb : Vd b) : orderR a (mergeR a b) = 0 ∨ orderR a (mergeR a b) = -1 := by
  have h : withinV a (mergeR a b) = true := (within_iff ha (merge_vd ha hb)).2 fun r => by rw [merge_get ha hb]; omega
  unfold orderR
  rw [if_pos h]
  split
  · exact .inl rfl
  · exact .inr rfl
end Go.Proofs.Ytfmlenhakejefaa.E
end

/-
  Causal contexts, plainly: a vector and a cloud.
-/
section
namespace Go.Proofs.Ytfmlenhakejefaa.F
set_option linter.unusedVariables false
open D E

abbrev Ct := List Dt × List Dt
def validC (c : Ct) : Bool := validV c.1 && isSetR c.2 && c.2.all validR
def Vc (c : Ct) : Prop := Vd c.1 ∧ Srt c.2 ∧ ∀ x ∈ c.2, validR x = true
theorem valid_vc (c : Ct) : validC c = true ↔ Vc c := by
  unfold validC Vc
  simp only [Bool.and_eq_true, List.all_eq_true]
  rw [valid_vd, isSet_iff, and_assoc]
/-- Whether a dot is in a context. -/
def hasC (c : Ct) (d : Dt) : Bool := validR d && (hasV c.1 d || decide (d ∈ c.2))
theorem hasC_iff {c : Ct} {d : Dt} : hasC c d = true ↔ validR d = true ∧ (hasV c.1 d = true ∨ d ∈ c.2) := by
  unfold hasC
  simp only [Bool.and_eq_true, Bool.or_eq_true, decide_eq_true_eq]
theorem hasV_iff {v : List Dt} {d : Dt} : hasV v d = true ↔ validR d = true ∧ d.2 ≤ getV v d.1 := by
  unfold hasV
  simp only [Bool.and_eq_true, decide_eq_true_eq]
/-- In the vector, or directly behind it. -/
def nearC (v : List Dt) (d : Dt) : Bool := hasV v d || decide (d.2 = getV v d.1 + 1)
theorem near_no {v : List Dt} {d : Dt} (hd : validR d = true) : nearC v d = false ↔ getV v d.1 + 1 < d.2 := by
  unfold nearC hasV
  rw [hd, Bool.true_and]
  constructor
  · intro h
    simp only [Bool.or_eq_false_iff, decide_eq_false_iff_not] at h
    omega
  · intro h
    simp only [Bool.or_eq_false_iff, decide_eq_false_iff_not]
    omega
def isCompR (c : Ct) : Bool := (c.2.all fun d => !nearC c.1 d) && validC c
theorem comp_iff {c : Ct} : isCompR c = true ↔ Vc c ∧ ∀ x ∈ c.2, getV c.1 x.1 + 1 < x.2 := by
  unfold isCompR
  rw [Bool.and_eq_true, valid_vc, List.all_eq_true]
  constructor
  · rintro ⟨h1, h2⟩
    exact ⟨h2, fun x hx => (near_no (h2.2.2 x hx)).1 (by have := h1 x hx; simpa using this)⟩
  · rintro ⟨h1, h2⟩
    exact ⟨fun x hx => by rw [(near_no (h1.2.2 x hx)).2 (h2 x hx)]; rfl, h1⟩

/-! ### Compaction: one pass -/
/-- A pass over the cloud: the vector, what stays, what is still to come. -/
def passR : List Dt → List Dt → List Dt → Ct
  | v, rest, [] => (v, rest)
  | v, rest, d :: t =>
    if hasV v d = true then passR v rest t else if d.2 = getV v d.1 + 1 then passR (raiseR v d) rest t else passR v (rest ++ [d]) t
theorem raise_next {v : List Dt} {d : Dt} (hv : Vd v) (hd : validR d = true) (e : d.2 = getV v d.1 + 1) (x : Dt) : hasV (raiseR v d) x = true ↔ hasV v x = true ∨ x = d := by
  rw [hasV_iff, hasV_iff, raise_get hv hd]
  by_cases h : x.1 = d.1
  · rw [if_pos h]
    constructor
    · rintro ⟨h1, h2⟩
      by_cases h3 : x.2 ≤ getV v x.1
      · exact .inl ⟨h1, h3⟩
      · refine .inr (Prod.ext h ?_)
        rw [h] at h2 h3
        omega
    · rintro (⟨h1, h2⟩ | rfl)
      · exact ⟨h1, by omega⟩
      · exact ⟨hd, by omega⟩
  · rw [if_neg h]
    constructor
    · exact .inl
    · rintro (h1 | rfl)
      · exact h1
      · exact absurd rfl h
theorem pass_all : ∀ (cl v rest : List Dt), Vd v → Srt (rest ++ cl) → (∀ x ∈ rest ++ cl, validR x = true) → (∀ x ∈ rest, getV v x.1 + 1 < x.2) →
    Vc (passR v rest cl) ∧ (∀ x ∈ (passR v rest cl).2, getV (passR v rest cl).1 x.1 + 1 < x.2) ∧ ∀ x, hasC (passR v rest cl) x = true ↔ validR x = true ∧ (hasV v x = true ∨ x ∈ rest ∨ x ∈ cl)
  | [], v, rest, hv, hs, hd, hf => by
    rw [List.append_nil] at hs hd
    refine ⟨⟨hv, hs, hd⟩, hf, fun x => ?_⟩
    rw [hasC_iff]
    simp [passR]
  | d :: t, v, rest, hv, hs, hd, hf => by
    have hdv := hd d (by simp)
    have hs2 : Srt (rest ++ t) := by
      unfold Srt at hs ⊢
      rw [List.pairwise_append] at hs ⊢
      refine ⟨hs.1, (List.pairwise_cons.1 hs.2.1).2, fun a ha b hb => hs.2.2 a ha b (by simp [hb])⟩
    have hd2 : ∀ x ∈ rest ++ t, validR x = true := fun x hx => hd x (by
      rcases List.mem_append.1 hx with h | h
      · simp [h]
      · simp [h])
    by_cases h1 : hasV v d = true
    · obtain ⟨k1, k2, k3⟩ := pass_all t v rest hv hs2 hd2 hf
      rw [passR, if_pos h1]
      refine ⟨k1, k2, fun x => (k3 x).trans ?_⟩
      constructor
      · rintro ⟨a, b | b | b⟩
        · exact ⟨a, .inl b⟩
        · exact ⟨a, .inr (.inl b)⟩
        · exact ⟨a, .inr (.inr (by simp [b]))⟩
      · rintro ⟨a, b | b | b⟩
        · exact ⟨a, .inl b⟩
        · exact ⟨a, .inr (.inl b)⟩
        · rcases List.mem_cons.1 b with rfl | b
          · exact ⟨a, .inl h1⟩
          · exact ⟨a, .inr (.inr b)⟩
    · by_cases h2 : d.2 = getV v d.1 + 1
      · -- nothing of this replica is left behind
        have hno : ∀ x ∈ rest, x.1 ≠ d.1 := fun x hx e => by
          have h3 := hf x hx
          have h4 : less x d = true := by
            unfold Srt at hs
            rw [List.pairwise_append] at hs
            exact hs.2.2 x hx d (by simp)
          rw [less_iff] at h4
          rw [e] at h3
          omega
        obtain ⟨k1, k2, k3⟩ := pass_all t (raiseR v d) rest (raise_vd hv hdv) hs2 hd2 fun x hx => by
          rw [raise_get hv hdv, if_neg (hno x hx)]
          exact hf x hx
        rw [passR, if_neg h1, if_pos h2]
        refine ⟨k1, k2, fun x => (k3 x).trans ?_⟩
        rw [raise_next hv hdv h2]
        constructor
        · rintro ⟨a, (b | rfl) | b | b⟩
          · exact ⟨a, .inl b⟩
          · exact ⟨a, .inr (.inr (by simp))⟩
          · exact ⟨a, .inr (.inl b)⟩
          · exact ⟨a, .inr (.inr (by simp [b]))⟩
        · rintro ⟨a, b | b | b⟩
          · exact ⟨a, .inl (.inl b)⟩
          · exact ⟨a, .inr (.inl b)⟩
          · rcases List.mem_cons.1 b with rfl | b
            · exact ⟨a, .inl (.inr rfl)⟩
            · exact ⟨a, .inr (.inr b)⟩
      · have hfar : getV v d.1 + 1 < d.2 := by
          rw [hasV_iff] at h1
          have : ¬ d.2 ≤ getV v d.1 := fun h => h1 ⟨hdv, h⟩
          omega
        obtain ⟨k1, k2, k3⟩ := pass_all t v (rest ++ [d]) hv (by simpa using hs) (by simpa using hd) fun x hx => by
          rcases List.mem_append.1 hx with h | h
          · exact hf x h
          · rw [List.mem_singleton.1 h]; exact hfar
        rw [passR, if_neg h1, if_neg h2]
        refine ⟨k1, k2, fun x => (k3 x).trans ?_⟩
        simp only [List.mem_append, List.mem_cons, List.not_mem_nil, or_assoc, false_or]
def compC (c : Ct) : Ct := passR c.1 [] c.2
theorem comp_ok {c : Ct} (hc : Vc c) : isCompR (compC c) = true ∧ ∀ x, hasC (compC c) x = hasC c x := by
  obtain ⟨k1, k2, k3⟩ := pass_all c.2 c.1 [] hc.1 hc.2.1 hc.2.2 (fun x h => by simp at h)
  refine ⟨comp_iff.2 ⟨k1, k2⟩, fun x => ?_⟩
  rw [Bool.eq_iff_iff]
  refine (k3 x).trans ?_
  rw [hasC_iff]
  simp
theorem comp_vc {c : Ct} (hc : Vc c) : Vc (compC c) := (comp_iff.1 (comp_ok hc).1).1
/-- There is one compact context with these dots. -/
theorem comp_get {a b : Ct} (ha : isCompR a = true) (hb : isCompR b = true) (h : ∀ x, hasC a x = true → hasC b x = true) (r : Int) : getV a.1 r ≤ getV b.1 r := by
  obtain ⟨a1, a2⟩ := comp_iff.1 ha
  obtain ⟨b1, b2⟩ := comp_iff.1 hb
  rcases Int.lt_or_le (getV b.1 r) (getV a.1 r) with hlt | hle
  · -- the dot behind b's beginning is in a's
    have hp := get_pos a1.1 (r := r) (by have := get_ge b1.1 r; omega)
    have hv := valid_iff.1 (a1.1.1 _ hp)
    have hge := get_ge b1.1 r
    have hx : validR (r, getV b.1 r + 1) = true := valid_iff.2 ⟨hv.1, hv.2.1, by show 0 < getV b.1 r + 1; omega, by show getV b.1 r + 1 ≤ 4294967295; have := hv.2.2.2; show _; simp only at this; omega⟩
    have hin : hasC a (r, getV b.1 r + 1) = true := hasC_iff.2 ⟨hx, .inl (hasV_iff.2 ⟨hx, by show getV b.1 r + 1 ≤ getV a.1 r; omega⟩)⟩
    rcases (hasC_iff.1 (h _ hin)).2 with k | k
    · have := (hasV_iff.1 k).2
      simp only at this
      omega
    · have := b2 _ k
      simp only at this
      omega
  · exact hle
theorem comp_uniq {a b : Ct} (ha : isCompR a = true) (hb : isCompR b = true) (h : ∀ x, hasC a x = hasC b x) : a = b := by
  obtain ⟨a1, a2⟩ := comp_iff.1 ha
  obtain ⟨b1, b2⟩ := comp_iff.1 hb
  have hv : a.1 = b.1 := vd_ext a1.1 b1.1 fun r => by
    have h1 := comp_get ha hb (fun x hx => by rw [← h]; exact hx) r
    have h2 := comp_get hb ha (fun x hx => by rw [h]; exact hx) r
    omega
  refine Prod.ext hv (srt_ext a1.2.1 b1.2.1 fun x => ?_)
  have key : ∀ {p q : Ct}, (Vc p ∧ ∀ x ∈ p.2, getV p.1 x.1 + 1 < x.2) → p.1 = q.1 → (∀ x, hasC p x = true → hasC q x = true) → x ∈ p.2 → x ∈ q.2 := by
    rintro p q ⟨p1, p2⟩ e hh hx
    have hxv := p1.2.2 x hx
    rcases (hasC_iff.1 (hh x (hasC_iff.2 ⟨hxv, .inr hx⟩))).2 with k | k
    · have h1 := (hasV_iff.1 k).2
      have h2 := p2 x hx
      rw [e] at h2
      omega
    · exact k
  exact ⟨key ⟨a1, a2⟩ hv (fun y hy => by rw [← h]; exact hy), key ⟨b1, b2⟩ hv.symm (fun y hy => by rw [h]; exact hy)⟩
theorem comp_self {c : Ct} (hc : isCompR c = true) : compC c = c := comp_uniq (comp_ok (comp_iff.1 hc).1).1 hc (comp_ok (comp_iff.1 hc).1).2
/-- Whatever is compact and has these dots is what Compact returns. -/
theorem comp_eq {c m : Ct} (hc : Vc c) (hm : isCompR m = true) (h : ∀ x, hasC m x = hasC c x) : m = compC c := comp_uniq hm (comp_ok hc).1 fun x => by rw [h, (comp_ok hc).2]
theorem comp_same {a b : Ct} (ha : Vc a) (hb : Vc b) : compC a = compC b ↔ ∀ x, hasC a x = hasC b x := by
  constructor
  · intro h x
    rw [← (comp_ok ha).2, ← (comp_ok hb).2, h]
  · intro h
    exact comp_uniq (comp_ok ha).1 (comp_ok hb).1 fun x => by rw [(comp_ok ha).2, (comp_ok hb).2, h]

/-! ### Union, more dots, within -/
def unionC (a b : Ct) : Ct := compC (mergeR a.1 b.1, unionR a.2 b.2)
theorem union_pre {a b : Ct} (ha : Vc a) (hb : Vc b) : Vc (mergeR a.1 b.1, unionR a.2 b.2) := ⟨merge_vd ha.1 hb.1, srt_union _ _, fun x hx => by
  rcases mem_union.1 hx with h | h
  · exact ha.2.2 x h
  · exact hb.2.2 x h⟩
theorem union_has {a b : Ct} (ha : Vc a) (hb : Vc b) (x : Dt) : hasC (unionC a b) x = (hasC a x || hasC b x) := by
  unfold unionC
  rw [(comp_ok (union_pre ha hb)).2, Bool.eq_iff_iff, Bool.or_eq_true, hasC_iff, hasC_iff, hasC_iff]
  simp only [has_merge ha.1 hb.1, Bool.or_eq_true, mem_union]
  constructor
  · rintro ⟨h, (k | k) | k | k⟩
    · exact .inl ⟨h, .inl k⟩
    · exact .inr ⟨h, .inl k⟩
    · exact .inl ⟨h, .inr k⟩
    · exact .inr ⟨h, .inr k⟩
  · rintro (⟨h, k | k⟩ | ⟨h, k | k⟩)
    · exact ⟨h, .inl (.inl k)⟩
    · exact ⟨h, .inr (.inl k)⟩
    · exact ⟨h, .inl (.inr k)⟩
    · exact ⟨h, .inr (.inr k)⟩
theorem union_comp {a b : Ct} (ha : Vc a) (hb : Vc b) : isCompR (unionC a b) = true := (comp_ok (union_pre ha hb)).1
theorem union_vc {a b : Ct} (ha : Vc a) (hb : Vc b) : Vc (unionC a b) := (comp_iff.1 (union_comp ha hb)).1
theorem union_comm {a b : Ct} (ha : Vc a) (hb : Vc b) : unionC a b = unionC b a :=
  comp_uniq (union_comp ha hb) (union_comp hb ha) fun x => by rw [union_has ha hb, union_has hb ha, Bool.or_comm]
theorem union_assoc {a b c : Ct} (ha : Vc a) (hb : Vc b) (hc : Vc c) : unionC (unionC a b) c = unionC a (unionC b c) :=
  comp_uniq (union_comp (union_vc ha hb) hc) (union_comp ha (union_vc hb hc)) fun x => by
    rw [union_has (union_vc ha hb) hc, union_has ha hb, union_has ha (union_vc hb hc), union_has hb hc, Bool.or_assoc]
def addC (c : Ct) (l : List Dt) : Ct := compC (c.1, unionR c.2 l)
theorem add_pre {c : Ct} {l : List Dt} (hc : Vc c) (hl : ∀ x ∈ l, validR x = true) : Vc (c.1, unionR c.2 l) := ⟨hc.1, srt_union _ _, fun x hx => by
  rcases mem_union.1 hx with h | h
  · exact hc.2.2 x h
  · exact hl x h⟩
theorem add_has {c : Ct} {l : List Dt} (hc : Vc c) (hl : ∀ x ∈ l, validR x = true) (x : Dt) : hasC (addC c l) x = true ↔ hasC c x = true ∨ x ∈ l := by
  unfold addC
  rw [(comp_ok (add_pre hc hl)).2, hasC_iff, hasC_iff]
  simp only [mem_union]
  constructor
  · rintro ⟨h, k | k | k⟩
    · exact .inl ⟨h, .inl k⟩
    · exact .inl ⟨h, .inr k⟩
    · exact .inr k
  · rintro (⟨h, k | k⟩ | k)
    · exact ⟨h, .inl k⟩
    · exact ⟨h, .inr (.inl k)⟩
    · exact ⟨hl x k, .inr (.inr k)⟩
theorem add_comp {c : Ct} {l : List Dt} (hc : Vc c) (hl : ∀ x ∈ l, validR x = true) : isCompR (addC c l) = true := (comp_ok (add_pre hc hl)).1
theorem add_vc {c : Ct} {l : List Dt} (hc : Vc c) (hl : ∀ x ∈ l, validR x = true) : Vc (addC c l) := (comp_iff.1 (add_comp hc hl)).1
/-- More dots, one after the other, and all at once, in any order. -/
theorem add_add {c : Ct} {l m n : List Dt} (hc : Vc c) (hl : ∀ x ∈ l, validR x = true) (hm : ∀ x ∈ m, validR x = true) (hn : ∀ x, x ∈ n ↔ x ∈ l ∨ x ∈ m) : addC (addC c l) m = addC c n := by
  have hnv : ∀ x ∈ n, validR x = true := fun x hx => by
    rcases (hn x).1 hx with h | h
    · exact hl x h
    · exact hm x h
  refine comp_uniq (add_comp (add_vc hc hl) hm) (add_comp hc hnv) fun x => ?_
  rw [Bool.eq_iff_iff, add_has (add_vc hc hl) hm, add_has hc hl, add_has hc hnv, hn, or_assoc]
def withinC (a b : Ct) : Bool := (a.2.all fun d => hasC (compC b) d) && withinV a.1 (compC b).1
theorem within_iffC {a b : Ct} (ha : Vc a) (hb : Vc b) : withinC a b = true ↔ ∀ x, hasC a x = true → hasC b x = true := by
  have hcb := comp_ok hb
  obtain ⟨c1, c2⟩ := comp_iff.1 hcb.1
  unfold withinC
  rw [Bool.and_eq_true, List.all_eq_true, E.within_iff ha.1 c1.1]
  constructor
  · rintro ⟨h1, h2⟩ x hx
    rw [← hcb.2]
    obtain ⟨h3, h4 | h4⟩ := hasC_iff.1 hx
    · exact hasC_iff.2 ⟨h3, .inl (hasV_iff.2 ⟨h3, by have := (hasV_iff.1 h4).2; have := h2 x.1; omega⟩)⟩
    · exact h1 x h4
  · intro h
    refine ⟨fun x hx => by rw [hcb.2]; exact h x (hasC_iff.2 ⟨ha.2.2 x hx, .inr hx⟩), fun r => ?_⟩
    have hA : isCompR (a.1, []) = true := comp_iff.2 ⟨⟨ha.1, srt_nil, fun x hx => by simp at hx⟩, fun x hx => by simp at hx⟩
    exact comp_get hA hcb.1 (fun x hx => by
      rw [hcb.2]
      obtain ⟨h3, h4 | h4⟩ := hasC_iff.1 hx
      · exact h x (hasC_iff.2 ⟨h3, .inl h4⟩)
      · simp at h4) r
theorem within_both {a b : Ct} (ha : Vc a) (hb : Vc b) : compC a = compC b ↔ withinC a b = true ∧ withinC b a = true := by
  rw [comp_same ha hb, within_iffC ha hb, within_iffC hb ha]
  constructor
  · intro h
    exact ⟨fun x hx => by rw [← h]; exact hx, fun x hx => by rw [h]; exact hx⟩
  · rintro ⟨h1, h2⟩ x
    rw [Bool.eq_iff_iff]
    exact ⟨h1 x, h2 x⟩

/-! ### How many dots -/
def sumV (v : List Dt) : Int := (v.map (·.2)).sum
def sizeC (c : Ct) : Int := sumV c.1 + ((c.2.filter fun d => !hasV c.1 d).length : Int)
theorem sum_cons (x : Dt) (t : List Dt) : sumV (x :: t) = x.2 + sumV t := by unfold sumV; simp
theorem raise_sumW : ∀ {v : List Dt} {d : Dt}, Inc v → sumV (raiseW d false v) = sumV v - getV v d.1 + d.2
  | [], d, _ => by
    show sumV [d] = sumV [] - 0 + d.2
    rw [sum_cons]
    show d.2 + 0 = 0 - 0 + d.2
    omega
  | x :: t, d, hv => by
    have hv0 := hv
    unfold Inc at hv
    rw [List.pairwise_cons] at hv
    rw [raiseW]
    by_cases h : d.1 ≤ x.1
    · rw [if_pos ⟨rfl, h⟩, Bool.false_or, decide_eq_true h, raise_done fun z hz => by have := hv.1 z hz; omega]
      by_cases e : x.1 = d.1
      · rw [if_neg (by simp [e])]
        simp only [List.append_nil, List.cons_append, List.nil_append]
        rw [sum_cons, sum_cons, getV, if_pos e]
        omega
      · rw [if_pos e]
        simp only [List.cons_append, List.nil_append]
        rw [sum_cons, sum_cons, get_none fun z hz => ?_]
        · omega
        · rcases List.mem_cons.1 hz with rfl | hz
          · exact e
          · have := hv.1 z hz; omega
    · rw [if_neg (fun hh => h hh.2), if_pos (by omega), Bool.false_or, decide_eq_false h]
      simp only [List.nil_append, List.cons_append]
      rw [sum_cons, raise_sumW hv.2, sum_cons, getV, if_neg (by omega)]
      omega
theorem raise_sum {v : List Dt} {d : Dt} (hv : Vd v) (hd : validR d = true) (e : d.2 = getV v d.1 + 1) : sumV (raiseR v d) = sumV v + 1 := by
  unfold raiseR
  rw [if_neg, raise_sumW hv.2]
  · omega
  · rw [hasV_iff]
    omega
/-- A pass keeps how many dots there are. -/
theorem pass_size : ∀ (cl v rest : List Dt), Vd v → Srt (rest ++ cl) → (∀ x ∈ rest ++ cl, validR x = true) → (∀ x ∈ rest, getV v x.1 + 1 < x.2) →
    sizeC (passR v rest cl) = sumV v + (rest.length : Int) + ((cl.filter fun d => !hasV v d).length : Int)
  | [], v, rest, hv, hs, hd, hf => by
    show sumV v + ((rest.filter fun d => !hasV v d).length : Int) = _
    rw [List.filter_eq_self.2 fun x hx => ?_]
    · simp
    · have h1 := hf x hx
      have : hasV v x ≠ true := by rw [Ne, hasV_iff]; omega
      simpa using this
  | d :: t, v, rest, hv, hs, hd, hf => by
    have hdv := hd d (by simp)
    have hsd : ∀ x ∈ t, less d x = true := by
      unfold Srt at hs
      rw [List.pairwise_append, List.pairwise_cons] at hs
      exact hs.2.1.1
    have hs2 : Srt (rest ++ t) := by
      unfold Srt at hs ⊢
      rw [List.pairwise_append] at hs ⊢
      refine ⟨hs.1, (List.pairwise_cons.1 hs.2.1).2, fun a ha b hb => hs.2.2 a ha b (by simp [hb])⟩
    have hd2 : ∀ x ∈ rest ++ t, validR x = true := fun x hx => hd x (by
      rcases List.mem_append.1 hx with h | h
      · simp [h]
      · simp [h])
    by_cases h1 : hasV v d = true
    · rw [passR, if_pos h1, pass_size t v rest hv hs2 hd2 hf, List.filter_cons, if_neg (by simp [h1])]
    · have h1b : (!hasV v d) = true := by simpa using h1
      by_cases h2 : d.2 = getV v d.1 + 1
      · have hno : ∀ x ∈ rest, x.1 ≠ d.1 := fun x hx e => by
          have h3 := hf x hx
          have h4 : less x d = true := by
            unfold Srt at hs
            rw [List.pairwise_append] at hs
            exact hs.2.2 x hx d (by simp)
          rw [less_iff] at h4
          rw [e] at h3
          omega
        rw [passR, if_neg h1, if_pos h2, pass_size t (raiseR v d) rest (raise_vd hv hdv) hs2 hd2 fun x hx => by
          rw [raise_get hv hdv, if_neg (hno x hx)]
          exact hf x hx, raise_sum hv hdv h2, List.filter_cons, if_pos h1b]
        have e : (t.filter fun x => !hasV (raiseR v d) x) = t.filter fun x => !hasV v x := by
          refine List.filter_congr fun x hx => ?_
          congr 1
          rw [Bool.eq_iff_iff, raise_next hv hdv h2]
          constructor
          · rintro (h | rfl)
            · exact h
            · have := hsd _ hx
              rw [less_irr] at this
              cases this
          · exact .inl
        rw [e, List.length_cons]
        omega
      · have hfar : getV v d.1 + 1 < d.2 := by
          rw [hasV_iff] at h1
          have : ¬ d.2 ≤ getV v d.1 := fun h => h1 ⟨hdv, h⟩
          omega
        rw [passR, if_neg h1, if_neg h2, pass_size t v (rest ++ [d]) hv (by simpa using hs) (by simpa using hd) (fun x hx => by
          rcases List.mem_append.1 hx with h | h
          · exact hf x h
          · rw [List.mem_singleton.1 h]; exact hfar), List.filter_cons, if_pos h1b, List.length_append, List.length_cons]
        simp
        omega
theorem comp_size {c : Ct} (hc : Vc c) : sizeC (compC c) = sizeC c := by
  unfold compC
  rw [pass_size c.2 c.1 [] hc.1 hc.2.1 hc.2.2 (fun x h => by simp at h)]
  unfold sizeC
  simp
end Go.Proofs.Ytfmlenhakejefaa.F
end
