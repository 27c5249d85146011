/-
  The laws of encoding, and the theorem of the stage.
-/
import Derived.Test.YtjkiollopajmoabDoorRLawA
namespace Go.Proofs.YtjkiollopajmoabDoor.G
set_option linter.unusedVariables false
open Go.RowKit V

theorem rowI_news2 {k : IntKind} {w : World} {ad : Addr} {m : List Int} (h : RowI k w (some ad) m) : ∀ j u, (m.map (Value.int k))[j]? = some u → w.cell? (ad.add j) = some u := by
  rcases h with rfl | ⟨b, o, e, hc⟩
  · intro j u hj; simp at hj
  · cases e
    exact rowI_news (.inr ⟨b, o, rfl, hc⟩)

/-- append of any row of numbers to a row of the call's own. -/
theorem run_appIo {P : Program} {w : World} {base : Nat} {T E : TypeId} {k : IntKind} {B : Nat} (hT : P.underlying T = some (.slice E)) (hinfo : (P.info? E).map (fun i => (i.zero, i.size, i.bytes)) = some (some (.int k 0), 1, B))
    {v : Value} {l : List Int} (h : OI w base E k v l) (ty : TypeId) (ad : Option Addr) (c : Nat) (m : List Int) (hrow : RowI k w ad m) (hnil : ad = none → c = 0)
    (hlen : l.length + m.length ≤ 8796093022208) (hB : B ≤ 16) (hbase : base ≤ w.heap.size) :
    ∃ v' w', (Builtin.append_ #[T, T] ty #[v, .slice ad m.length c]).run P w = .ok v' w' ∧ OI w' base E k v' (l ++ m) ∧ w.grownBy w' v.ownBlock := by
  obtain ⟨i, hi, hz0, hz1, hz2⟩ := info_of hinfo
  rcases ad with _ | ad
  · have hm : m = [] := by
      rcases hrow with hm | ⟨_, _, e, _⟩
      · exact hm
      · cases e
    subst hm
    obtain rfl := hnil rfl
    exact ⟨v, w, run_append_owned_none w base T ty E i 1 hT hi v _ _ h, by simpa using h, gb_refl _ _⟩
  · have hb : (l.length + m.length) * B ≤ 140737488355328 := by
      have := Nat.mul_le_mul hlen hB
      omega
    obtain ⟨v', w', hr, ho, hg, _, hgr⟩ := run_append_own_at (P := P) w base T ty E i (.int k 0) 1 B hT hi hz0 hz1 hz2 rfl (by omega) v _ _ h ad m.length c (m.map (.int k)) (by simp) (rowI_news2 hrow)
      (by intro u hu; simp only [List.mem_map] at hu; obtain ⟨x, _, rfl⟩ := hu; rfl) (by unfold maxLen; omega) hb hbase
    refine ⟨v', w', hr, ?_, hg⟩
    unfold OI
    rw [List.length_append, List.map_append]
    exact ho
theorem wpList_appIo {P : Program} {w : World} {ops : Array Oper} {rest : List Oper} {x : Oper} {a : Act} {Q : Exit → Act → World → Prop} (hgd : x.guard = none) (s y : Operand) (T : TypeId)
    (ho : x.op = .call { callee := .builtin .append, args := #[s, y], argTypes := #[T, T] })
    {base : Nat} {E : TypeId} {k : IntKind} {B : Nat} (hT : P.underlying T = some (.slice E)) (hinfo : (P.info? E).map (fun i => (i.zero, i.size, i.bytes)) = some (some (.int k 0), 1, B))
    (v : Value) (l : List Int) (hs : a.eval s = v) (h : OI w base E k v l) (ad : Option Addr) (c n : Nat) (m : List Int) (hn : n = m.length) (hx : a.eval y = .slice ad n c) (hrow : RowI k w ad m) (hnil : ad = none → c = 0)
    (hlen : l.length + m.length ≤ 8796093022208) (hB : B ≤ 16) (hbase : base ≤ w.heap.size)
    (hk : ∀ v' w', OI w' base E k v' (l ++ m) → w.grownBy w' v.ownBlock → wpList P ops Q rest (a.put x.dst v') w') : wpList P ops Q (x :: rest) a w := by
  subst hn
  obtain ⟨v', w', hr, h2, h3⟩ := run_appIo hT hinfo h x.type ad c m hrow hnil hlen hB hbase
  refine wpList_plain hgd fun K hK => ?_
  unfold Oper.wp execOp
  simp only [ho, resolve, invoke, builtin, Sem.run_bind, Sem.run_pure, Result.andThen_ok, List.map_toArray, List.map_cons, List.map_nil, hs, hx, hr]
  exact hK _ _ (hk v' w' h2 h3)
end Go.Proofs.YtjkiollopajmoabDoor.G
namespace Go.Proofs.YtjkiollopajmoabDoor.R
set_option linter.unusedVariables false
open Go.RowKit V

set_option maxRecDepth 100000 in
set_option maxHeartbeats 2000000 in
theorem encs_law (zs : List Int) (a : Option Addr) (c : Nat) (w : World) (hL : Ld w) (hlen : zs.length ≤ 9223372036854775807) (hrow : G.RowI .i32 w a zs) (hnil : a = none → c = 0) (h32 : ∀ z ∈ zs, -2147483648 ≤ z ∧ z ≤ 2147483647) :
    Calls Tryd.prog 5 #[.slice a zs.length c] w fun e w' => e = .returned (.bool true) ∧ Below w.heap.size w w' := by
  have HL := Lib.hid hL
  have HK := Lib.hid known_any
  have HB : Hid (Below w.heap.size w w) := Below.refl _ _
  clear hL
  by_cases h3 : 100 < zs.length
  · have q0 : decide ((100 : Int) < (zs.length : Int)) = true := by simp; omega
    clear h3 hlen hrow hnil h32
    go_enter Tryd.func5, Tryd.ntmps5
    go_wp2_with fail
    refine (HK.out _ HL.out).mono ?_
    rintro e w7 ⟨rfl, hb⟩
    replace HB := bel_tr HB hb
    clear hb
    go_wp2_with fail
    go_ret
    exact ⟨rfl, HB.out⟩
  · have q0 : decide ((100 : Int) < (zs.length : Int)) = false := by simp; omega
    have hl4 : zs.length ≤ 4398046511104 := by omega
    have HR := Lib.hid hrow
    have H32 := Lib.hid h32
    have HNil := Lib.hid hnil
    have HLen := Lib.hid hl4
    clear h3 hlen hrow hnil h32 hl4
    go_enter Tryd.func5, Tryd.ntmps5
    go_wp2_with (at_builtin; refine G.wpList_appIo rfl (.const (.slice none 0 0)) (.tmp 10) 27 rfl Tryd.underlying27 info32 _ [] rfl (G.OI.nil w w.heap.size _ _) a c _ zs rfl rfl HR.out HNil.out (by have := HLen.out; simp; omega) (by omega) (Nat.le_refl _) ?_; intro v' w1 ho' hg')
    have hb1 : Below w.heap.size w w1 := (Below.refl _ _).grown hg' (Nat.le_refl _) (fun k hk => by cases hk)
    have HB1 := Lib.hid hb1
    have hr1 : G.RowI .i32 w1 a zs := HR.out.keep hb1 (Nat.le_refl _)
    have HE := Lib.hid (rencode_any zs a c w1 HLen.out H32.out hr1)
    have HO : Hid (O32 w1 w.heap.size v' zs) := ho'
    clear hb1 hr1 hg' ho' HB
    go_wp2_with fail
    refine HE.out.mono ?_
    rintro e w2 ⟨rfl, hb⟩
    have HB := bel_tr HB1 hb
    obtain ⟨a2, c2, rfl, hrow2, -⟩ := (HO.out.below hb).row2
    have HRow2 := Lib.hid hrow2
    have HEn := Lib.hid (encodes_any zs a2 _ c2 _ _ w2 (by have := HLen.out; omega) rfl rfl rfl hrow2)
    have HS := same_any zs zs a2 a c2 c w2 HLen.out HLen.out hrow2 (HR.out.keep HB.out (Nat.le_refl _))
    rw [decide_eq_true rfl] at HS
    have HSa := Lib.hid HS
    generalize (⟨(encR zs).1.toArray⟩ : ByteArray) = X at *
    generalize (encR zs).2 = E at *
    clear hb hrow2 HE HO HB1 HS
    go_wp2_with (go_at_call 14; refine HEn.out.mono ?_; rintro e w' ⟨rfl, rfl⟩)
    refine HSa.out.mono ?_
    rintro e w3 ⟨rfl, hb⟩
    replace HB := bel_tr HB hb
    clear hb
    go_wp2_with fail
    refine (HK.out _ (HL.out.below HB.out)).mono ?_
    rintro e w7 ⟨rfl, hb⟩
    replace HB := bel_tr HB hb
    clear hb
    go_wp2_with fail
    go_ret
    exact ⟨rfl, HB.out⟩
end Go.Proofs.YtjkiollopajmoabDoor.R
