/-
  Maps in memory: none, all, find.
-/
import Derived.Test.YtmmcnpcijeahcaaTSeek
import Derived.Laws.ResultCell
namespace Go.Proofs.Ytmmcnpcijeahcaa.Jt
set_option linter.unusedVariables false
open Go.RowKit V Go.Shelf

set_option maxRecDepth 100000 in
theorem fn_nil (f : FuncId) (w : World) : (binOp .eql 56 (.func (.func f) #[] #[]) .nilFunc).run Try.prog w = .ok (.bool false) w := by kernel_rfl
set_option maxRecDepth 100000 in
theorem nil_nil (w : World) : (binOp .eql 56 .nilFunc .nilFunc).run Try.prog w = .ok (.bool true) w := by kernel_rfl
/-- No map: nil, or one that is zero. -/
def No (w : World) (a : Option Addr) : Prop := a = none ∨ ∃ g, a = some ⟨g, 0, none⟩ ∧ w.cell? ⟨g, 0, none⟩ = some .nilFunc ∧ w.cell? ⟨g, 1, none⟩ = some (.pointer none)
theorem No.keep {w w' : World} {a : Option Addr} (h : No w a) (hb : Below w.heap.size w w') : No w' a := by
  rcases h with h | ⟨g, e, h0, h1⟩
  · exact .inl h
  · exact .inr ⟨g, e, keep_cell h0 hb, keep_cell h1 hb⟩
set_option maxRecDepth 100000 in
theorem none_no (a : Option Addr) (w : World) (h : No w a) : Calls Try.prog 71 #[.pointer a] w fun e w' => e = .returned (.bool true) ∧ w' = w := by
  rcases h with rfl | ⟨g, rfl, h0, h1⟩
  · have hq := nil_nil
    go_enter Try.func71, Try.ntmps71
    go_wp2_with fail
    go_ret
    exact ⟨rfl, rfl⟩
  · have hq := nil_nil
    go_enter Try.func71, Try.ntmps71
    go_wp2_with fail
    go_ret
    exact ⟨rfl, rfl⟩
set_option maxRecDepth 100000 in
theorem none_yes (g fid : Nat) (a : Option Addr) (w : World) (h : Mc w g fid a) : Calls Try.prog 71 #[.pointer (some ⟨g, 0, none⟩)] w fun e w' => e = .returned (.bool false) ∧ w' = w := by
  obtain ⟨h0, h1⟩ := h
  have hq := fn_nil fid
  go_enter Try.func71, Try.ntmps71
  go_wp2_with fail
  go_ret
  exact ⟨rfl, rfl⟩
set_option maxRecDepth 100000 in
theorem all_no (a : Option Addr) (w : World) (h : No w a) : Calls Try.prog 54 #[.pointer a] w fun e w' => e = .returned (.pointer none) ∧ w' = w := by
  rcases h with rfl | ⟨g, rfl, h0, h1⟩
  · go_enter Try.func54, Try.ntmps54
    go_wp2_with fail
    go_ret
    exact ⟨rfl, rfl⟩
  · go_enter Try.func54, Try.ntmps54
    go_wp2_with fail
    go_ret
    exact ⟨rfl, rfl⟩
set_option maxRecDepth 100000 in
theorem all_yes (g fid : Nat) (a : Option Addr) (w : World) (h : Mc w g fid a) : Calls Try.prog 54 #[.pointer (some ⟨g, 0, none⟩)] w fun e w' => e = .returned (.pointer a) ∧ w' = w := by
  obtain ⟨h0, h1⟩ := h
  go_enter Try.func54, Try.ntmps54
  go_wp2_with fail
  go_ret
  exact ⟨rfl, rfl⟩
set_option maxRecDepth 100000 in
theorem catch_any (w : World) : CallsD Try.prog 70 #[] .returning w fun e u' w' => e = .returned (.tuple #[]) ∧ u' = .returning ∧ w' = w := by
  refine callsD_of_wpS Try.func70 rfl fun c₀ cs hu => ?_
  apply wpS_region
  simp [wpOpsS, go_sem, recoverD, hu, Try.ntmps70, Exit.thenS, bodyPostS, results, Try.results70]
  cases c₀
  simp_all

set_option maxRecDepth 100000 in
set_option maxHeartbeats 1000000 in
theorem find_no (a : Option Addr) (k : Ky) (w : World) (h : No w a) :
    Calls Try.prog 50 #[.pointer a, .string k.s] w fun e w' => e = .returned (.tuple #[.agg #[.pointer none, .int .i64 0, .pointer none], .bool false]) ∧ Below w.heap.size w w' := by
  have HN := Lib.hid (fun (w : World) (h : No w a) => none_no a w h)
  have HH : Hid (No (w.alloc (Obj.cells #[Value.pointer none, Value.int IntKind.i64 0, Value.pointer none] 94)) a) := h.keep (bel_box _ _)
  clear h
  go_enter_defers Try.func50, Try.ntmps50
  go_wp2_with fail
  refine (HN.out _ HH.out).mono ?_
  rintro e w1 ⟨rfl, rfl⟩
  go_wp2_with fail
  refine leaves_cons (f := 70) (args := #[]) (by simp) (by simp [go_sem]) ?_
  refine (catch_any _).mono ?_
  rintro e u' w'' ⟨rfl, rfl, rfl⟩
  simp [Leaves, settle, results, Try.results50, go_sem]
  exact bel_box _ _

theorem ret_find {w : World} {B : Nat} {t u : Option Addr} {z : Int} (h : Pl B w t z u) (bb : Bool) {tmps : Array Value} (h4 : tmps.getD 4 undef = .pointer (some ⟨B, 0, none⟩)) (h5 : tmps.getD 5 undef = .bool bb) :
    (results Try.f50 tmps).run Try.prog w = .ok (.tuple #[.agg #[.pointer t, .int .i64 z, .pointer u], .bool bb]) w := by
  obtain ⟨k0, k1, k2, -⟩ := h
  rw [results_cell_tmp (fn := Try.f50) (p := 4) (u := 5) (ty := 94) rfl, h4, h5]
  go_simp

set_option maxRecDepth 100000 in
set_option maxHeartbeats 1000000 in
theorem find_yes (g fid : Nat) (d : Bool) (T : Tr) (k : Ky) (w : World) (hf : Cmp fid d) (hm : Mc w g fid T.ad) (h : T.In w) (hs : Srt d T.list) (hl : T.len ≤ 1000000) :
    Calls Try.prog 50 #[.pointer (some ⟨g, 0, none⟩), .string k.s] w fun e w' =>
      ∃ U : Tr, e = .returned (.tuple #[.agg #[.pointer T.ad, .int .i64 (rank d T.list k : Nat), .pointer U.ad], .bool true]) ∧ (∀ W, T.In W → U.In W) ∧ Tops U (find d T.list k) ∧ Below w.heap.size w w' := by
  have hb : Below w.heap.size w (w.alloc (Obj.cells #[Value.pointer none, Value.int IntKind.i64 0, Value.pointer none] 94)) := bel_box _ _
  have HN := Lib.hid (none_yes g fid T.ad _ (hm.keep hb))
  have HS := Lib.hid (seek_any g fid d T k _ hf (hm.keep hb) (h.keep hb) hs hl)
  have HP : Hid (Pl w.heap.size (w.alloc (Obj.cells #[Value.pointer none, Value.int IntKind.i64 0, Value.pointer none] 94)) none 0 none) := ⟨by go_simp, by go_simp, by go_simp, fun o => by go_simp⟩
  have HB := Lib.hid hb
  generalize rank d T.list k = Z at *
  generalize find d T.list k = F at *
  clear hf hm h hs hl hb
  go_enter_defers Try.func50, Try.ntmps50
  go_wp2_with fail
  refine HN.out.mono ?_
  rintro e w1 ⟨rfl, rfl⟩
  go_wp2_with fail
  refine HS.out.mono ?_
  rintro e w2 ⟨U, rfl, hu, ht, hb⟩
  have HP2 := Lib.hid (HP.out.keep hb)
  obtain ⟨p0, p1, p2, p3⟩ := HP2.out
  have hf0 := p3 0
  have hf1 := p3 1
  have hf2 := p3 2
  have HB2 := Lib.hid (HB.out.trans (hb.mono HB.out.size))
  have HU := Lib.hid hu
  have HF := Lib.hid ht
  clear hu ht hb p3 HB HN HS HP
  go_wp2_with fail
  refine leaves_cons (f := 70) (args := #[]) (by simp) (by simp [go_sem]) ?_
  refine (catch_any _).mono ?_
  rintro e u' w'' ⟨rfl, rfl, rfl⟩
  refine ⟨_, ret_find (HP2.out.put3 T.ad (Z : Int) U.ad) true rfl rfl, U, rfl, HU.out, HF.out, ((HB2.out.setCell (p := ⟨w.heap.size, 0, none⟩) (Nat.le_refl _) _).setCell (p := ⟨w.heap.size, 1, none⟩) (Nat.le_refl _) _).setCell (p := ⟨w.heap.size, 2, none⟩) (Nat.le_refl _) _⟩
end Go.Proofs.Ytmmcnpcijeahcaa.Jt
