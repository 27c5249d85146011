/-
  The end of OmapStrings: what holds between the rounds of its range; what its last region reads.
-/
import Derived.Test.YtmmcnpcijeahcaaTApp
namespace Go.Proofs.Ytmmcnpcijeahcaa.Sch
open Go
section
variable {P : Program} {S : World → Prop} {Q : Exit → Act → World → Prop} {l : List Oper} {i : Nat} {o : Oper} {r : Tn} {a : Act} {w : World}
/-- How many entries a map has, in whatever world of the class. -/
theorem tn_len (x : Operand) (t : TypeId) (m v : Value) (a' : Act) (ho : nth l i = some o) (hop : o.op = .call { callee := .builtin .len, args := #[x], argTypes := #[t] }) (hw : Region.wanted o (yielded l.toArray a.tmps) = true) (hx : a.eval x = m)
    (hr : ∀ w, S w → (Builtin.len_ #[t] o.type #[m]).run P w = .ok v w) (he : a.put o.dst v = a') (h : heldN P l.toArray Q S r a' w) : heldN P l.toArray Q S (.val i r) a w := by
  subst he
  subst hx
  unfold heldN stepV
  simp only [nth_at, ho]
  rw [if_pos hw]
  refine ⟨_, fun w' hS => ?_, h⟩
  unfold execOp
  rw [hop]
  simp [resolve, invoke, builtin, Sem.run_bind, Sem.run_pure, hr w' hS, Result.andThen]
end
end Go.Proofs.Ytmmcnpcijeahcaa.Sch
namespace Go.Proofs.Ytmmcnpcijeahcaa.Jt
set_option linter.unusedVariables false
open Go.RowKit V Go.Shelf

theorem seq_nil (gf : FuncId) (lb : Array Value) (w : World) : (binOp .eql 63 (.func (.func gf) #[] lb) .nilFunc).run Try.prog w = .ok (.bool false) w := by kernel_rfl
theorem load_mc {w : World} {b : Nat} {v : Value} (h : J.Bx w b v 58) : (Instr.loadAt 58 (.pointer (some ⟨b, 0, none⟩))).run Try.prog w = .ok v w := by
  have k0 := h.cell
  go_simp
theorem bx_c4 {w : World} {b : Nat} {v : Value} {t : TypeId} (h : J.Bx w b v t) : w.cell? ⟨b, 4, none⟩ = none := by
  unfold J.Bx at h
  simp only [World.cell?, h]
  rfl
theorem Mp.gbx {w w' : World} {g b : Nat} {d : Bool} {L : List Pr} {z : Int} {t : TypeId} (hm : Mp w g d L) (hb : J.Bx w b (.int .i64 z) t) (hg : w.grownBy w' (some b)) : Mp w' g d L := by
  have hlt := hm.lt
  have hne := ne_of hm.c0 hb.cell (by simp)
  obtain ⟨T, h1, h2, h3, h4, h5, h6⟩ := hm
  have e := hg.block g hlt (by simpa using hne)
  exact ⟨T, ⟨(World.cell?_of_block (w := w) e).trans h1.1, (World.cell?_of_block (w := w) e).trans h1.2⟩, h2.gb hg (Tr.on_ne (bx_c4 hb) h2), h3, (World.cell?_of_block (w := w) e).trans h4, fun o => by rw [← h5 o]; simp only [World.frozen?, e], h6⟩
theorem nb_bx {w : World} {b c : Nat} {v : Value} {t : TypeId} (h : Nb w b) (hb : J.Bx w c v t) : b ≠ c := (h.ne hb.cell).symm
/-- The length of the last key. -/
def lastN (l : List Pr) : Int := match l.getLast? with | none => -1 | some p => (p.1.s.size : Int)
theorem lastN_app (l : List Pr) (p : Pr) : lastN (l ++ [p]) = (p.1.s.size : Int) := by unfold lastN; simp
theorem lastN_lt {d : Bool} {L pre : List Pr} {x : Pr} (hs : Srt d L) (hp : pre ++ [x] <+: L) : lastN pre < (x.1.s.size : Int) := by
  unfold lastN
  rcases h : pre.getLast? with _ | p
  · simp only
    omega
  · simp only
    have hm := List.mem_of_getLast? h
    obtain ⟨r, rfl⟩ := hp
    unfold Srt at hs
    rw [List.pairwise_append, List.pairwise_append] at hs
    have := hs.1.2.2 p hm x (by simp)
    rw [bef_iff] at this
    omega
/-- Between two rounds of the range: only one box was written. -/
def Iv (W : World) (bn : Nat) (pre : List Pr) (A : World) : Prop := W.grownBy A (some bn) ∧ J.Bx A bn (.int .i64 (lastN pre)) 3
theorem Iv.abF {W : World} {bn : Nat} {pre : List Pr} (hl : bn < W.heap.size) : AbF W.heap.size (Iv W bn pre) := fun A A' row ha hg hr => by
  obtain ⟨h1, h2⟩ := ha
  exact ⟨gb_low h1 hg (fun x e => (hr x e).1), h2.gb hg (fun e => by have := (hr _ e.symm).1; omega)⟩
/-- What the last region reads. -/
def Zs (bC mC n : Nat) (D : DataW Unit) (w : World) : Prop := J.Bx w bC (.map (some mC)) 58 ∧ Cm w mC n D
theorem Zs.keep {bC mC n : Nat} {D : DataW Unit} {w w' : World} (h : Zs bC mC n D w) (hb : Below w.heap.size w w') : Zs bC mC n D w' := ⟨h.1.keep hb, World.ownsMap.kept h.2 (gb_below hb none) (by simp)⟩
end Go.Proofs.Ytmmcnpcijeahcaa.Jt
