/-
  The law's small asks: all say yes.
-/
import Derived.Test.YtgakbncglkegiaaDoorCRef
import Derived.Test.YtgakbncglkegiaaDoorCRefT
namespace Go.Proofs.YtgakbncglkegiaaDoor.C
set_option linter.unusedVariables false
open Go.RowKit V

set_option maxRecDepth 100000 in
set_option maxHeartbeats 1000000 in
theorem opens_any (l : List UInt8) (a : Option Addr) (n c : Nat) (m : List UInt8) (b : Option Addr) (k d : Nat) (no : Int) (w : World) (hL : Ld w) (hn : n = l.length) (hk : k = m.length) (hm : m = (opn l).1) (hno : no = ((opn l).2 : Int))
    (hl : Row8 w a l) (hr : Row8 w b m) (hnil : a = none → c = 0) (hlc : l.length ≤ c) (hlen : l.length ≤ 35184372088832) :
    Calls Tryd.prog 15 #[.slice a n c, .slice b k d, .int .i64 no] w fun e w' => e = .returned (.bool true) ∧ Below w.heap.size w w' := by
  subst hn hk hm hno
  have HO := Lib.hid (open_any l a c w hL hl hnil hlc hlen)
  have HR := Lib.hid hr
  have h2 : (((opn l).2 : Int) == ((opn l).2 : Int)) = true := by rw [beq_iff_eq]
  clear hL hl hnil hlc hlen hr
  generalize (opn l).1 = m at *
  generalize (opn l).2 = E at *
  go_enter Tryd.func15, Tryd.ntmps15
  go_wp2_with fail
  refine HO.out.mono ?_
  rintro e w1 ⟨v, rfl, ho, hb⟩
  have HB := Lib.hid hb
  obtain ⟨x, y, rfl, hrow1, -, -⟩ := ho.row
  have hc1 := G.conv_row (P := Tryd.prog) hrow1 _ rfl y 23 9 5 Tryd.underlying23 Tryd.underlying5 Tryd.underlying9
  have hc2 := G.conv_row (P := Tryd.prog) (HR.out.keep hb) _ rfl d 23 9 5 Tryd.underlying23 Tryd.underlying5 Tryd.underlying9
  have h1 : ((⟨m.toArray⟩ : ByteArray).toList == (⟨m.toArray⟩ : ByteArray).toList) = true := by rw [beq_iff_eq]
  clear ho hb hrow1 HO HR
  generalize (⟨m.toArray⟩ : ByteArray) = S at *
  go_wp2_with fail
  go_ret
  exact ⟨rfl, HB.out⟩

set_option maxRecDepth 100000 in
set_option maxHeartbeats 1000000 in
theorem parses_yes (n : Nat) (hn : n < 4294967296) (s : ByteArray) (hs : s = ⟨(txt n).toArray⟩) (w : World) (hL : Ld w) :
    Calls Tryd.prog 20 #[.string s, .int .u32 (n : Int), .int .i64 0] w fun e w' => e = .returned (.bool true) ∧ Below w.heap.size w w' := by
  subst hs
  have HP := Lib.hid (parse_yes n hn w hL)
  have h1 : ((n : Int) == (n : Int)) = true := by rw [beq_iff_eq]
  generalize (⟨(txt n).toArray⟩ : ByteArray) = S at *
  clear hn hL
  go_enter Tryd.func20, Tryd.ntmps20
  go_wp2_with fail
  refine HP.out.mono ?_
  rintro e w1 ⟨rfl, hb⟩
  have HB := Lib.hid hb
  clear hb HP
  go_wp2_with fail
  go_ret
  exact ⟨rfl, HB.out⟩

set_option maxRecDepth 100000 in
set_option maxHeartbeats 1000000 in
theorem parses_not (s : List UInt8) (h : ∀ n : Nat, n < 4294967296 → s ≠ txt n) (hlen : s.length ≤ 140737488355328) (w : World) (hL : Ld w) :
    Calls Tryd.prog 20 #[.string ⟨s.toArray⟩, .int .u32 0, .int .i64 6] w fun e w' => e = .returned (.bool true) ∧ Below w.heap.size w w' := by
  have HP := Lib.hid (parse_not s h hlen w hL)
  generalize (⟨s.toArray⟩ : ByteArray) = S at *
  clear h hL hlen
  go_enter Tryd.func20, Tryd.ntmps20
  go_wp2_with fail
  refine HP.out.mono ?_
  rintro e w1 ⟨rfl, hb⟩
  have HB := Lib.hid hb
  clear hb HP
  go_wp2_with fail
  go_ret
  exact ⟨rfl, HB.out⟩
end Go.Proofs.YtgakbncglkegiaaDoor.C
