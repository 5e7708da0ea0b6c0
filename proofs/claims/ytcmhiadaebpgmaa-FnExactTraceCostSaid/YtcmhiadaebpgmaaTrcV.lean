/- A trace as a value, and in new memory; what the program's TraceCost, WritesOf and CountSteps are to give: the shapes of their contracts. -/
import Derived.Test.YtcmhiadaebpgmaaMicR
import Derived.Test.YtcmhiadaebpgmaaWtR
namespace Go.Proofs.Ytcmhiadaebpgmaa.trc
open Go Go.ChangeShapes Go.WideShapes Go.ChangeAt Go.RowKit Go.Proofs.Ytcmhiadaebpgmaa.row Go.Proofs.Ytcmhiadaebpgmaa.val Go.Proofs.Ytcmhiadaebpgmaa.expr Go.Proofs.Ytcmhiadaebpgmaa.grow Go.Proofs.Ytcmhiadaebpgmaa.wrt

abbrev trV (a1 : Option Addr) (n1 c1 : Nat) (a2 : Option Addr) (n2 c2 : Nat) : Value := .agg #[.slice a1 n1 c1, .slice a2 n2 c2]
/-- The trace in new memory. -/
def TrMem (B : Nat) (a1 : Option Addr) (n1 c1 : Nat) (a2 : Option Addr) (n2 c2 : Nat) (M : List Mic) (U : List Int) (w' : World) : Prop :=
  w'.ownsRow B 43 3 (.slice a1 n1 c1) n1 (microsC M) ∧ w'.ownsRow B 3 1 (.slice a2 n2 c2) n2 (ivs U) ∧ ((Value.slice a1 n1 c1).ownBlock = none ∨ (Value.slice a1 n1 c1).ownBlock ≠ (Value.slice a2 n2 c2).ownBlock)
def NewTr (w : World) (M : List Mic) (U : List Int) (e : Ending) (w' : World) : Prop :=
  ∃ a1 n1 c1 a2 n2 c2, e = .returned (trV a1 n1 c1 a2 n2 c2) ∧ TrMem w.heap.size a1 n1 c1 a2 n2 c2 M U w' ∧ Below w.heap.size w w'
def NewTrB (w : World) (r : Bool) (M : List Mic) (U : List Int) (e : Ending) (w' : World) : Prop :=
  ∃ a1 n1 c1 a2 n2 c2, e = .returned (.tuple #[trV a1 n1 c1 a2 n2 c2, .bool r]) ∧ TrMem w.heap.size a1 n1 c1 a2 n2 c2 M U w' ∧ Below w.heap.size w w'
/-- The trace that came in. -/
def TrRow (w : World) (a1 : Option Addr) (n1 : Nat) (a2 : Option Addr) (n2 : Nat) (M : List Mic) (U : List Int) : Prop := MicroRow w a1 n1 M ∧ Row w a2 n2 U ∧ (n1 : Int) ≤ 1048576 ∧ (n2 : Int) ≤ 1048576
theorem TrRow.below {w w' : World} {a1 : Option Addr} {n1 : Nat} {a2 : Option Addr} {n2 : Nat} {M : List Mic} {U : List Int} (h : TrRow w a1 n1 a2 n2 M U) (hb : Below w.heap.size w w') : TrRow w' a1 n1 a2 n2 M U := ⟨h.1.below hb, h.2.1.below hb, h.2.2⟩
/-- A row of writes in new memory. -/
def NewWts (w : World) (L : List Wt) (e : Ending) (w' : World) : Prop :=
  ∃ a n c, e = .returned (.slice a n c) ∧ w'.ownsRow w.heap.size 49 2 (.slice a n c) n (writesC L) ∧ Below w.heap.size w w'
/-- Every cost is an int. -/
abbrev i64r (x : Int) : Prop := -9223372036854775808 ≤ x ∧ x ≤ 9223372036854775807
def MicOk (M : List Mic) : Prop := ∀ m ∈ M, i64r m.c
abbrev zero2T : Array Value := #[.slice none 0 0, .slice none 0 0]
abbrev TcC : Prop := ∀ (w : World) (a1 : Option Addr) (n1 c1 : Nat) (a2 : Option Addr) (n2 c2 : Nat) (M : List Mic) (U : List Int) (_ : n1 ≤ c1) (_ : TrRow w a1 n1 a2 n2 M U) (_ : MicOk M) (q : Int) (_ : costW (csts M) = q),
    Calls Try.prog 9 #[trV a1 n1 c1 a2 n2 c2] w (BelI w q)
abbrev WoC : Prop := ∀ (w : World) (a1 : Option Addr) (n1 c1 : Nat) (a2 : Option Addr) (n2 c2 : Nat) (M : List Mic) (U : List Int) (_ : n1 ≤ c1) (_ : TrRow w a1 n1 a2 n2 M U) (_ : MicOk M) (L : List Wt) (_ : wrs M = L),
    Calls Try.prog 12 #[trV a1 n1 c1 a2 n2 c2] w (NewWts w L)
abbrev CsC : Prop := ∀ (w : World) (a1 : Option Addr) (n1 c1 : Nat) (a2 : Option Addr) (n2 c2 : Nat) (M : List Mic) (U : List Int) (_ : n1 ≤ c1) (_ : TrRow w a1 n1 a2 n2 M U) (_ : MicOk M) (e : Int) (_ : i64r e) (q : Nat) (_ : cntE (csts M) e = q),
    Calls Try.prog 18 #[trV a1 n1 c1 a2 n2 c2, .int .i64 e] w (BelI w q)
end Go.Proofs.Ytcmhiadaebpgmaa.trc
