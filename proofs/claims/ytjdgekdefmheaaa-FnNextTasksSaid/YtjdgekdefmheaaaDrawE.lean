/- The draws of blocks and tasks: a valid block of at most two levels and twenty statements, a valid expression; nothing that was there is written. -/
import Derived.Test.YtjdgekdefmheaaaDrawD
namespace Go.Proofs.Ytjdgekdefmheaaa.cur
open Go.ChangeShapes Go.WideShapes Go.ChangeAt Go.RowKit Go.Proofs.Ytjdgekdefmheaaa.row Go.Proofs.Ytjdgekdefmheaaa.val Go.Proofs.Ytjdgekdefmheaaa.expr Go.Proofs.Ytjdgekdefmheaaa.stm
theorem block_one (cb : Nat) (a : Option Addr) (len cap : Nat) (n : Nat) (w : World) (hn : n ≤ 5) (hc : Cur cb a len cap w) :
    Calls Try.prog 61 #[.pointer (some ⟨cb, 0, none⟩), .int .i64 n, .int .i64 1] w (BlkOut 1 n cb a len cap w) :=
  block_succ 0 (by omega) 1 rfl (fun cb a len cap n w hn hc => block_zero cb a len cap n w hn hc) cb a len cap n w hn hc
theorem block_two (cb : Nat) (a : Option Addr) (len cap : Nat) (n : Nat) (w : World) (hn : n ≤ 5) (hc : Cur cb a len cap w) :
    Calls Try.prog 61 #[.pointer (some ⟨cb, 0, none⟩), .int .i64 n, .int .i64 0] w (BlkOut 2 n cb a len cap w) :=
  block_succ 1 (by omega) 0 rfl (fun cb a len cap n w hn hc => block_one cb a len cap n w hn hc) cb a len cap n w hn hc
/-- A valid block of at most two levels and twenty statements in new memory; the cursor stays one. -/
def CaseOut (cb : Nat) (a : Option Addr) (len cap : Nat) (w : World) (e : Ending) (w' : World) : Prop :=
  ∃ (g m c : Nat) (L : List St), e = .returned (.slice (some ⟨g, 0, none⟩) m c) ∧ Hid (Blk 2 L) ∧ m ≤ 20 ∧ BS cb a len cap w w' g m c L
set_option maxRecDepth 100000 in
theorem case_any (cb : Nat) (a : Option Addr) (len cap : Nat) (w : World) (hc : Cur cb a len cap w) :
    Calls Try.prog 43 #[.pointer (some ⟨cb, 0, none⟩)] w (CaseOut cb a len cap w) := by
  have hcb := hc.lt
  go_enter Try.func43, Try.ntmps43
  go_wp2_with (go_at_call 24; refine (below_any cb a len cap _ (by omega) _ hc).mono ?_; rintro e w1 ⟨z, rfl, hz0, hz1, hc1, hg1⟩; refine Hid.out ?_)
  obtain ⟨n, rfl⟩ : ∃ n : Nat, z = (n : Int) := ⟨z.toNat, by omega⟩
  have hn5 : n ≤ 5 := by omega
  have hsz := hg1.size
  have HG1 := Lib.hid hg1
  clear hg1 hc
  refine Lib.hid ?_
  go_wp2_with (go_at_call 61; refine (block_two cb a len cap n _ hn5 hc1).mono ?_; rintro e w2 ⟨g, m, c, L, rfl, HB, hm, hbs⟩)
  go_ret
  exact ⟨g, m, c, L, rfl, HB, Nat.le_trans hm (bnd_le hn5), hbs.1.mono hsz, hbs.2.1, grownBy_trans HG1.out hbs.2.2⟩
/-- A valid task: its body in new memory, its expression. -/
def TaskOut (w : World) (e : Ending) (w' : World) : Prop :=
  ∃ (g m c : Nat) (L : List St) (o x y : Int), e = .returned (.agg #[.slice (some ⟨g, 0, none⟩) m c, .int .i64 o, .int .i64 x, .int .i64 y]) ∧ Hid (Blk 2 L) ∧ m ≤ 20 ∧ Hid (exprOk o x y = true) ∧
    w'.ownsRow w.heap.size 88 6 (.slice (some ⟨g, 0, none⟩) m c) m (stsC L) ∧ Below w.heap.size w w'
end Go.Proofs.Ytjdgekdefmheaaa.cur
