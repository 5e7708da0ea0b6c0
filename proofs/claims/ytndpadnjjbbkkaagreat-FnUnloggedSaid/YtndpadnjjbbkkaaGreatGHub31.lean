/- Several texts in one: ExeP BlkD BlkH. -/
import Derived.Test.YtndpadnjjbbkkaaGreatGHub19
import Derived.Test.YtndpadnjjbbkkaaGreatGHub20
import Derived.Test.YtndpadnjjbbkkaaGreatGHub17
import Derived.Test.YtndpadnjjbbkkaaGreatGHub27

/- What the program's ReadSensor, TaskEffect and SensesOf are to give: the shapes of their contracts. -/
namespace Go.Proofs.YtndpadnjjbbkkaaGreat.exe
open Go Go.ChangeShapes Go.WideShapes Go.ChangeAt Go.RowKit Go.Proofs.YtndpadnjjbbkkaaGreat.row Go.Proofs.YtndpadnjjbbkkaaGreat.val Go.Proofs.YtndpadnjjbbkkaaGreat.expr Go.Proofs.YtndpadnjjbbkkaaGreat.stm Go.Proofs.YtndpadnjjbbkkaaGreat.blk Go.Proofs.YtndpadnjjbbkkaaGreat.prg
abbrev RsC : Prop := ∀ (w : World) (a : Option Addr) (n cap : Nat) (R : List Int) (_ : (n : Int) ≤ 1048576) (_ : Row w a n R) (q m : Int), Calls Tryz.prog 53 #[.slice a n cap, .int .i64 q, .int .i64 m] w (BelI w (readS R q m))
abbrev TeC : Prop := ∀ (a : Option Addr) (n cap : Nat) (P : List Tk) (_ : Sizes P) (_ : n ≤ cap) (w : World) (_ : TkRow w a n P) (ad : Option Addr) (nv cv : Nat) (V : List Int) (_ : (nv : Int) ≤ 1048576) (_ : nv ≤ cv) (_ : Row w ad nv V) (ay : Option Addr) (ny cy : Nat) (Y : List Int) (_ : (ny : Int) ≤ 1048576) (_ : ny ≤ cy) (_ : Row w ay ny Y)
    (i : Int) (r : Bool) (E : Eff) (_ : EffIs P V Y i r E), Calls Tryz.prog 12 #[.agg #[.slice a n cap], .int .i64 i, .slice ad nv cv, .slice ay ny cy] w (NewEffB w r E)
abbrev SoC : Prop := ∀ (a : Option Addr) (n cap : Nat) (P : List Tk) (_ : Sizes P) (_ : n ≤ cap) (w : World) (_ : TkRow w a n P) (ad : Option Addr) (nv cv : Nat) (V : List Int) (_ : (nv : Int) ≤ 1048576) (_ : nv ≤ cv) (_ : Row w ad nv V) (ar : Option Addr) (nr cr : Nat) (R : List Int) (_ : (nr : Int) ≤ 1048576) (_ : nr ≤ cr) (_ : Row w ar nr R)
    (i z : Int) (U : List Int) (_ : SensIs P V R i z U), Calls Tryz.prog 21 #[.agg #[.slice a n cap], .int .i64 i, .slice ad nv cv, .slice ar nr cr, .int .i64 z] w (NewInts w U)
end Go.Proofs.YtndpadnjjbbkkaaGreat.exe

/- Chapter 5's model: DepthOf: the height ahead of the statement; nothing that was there is written. -/
namespace Go.Proofs.YtndpadnjjbbkkaaGreat.blk
open Go Go.ChangeShapes Go.WideShapes Go.ChangeAt Go.RowKit Go.Proofs.YtndpadnjjbbkkaaGreat.row Go.Proofs.YtndpadnjjbbkkaaGreat.val Go.Proofs.YtndpadnjjbbkkaaGreat.expr Go.Proofs.YtndpadnjjbbkkaaGreat.stm

theorem depthIs_not {L : List Go.Proofs.YtndpadnjjbbkkaaGreat.stm.St} {i x : Int} (h : DepthIs L i x) (hn : ¬ IsBlk L ∨ i < 0 ∨ (L.length : Int) ≤ i) : x = -1 := by
  rcases h with ⟨j, rfl, hl, hb, rfl⟩ | ⟨rfl, _⟩
  · rcases hn with hn | hn | hn
    · exact absurd hb hn
    · omega
    · omega
  · rfl
theorem depthIs_yes {L : List Go.Proofs.YtndpadnjjbbkkaaGreat.stm.St} {j : Nat} {x : Int} (h : DepthIs L j x) (hb : IsBlk L) (hl : j < L.length) : x = hAt L j := h.unique (.inl ⟨j, rfl, hl, hb, rfl⟩)
end Go.Proofs.YtndpadnjjbbkkaaGreat.blk

/- Chapter 5's program: DepthOf: the height ahead of the statement; nothing that was there is written. -/
namespace Go.Proofs.YtndpadnjjbbkkaaGreat.blk
open Go Go.ChangeShapes Go.WideShapes Go.ChangeAt Go.RowKit Go.Proofs.YtndpadnjjbbkkaaGreat.row Go.Proofs.YtndpadnjjbbkkaaGreat.val Go.Proofs.YtndpadnjjbbkkaaGreat.expr Go.Proofs.YtndpadnjjbbkkaaGreat.stm

end Go.Proofs.YtndpadnjjbbkkaaGreat.blk
