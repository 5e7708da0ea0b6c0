/- Several texts in one: VBlkK VBlkN. -/
import Derived.Test.YtmgeecdgebemdaaGreatDoorGSigV13
import Derived.StillTailTactics
import Derived.Deep.RegionHeld3

/- Chapter 5's program: a block's first statement, its body and what stands behind; LongestRun: what the plain relations say; nothing that was there is written. -/
namespace Go.Proofs.YtmgeecdgebemdaaGreatDoor.blk
open Go Go.ChangeShapes Go.WideShapes Go.ChangeAt Go.RowKit Go.Proofs.YtmgeecdgebemdaaGreatDoor.row Go.Proofs.YtmgeecdgebemdaaGreatDoor.val Go.Proofs.YtmgeecdgebemdaaGreatDoor.expr Go.Proofs.YtmgeecdgebemdaaGreatDoor.stm
theorem results_cell_tmp2 {fn : Func} {p u v : Tmp} {ty : TypeId} (h : fn.results = #[.cell p ty, .tmp u, .tmp v]) (tmps : Array Value) (P : Program) (w : World) :
    (results fn tmps).run P w =
      ((asAddr (tmps.getD p undef)).run P w).andThen fun a w₁ => ((loadVar ty a).run P w₁).andThen fun x w₂ => .ok (.tuple #[x, tmps.getD u undef, tmps.getD v undef]) w₂ := by
  simp only [results, h]
  simp [Sem.run_bind, Result.andThen]
/-- Three results: a struct in a block that is known whole, and two values. -/
theorem results_box3 {P : Program} {fn : Func} {p u v : Tmp} {ty : TypeId} (h : fn.results = #[.cell p ty, .tmp u, .tmp v]) (tmps : Array Value) (w : World) (g : Nat) (t : TypeId) (cs : Array Value) (d : TypeDesc) (r q : Value)
    (hp : tmps.getD p undef = .pointer (some ⟨g, 0, none⟩)) (hr : tmps.getD u undef = r) (hq : tmps.getD v undef = q) (hg : Box g cs t w)
    (hu : P.underlying ty = some d) (hd : (match d with | .struct _ | .array _ _ => true | _ => false) = true) (hi : (P.info? ty).map (·.size) = some cs.size) :
    (results fn tmps).run P w = .ok (.tuple #[.agg cs, r, q]) w := by
  rw [results_cell_tmp2 h, hp, hr, hq]
  simp [asAddr, run_loadVar_row w g t ty cs (0, 0) d hg hu hd hi, Result.andThen]
/-- The first statement of a block, its body, what stands behind. -/
def CutOut (w : World) (n e : Nat) (L : List Go.Proofs.YtmgeecdgebemdaaGreatDoor.stm.St) (s : Go.Proofs.YtmgeecdgebemdaaGreatDoor.stm.St) (x : Ending) (w' : World) : Prop :=
  ∃ a1 a2 : Option Addr, x = .returned (.tuple #[stV s, .slice a1 (e - 1) (e - 1), .slice a2 (n - (e + 1)) (n - (e + 1))]) ∧ Hid (StRow w' a1 (e - 1) (part L 1 (e - 1)) ∧ StRow w' a2 (n - (e + 1)) (part L (e + 1) (n - (e + 1)))) ∧ Below w.heap.size w w'
/-- The same, and the parts are parts of it in every world in which the block is there. -/
def CutAll (w : World) (a : Option Addr) (n e : Nat) (L : List Go.Proofs.YtmgeecdgebemdaaGreatDoor.stm.St) (s : Go.Proofs.YtmgeecdgebemdaaGreatDoor.stm.St) (x : Ending) (w' : World) : Prop :=
  ∃ a1 a2 : Option Addr, x = .returned (.tuple #[stV s, .slice a1 (e - 1) (e - 1), .slice a2 (n - (e + 1)) (n - (e + 1))]) ∧ Hid (∀ W0 : World, StRow W0 a n L → StRow W0 a1 (e - 1) (part L 1 (e - 1)) ∧ StRow W0 a2 (n - (e + 1)) (part L (e + 1) (n - (e + 1)))) ∧ Below w.heap.size w w'
theorem cells6 {w : World} {g : Nat} {t : TypeId} {x0 x1 x2 x3 x4 x5 : Value} (h : Box g #[x0, x1, x2, x3, x4, x5] t w) :
    w.cell? ⟨g, 0, none⟩ = some x0 ∧ w.cell? ⟨g, 1, none⟩ = some x1 ∧ w.cell? ⟨g, 2, none⟩ = some x2 ∧ w.cell? ⟨g, 3, none⟩ = some x3 ∧ w.cell? ⟨g, 4, none⟩ = some x4 ∧ w.cell? ⟨g, 5, none⟩ = some x5 :=
  ⟨h.cell 0, h.cell 1, h.cell 2, h.cell 3, h.cell 4, h.cell 5⟩
theorem cells6d {w : World} {g : Nat} {t : TypeId} {x0 x1 x2 x3 x4 x5 : Value} (h : Box g #[x0, x1, x2, x3, x4, x5] t w) : w.drew.cell? ⟨g, 0, none⟩ = some x0 ∧ w.drew.cell? ⟨g, 1, none⟩ = some x1 ∧ w.drew.cell? ⟨g, 2, none⟩ = some x2 ∧ w.drew.cell? ⟨g, 3, none⟩ = some x3 ∧ w.drew.cell? ⟨g, 4, none⟩ = some x4 ∧ w.drew.cell? ⟨g, 5, none⟩ = some x5 := cells6 h
theorem six_box {w : World} {g : Nat} {t : TypeId} {x0 x1 x2 x3 x4 x5 : Value} (h : Box g #[x0, x1, x2, x3, x4, x5] t w) : Box g #[x0, x1, x2, x3, x4, x5] t ((((((w.setCell ⟨g, 0, none⟩ x0).setCell ⟨g, 1, none⟩ x1).setCell ⟨g, 2, none⟩ x2).setCell ⟨g, 3, none⟩ x3).setCell ⟨g, 4, none⟩ x4).setCell ⟨g, 5, none⟩ x5) :=
  (((((h.set 0 x0).set 1 x1).set 2 x2).set 3 x3).set 4 x4).set 5 x5
theorem six_cells {w : World} {g : Nat} {t : TypeId} {x0 x1 x2 x3 x4 x5 : Value} (h : Box g #[x0, x1, x2, x3, x4, x5] t w) :
    ((((((w.setCell ⟨g, 0, none⟩ x0).setCell ⟨g, 1, none⟩ x1).setCell ⟨g, 2, none⟩ x2).setCell ⟨g, 3, none⟩ x3).setCell ⟨g, 4, none⟩ x4).setCell ⟨g, 5, none⟩ x5).cell? ⟨g, 0, none⟩ = some x0 ∧ ((((((w.setCell ⟨g, 0, none⟩ x0).setCell ⟨g, 1, none⟩ x1).setCell ⟨g, 2, none⟩ x2).setCell ⟨g, 3, none⟩ x3).setCell ⟨g, 4, none⟩ x4).setCell ⟨g, 5, none⟩ x5).cell? ⟨g, 1, none⟩ = some x1 ∧ ((((((w.setCell ⟨g, 0, none⟩ x0).setCell ⟨g, 1, none⟩ x1).setCell ⟨g, 2, none⟩ x2).setCell ⟨g, 3, none⟩ x3).setCell ⟨g, 4, none⟩ x4).setCell ⟨g, 5, none⟩ x5).cell? ⟨g, 2, none⟩ = some x2 ∧ ((((((w.setCell ⟨g, 0, none⟩ x0).setCell ⟨g, 1, none⟩ x1).setCell ⟨g, 2, none⟩ x2).setCell ⟨g, 3, none⟩ x3).setCell ⟨g, 4, none⟩ x4).setCell ⟨g, 5, none⟩ x5).cell? ⟨g, 3, none⟩ = some x3 ∧ ((((((w.setCell ⟨g, 0, none⟩ x0).setCell ⟨g, 1, none⟩ x1).setCell ⟨g, 2, none⟩ x2).setCell ⟨g, 3, none⟩ x3).setCell ⟨g, 4, none⟩ x4).setCell ⟨g, 5, none⟩ x5).cell? ⟨g, 4, none⟩ = some x4 ∧ ((((((w.setCell ⟨g, 0, none⟩ x0).setCell ⟨g, 1, none⟩ x1).setCell ⟨g, 2, none⟩ x2).setCell ⟨g, 3, none⟩ x3).setCell ⟨g, 4, none⟩ x4).setCell ⟨g, 5, none⟩ x5).cell? ⟨g, 5, none⟩ = some x5 := cells6 (six_box h)
theorem six_cellsd {w : World} {g : Nat} {t : TypeId} {x0 x1 x2 x3 x4 x5 : Value} (h : Box g #[x0, x1, x2, x3, x4, x5] t w) :
    ((((((w.setCell ⟨g, 0, none⟩ x0).setCell ⟨g, 1, none⟩ x1).setCell ⟨g, 2, none⟩ x2).setCell ⟨g, 3, none⟩ x3).setCell ⟨g, 4, none⟩ x4).setCell ⟨g, 5, none⟩ x5).drew.cell? ⟨g, 0, none⟩ = some x0 ∧ ((((((w.setCell ⟨g, 0, none⟩ x0).setCell ⟨g, 1, none⟩ x1).setCell ⟨g, 2, none⟩ x2).setCell ⟨g, 3, none⟩ x3).setCell ⟨g, 4, none⟩ x4).setCell ⟨g, 5, none⟩ x5).drew.cell? ⟨g, 1, none⟩ = some x1 ∧ ((((((w.setCell ⟨g, 0, none⟩ x0).setCell ⟨g, 1, none⟩ x1).setCell ⟨g, 2, none⟩ x2).setCell ⟨g, 3, none⟩ x3).setCell ⟨g, 4, none⟩ x4).setCell ⟨g, 5, none⟩ x5).drew.cell? ⟨g, 2, none⟩ = some x2 ∧ ((((((w.setCell ⟨g, 0, none⟩ x0).setCell ⟨g, 1, none⟩ x1).setCell ⟨g, 2, none⟩ x2).setCell ⟨g, 3, none⟩ x3).setCell ⟨g, 4, none⟩ x4).setCell ⟨g, 5, none⟩ x5).drew.cell? ⟨g, 3, none⟩ = some x3 ∧ ((((((w.setCell ⟨g, 0, none⟩ x0).setCell ⟨g, 1, none⟩ x1).setCell ⟨g, 2, none⟩ x2).setCell ⟨g, 3, none⟩ x3).setCell ⟨g, 4, none⟩ x4).setCell ⟨g, 5, none⟩ x5).drew.cell? ⟨g, 4, none⟩ = some x4 ∧ ((((((w.setCell ⟨g, 0, none⟩ x0).setCell ⟨g, 1, none⟩ x1).setCell ⟨g, 2, none⟩ x2).setCell ⟨g, 3, none⟩ x3).setCell ⟨g, 4, none⟩ x4).setCell ⟨g, 5, none⟩ x5).drew.cell? ⟨g, 5, none⟩ = some x5 := cells6d (six_box h)
theorem six_below {B : Nat} {W w : World} {g : Nat} {x0 x1 x2 x3 x4 x5 : Value} (h : Below B W w) (hg : B ≤ g) : Below B W ((((((w.setCell ⟨g, 0, none⟩ x0).setCell ⟨g, 1, none⟩ x1).setCell ⟨g, 2, none⟩ x2).setCell ⟨g, 3, none⟩ x3).setCell ⟨g, 4, none⟩ x4).setCell ⟨g, 5, none⟩ x5) :=
  (((((h.setCell hg x0).setCell hg x1).setCell hg x2).setCell hg x3).setCell hg x4).setCell hg x5
abbrev zeroSt : Array Value := #[.int .i64 0, .int .i64 0, .int .i64 0, .int .i64 0, .int .i64 0, .int .i64 0]
set_option maxHeartbeats 4000000 in
set_option maxRecDepth 100000 in
theorem impl_cutall (a : Option Addr) (n cap : Nat) (L : List Go.Proofs.YtmgeecdgebemdaaGreatDoor.stm.St) (hcap : n ≤ cap) (w : World) (h : StRow w a n L) (hb : IsBlk L) (s : Go.Proofs.YtmgeecdgebemdaaGreatDoor.stm.St) (hs : L[0]? = some s) (e : Nat) (he : (opn s = false ∧ e = 0) ∨ (opn s = true ∧ IsEnd L 0 e)) :
    Calls Tryz.prog 145 #[.slice a n cap] w (CutAll w a n e L s) := by
  have HL := Lib.hid h
  have HB := Lib.hid hb
  have hn24 : n ≤ 24 := by have := hb.2.2; have := h.1; omega
  have hn0 : 0 < n := by have := (List.getElem?_eq_some_iff.1 hs).1; have := h.1; omega
  obtain ⟨b, off, s', ha, hlb, hs', hrg⟩ := h.2 0 hn0
  obtain rfl : s' = s := by rw [hs] at hs'; exact (Option.some.inj hs').symm
  subst ha
  have HR := Lib.hid ((h.below (below_new w (.cells zeroSt 112))))
  have HR0 := Lib.hid (show (w.alloc (.cells zeroSt 112)).rangeAt b off (stC s') from fun j v hj => by
    have h9 := hrg j v hj
    rw [Nat.zero_mul, Nat.add_zero] at h9
    exact ((below_new w (.cells zeroSt 112)).cell (p := ⟨b, off + j, none⟩) hlb).trans h9)
  have HX := Lib.hid (And.intro (Box.new w zeroSt 112) (below_new w (.cells zeroSt 112)))
  have hI0 : (0 : Int) < n := by omega
  have hI1 : (1 : Int) ≤ n := by omega
  have hcI : (n : Int) ≤ cap := by omega
  have HSS := Lib.hid hs
  clear h hb hs hs' hrg
  rcases he with ⟨ho, rfl⟩ | ⟨ho, he⟩
  · have HO := Lib.hid ho
    clear ho
    have hw1 : IntKind.i64.wrap 1 = 1 := by decide
    have hw01 : IntKind.i64.wrap (0 + 1) = 1 := by decide
    have hnn : (n : Int) ≤ n := Int.le_refl _
    have h01 : (0 : Int) ≤ 1 := by omega
    obtain ⟨A, hA, HA⟩ : ∃ A, (if n = 1 then some (⟨b, off, none⟩ : Addr) else some ⟨b, off + 6, none⟩) = A ∧ Hid (1 < n → A = some ⟨b, off + 6, none⟩) := ⟨_, rfl, fun h => if_neg (by omega)⟩
    go_enter Tryz.func145, Tryz.ntmps145
    go_wp2_with (first
      | (refine wpList_load_mid rfl 112 _ rfl b off rfl (stC s') _ HR0.out Tryz.underlying112 rfl (by kernel_rfl) ?_)
      | ((refine wpList_store_box rfl 112 _ _ rfl w.heap.size _ _ HX.out.1 #[.int .i64 s'.k, .int .i64 s'.v, .int .i64 s'.n, .int .i64 s'.o, .int .i64 s'.a, .int .i64 s'.b] rfl rfl rfl (by kernel_rfl) (by simp [Value.oneCell']) ?_); intro w1 hx1 hg1; refine Hid.out ?_))
    have H1 := Lib.hid (And.intro hx1 (HX.out.2.grown hg1 HX.out.2.size (fun j hj => by cases hj; exact Nat.le_refl _)))
    clear hx1 hg1
    refine Lib.hid ?_
    go_wp2_with (first
      | (refine wpList_load_row rfl 112 _ rfl w.heap.size rfl _ _ _ _ H1.out.1 Tryz.underlying112 rfl (by kernel_rfl) ?_)
      | (go_at_call 188; (with_reducible refine (impl_hasbody s' false HO.out _).mono ?_); rintro e2 w2 ⟨rfl, hb2⟩; refine Hid.out ?_))
    have H2 := Lib.hid (And.intro (H1.out.1.below hb2) (below_then H1.out.2 hb2))
    clear hb2
    refine Lib.hid ?_
    have HX2e : Box w.heap.size #[.int .i64 s'.k, .int .i64 s'.v, .int .i64 s'.n, .int .i64 s'.o, .int .i64 s'.a, .int .i64 s'.b] 112 w2 := H2.out.1
    have HX2 : Box w.heap.size #[.int .i64 s'.k, .int .i64 s'.v, .int .i64 s'.n, .int .i64 s'.o, .int .i64 s'.a, .int .i64 s'.b] 112 w2.drew := H2.out.1
    have hR2d : w2.drew.cell? ⟨w.heap.size, 0, none⟩ = some (.int .i64 s'.k) ∧ w2.drew.cell? ⟨w.heap.size, 1, none⟩ = some (.int .i64 s'.v) ∧ w2.drew.cell? ⟨w.heap.size, 2, none⟩ = some (.int .i64 s'.n) ∧ w2.drew.cell? ⟨w.heap.size, 3, none⟩ = some (.int .i64 s'.o) ∧ w2.drew.cell? ⟨w.heap.size, 4, none⟩ = some (.int .i64 s'.a) ∧ w2.drew.cell? ⟨w.heap.size, 5, none⟩ = some (.int .i64 s'.b) := cells6d H2.out.1
    have r0 : w2.cell? ⟨w.heap.size, 0, none⟩ = some (.int .i64 s'.k) := HX2e.cell 0
    have r1 : w2.cell? ⟨w.heap.size, 1, none⟩ = some (.int .i64 s'.v) := HX2e.cell 1
    have r2 : w2.cell? ⟨w.heap.size, 2, none⟩ = some (.int .i64 s'.n) := HX2e.cell 2
    have r3 : w2.cell? ⟨w.heap.size, 3, none⟩ = some (.int .i64 s'.o) := HX2e.cell 3
    have r4 : w2.cell? ⟨w.heap.size, 4, none⟩ = some (.int .i64 s'.a) := HX2e.cell 4
    have r5 : w2.cell? ⟨w.heap.size, 5, none⟩ = some (.int .i64 s'.b) := HX2e.cell 5
    have f0 : w2.frozen? ⟨w.heap.size, 0, none⟩ = false := HX2e.frozen 0
    have f1 : w2.frozen? ⟨w.heap.size, 1, none⟩ = false := HX2e.frozen 1
    have f2 : w2.frozen? ⟨w.heap.size, 2, none⟩ = false := HX2e.frozen 2
    have f3 : w2.frozen? ⟨w.heap.size, 3, none⟩ = false := HX2e.frozen 3
    have f4 : w2.frozen? ⟨w.heap.size, 4, none⟩ = false := HX2e.frozen 4
    have f5 : w2.frozen? ⟨w.heap.size, 5, none⟩ = false := HX2e.frozen 5
    go_wp2
    go_region_held3 (fun w' => w'.cell? ⟨w.heap.size, 0, none⟩ = some (.int .i64 s'.k) ∧ w'.cell? ⟨w.heap.size, 1, none⟩ = some (.int .i64 s'.v) ∧ w'.cell? ⟨w.heap.size, 2, none⟩ = some (.int .i64 s'.n) ∧ w'.cell? ⟨w.heap.size, 3, none⟩ = some (.int .i64 s'.o) ∧ w'.cell? ⟨w.heap.size, 4, none⟩ = some (.int .i64 s'.a) ∧ w'.cell? ⟨w.heap.size, 5, none⟩ = some (.int .i64 s'.b))
      (first | (with_reducible exact six_cells HX2) | (with_reducible exact six_cellsd HX2e) | (with_reducible exact six_cellsd HX2) | (with_reducible exact hR2d) | (with_reducible assumption))
      (fail)
    have HW := And.intro (six_box HX2e) (six_below H2.out.2 (Nat.le_refl w.heap.size) (g := w.heap.size) (x0 := .int .i64 s'.k) (x1 := .int .i64 s'.v) (x2 := .int .i64 s'.n) (x3 := .int .i64 s'.o) (x4 := .int .i64 s'.a) (x5 := .int .i64 s'.b))
    obtain ⟨w6, hw6⟩ : ∃ w6, ((((((w2.setCell ⟨w.heap.size, 0, none⟩ (.int .i64 s'.k)).setCell ⟨w.heap.size, 1, none⟩ (.int .i64 s'.v)).setCell ⟨w.heap.size, 2, none⟩ (.int .i64 s'.n)).setCell ⟨w.heap.size, 3, none⟩ (.int .i64 s'.o)).setCell ⟨w.heap.size, 4, none⟩ (.int .i64 s'.a)).setCell ⟨w.heap.size, 5, none⟩ (.int .i64 s'.b)) = w6 := ⟨_, rfl⟩
    rw [hw6] at HW ⊢
    have H6 := Lib.hid (show Box w.heap.size #[.int .i64 s'.k, .int .i64 s'.v, .int .i64 s'.n, .int .i64 s'.o, .int .i64 s'.a, .int .i64 s'.b] 112 w6.drew ∧ Below w.heap.size w w6.drew from ⟨HW.1, Below.drew HW.2⟩)
    clear HW hw6 HX2e HX2 hR2d r0 r1 r2 r3 r4 r5 f0 f1 f2 f3 f4 f5
    obtain ⟨w7, hw7⟩ : ∃ w7, w6.drew = w7 := ⟨_, rfl⟩
    rw [hw7] at H6 ⊢
    clear hw7
    go_wp2
    exact bodyPost_ret (v := .tuple #[stV s', .slice (none) (0 - 1) (0 - 1), .slice (A) (n - (0 + 1)) (n - (0 + 1))]) (results_box3 rfl _ _ w.heap.size _ _ _ _ _ rfl rfl rfl H6.out.1 Tryz.underlying112 rfl (by kernel_rfl)) rfl ⟨_, _, rfl, fun W0 hW0 => ⟨StRow.cut hW0 (1) (0 - 1) (by omega) (fun x y hxy h0 => by omega), StRow.cut hW0 (0 + 1) (n - (0 + 1)) (by omega) (fun x y hxy h0 => by cases hxy; exact HA.out (by omega))⟩, H6.out.2⟩
  · have HO := Lib.hid ho
    have HE := Lib.hid he
    have hen0 := he.1
    have hen1 : e < n := by have := he.2.1; have := HL.out.1; omega
    clear ho he
    have HC := Lib.hid (show ∀ w1 : World, StRow w1 (some ⟨b, off, none⟩) n L → Calls Tryz.prog 189 #[.slice (some ⟨b, off, none⟩) n cap, .int .i64 0] w1 (BelI w1 e) from fun w1 h1 => impl_end _ n cap L w1 h1 HB.out 0 e HE.out e rfl)
    have hwe : IntKind.i64.wrap ((e : Int) + 1) = (e : Int) + 1 := IntWalk.i64_in _ (by omega)
    have hnn : (n : Int) ≤ n := Int.le_refl _
    have h01 : (0 : Int) ≤ 1 := by omega
    have h1e : (1 : Int) ≤ e := by omega
    have hec : (e : Int) ≤ cap := by omega
    have hee : (e : Int) ≤ e := Int.le_refl _
    have hen : (e : Int) + 1 ≤ n := by omega
    have h0e : (0 : Int) ≤ (e : Int) + 1 := by omega
    obtain ⟨A, hA, HA⟩ : ∃ A, (if e = 1 then some (⟨b, off, none⟩ : Addr) else some ⟨b, off + 6, none⟩) = A ∧ Hid (1 < e → A = some ⟨b, off + 6, none⟩) := ⟨_, rfl, fun h => if_neg (by omega)⟩
    obtain ⟨B, hB, HBB⟩ : ∃ B, (if n = e + 1 then some (⟨b, off, none⟩ : Addr) else some ⟨b, off + (e + 1) * 6, none⟩) = B ∧ Hid (e + 1 < n → B = some ⟨b, off + (e + 1) * 6, none⟩) := ⟨_, rfl, fun h => if_neg (by omega)⟩
    go_enter Tryz.func145, Tryz.ntmps145
    go_wp2_with (first
      | (refine wpList_load_mid rfl 112 _ rfl b off rfl (stC s') _ HR0.out Tryz.underlying112 rfl (by kernel_rfl) ?_)
      | ((refine wpList_store_box rfl 112 _ _ rfl w.heap.size _ _ HX.out.1 #[.int .i64 s'.k, .int .i64 s'.v, .int .i64 s'.n, .int .i64 s'.o, .int .i64 s'.a, .int .i64 s'.b] rfl rfl rfl (by kernel_rfl) (by simp [Value.oneCell']) ?_); intro w1 hx1 hg1; refine Hid.out ?_))
    have H1 := Lib.hid (And.intro hx1 (HX.out.2.grown hg1 HX.out.2.size (fun j hj => by cases hj; exact Nat.le_refl _)))
    clear hx1 hg1
    refine Lib.hid ?_
    go_wp2_with (first
      | (refine wpList_load_row rfl 112 _ rfl w.heap.size rfl _ _ _ _ H1.out.1 Tryz.underlying112 rfl (by kernel_rfl) ?_)
      | (go_at_call 188; (with_reducible refine (impl_hasbody s' true HO.out _).mono ?_); rintro e2 w2 ⟨rfl, hb2⟩; refine Hid.out ?_))
    have H2 := Lib.hid (And.intro (H1.out.1.below hb2) (below_then H1.out.2 hb2))
    clear hb2
    refine Lib.hid ?_
    go_wp2_with (go_at_call 189; (with_reducible refine (HC.out _ (HL.out.below H2.out.2)).mono ?_); rintro e3 w3 ⟨rfl, hb3⟩; refine Hid.out ?_)
    have H3 := Lib.hid (And.intro (H2.out.1.below hb3) (below_then H2.out.2 hb3))
    clear hb3
    refine Lib.hid ?_
    have HX2e : Box w.heap.size #[.int .i64 s'.k, .int .i64 s'.v, .int .i64 s'.n, .int .i64 s'.o, .int .i64 s'.a, .int .i64 s'.b] 112 w3 := H3.out.1
    have HX2 : Box w.heap.size #[.int .i64 s'.k, .int .i64 s'.v, .int .i64 s'.n, .int .i64 s'.o, .int .i64 s'.a, .int .i64 s'.b] 112 w3.drew := H3.out.1
    have hR2d : w3.drew.cell? ⟨w.heap.size, 0, none⟩ = some (.int .i64 s'.k) ∧ w3.drew.cell? ⟨w.heap.size, 1, none⟩ = some (.int .i64 s'.v) ∧ w3.drew.cell? ⟨w.heap.size, 2, none⟩ = some (.int .i64 s'.n) ∧ w3.drew.cell? ⟨w.heap.size, 3, none⟩ = some (.int .i64 s'.o) ∧ w3.drew.cell? ⟨w.heap.size, 4, none⟩ = some (.int .i64 s'.a) ∧ w3.drew.cell? ⟨w.heap.size, 5, none⟩ = some (.int .i64 s'.b) := cells6d H3.out.1
    have r0 : w3.cell? ⟨w.heap.size, 0, none⟩ = some (.int .i64 s'.k) := HX2e.cell 0
    have r1 : w3.cell? ⟨w.heap.size, 1, none⟩ = some (.int .i64 s'.v) := HX2e.cell 1
    have r2 : w3.cell? ⟨w.heap.size, 2, none⟩ = some (.int .i64 s'.n) := HX2e.cell 2
    have r3 : w3.cell? ⟨w.heap.size, 3, none⟩ = some (.int .i64 s'.o) := HX2e.cell 3
    have r4 : w3.cell? ⟨w.heap.size, 4, none⟩ = some (.int .i64 s'.a) := HX2e.cell 4
    have r5 : w3.cell? ⟨w.heap.size, 5, none⟩ = some (.int .i64 s'.b) := HX2e.cell 5
    have f0 : w3.frozen? ⟨w.heap.size, 0, none⟩ = false := HX2e.frozen 0
    have f1 : w3.frozen? ⟨w.heap.size, 1, none⟩ = false := HX2e.frozen 1
    have f2 : w3.frozen? ⟨w.heap.size, 2, none⟩ = false := HX2e.frozen 2
    have f3 : w3.frozen? ⟨w.heap.size, 3, none⟩ = false := HX2e.frozen 3
    have f4 : w3.frozen? ⟨w.heap.size, 4, none⟩ = false := HX2e.frozen 4
    have f5 : w3.frozen? ⟨w.heap.size, 5, none⟩ = false := HX2e.frozen 5
    go_wp2
    go_region_held3 (fun w' => w'.cell? ⟨w.heap.size, 0, none⟩ = some (.int .i64 s'.k) ∧ w'.cell? ⟨w.heap.size, 1, none⟩ = some (.int .i64 s'.v) ∧ w'.cell? ⟨w.heap.size, 2, none⟩ = some (.int .i64 s'.n) ∧ w'.cell? ⟨w.heap.size, 3, none⟩ = some (.int .i64 s'.o) ∧ w'.cell? ⟨w.heap.size, 4, none⟩ = some (.int .i64 s'.a) ∧ w'.cell? ⟨w.heap.size, 5, none⟩ = some (.int .i64 s'.b))
      (first | (with_reducible exact six_cells HX2) | (with_reducible exact six_cellsd HX2e) | (with_reducible exact six_cellsd HX2) | (with_reducible exact hR2d) | (with_reducible assumption))
      (fail)
    have HW := And.intro (six_box HX2e) (six_below H3.out.2 (Nat.le_refl w.heap.size) (g := w.heap.size) (x0 := .int .i64 s'.k) (x1 := .int .i64 s'.v) (x2 := .int .i64 s'.n) (x3 := .int .i64 s'.o) (x4 := .int .i64 s'.a) (x5 := .int .i64 s'.b))
    obtain ⟨w6, hw6⟩ : ∃ w6, ((((((w3.setCell ⟨w.heap.size, 0, none⟩ (.int .i64 s'.k)).setCell ⟨w.heap.size, 1, none⟩ (.int .i64 s'.v)).setCell ⟨w.heap.size, 2, none⟩ (.int .i64 s'.n)).setCell ⟨w.heap.size, 3, none⟩ (.int .i64 s'.o)).setCell ⟨w.heap.size, 4, none⟩ (.int .i64 s'.a)).setCell ⟨w.heap.size, 5, none⟩ (.int .i64 s'.b)) = w6 := ⟨_, rfl⟩
    rw [hw6] at HW ⊢
    have H6 := Lib.hid (show Box w.heap.size #[.int .i64 s'.k, .int .i64 s'.v, .int .i64 s'.n, .int .i64 s'.o, .int .i64 s'.a, .int .i64 s'.b] 112 w6.drew ∧ Below w.heap.size w w6.drew from ⟨HW.1, Below.drew HW.2⟩)
    clear HW hw6 HX2e HX2 hR2d r0 r1 r2 r3 r4 r5 f0 f1 f2 f3 f4 f5
    obtain ⟨w7, hw7⟩ : ∃ w7, w6.drew = w7 := ⟨_, rfl⟩
    rw [hw7] at H6 ⊢
    clear hw7
    go_wp2
    exact bodyPost_ret (v := .tuple #[stV s', .slice (A) (e - 1) (e - 1), .slice (B) (n - (e + 1)) (n - (e + 1))]) (results_box3 rfl _ _ w.heap.size _ _ _ _ _ rfl rfl rfl H6.out.1 Tryz.underlying112 rfl (by kernel_rfl)) rfl ⟨_, _, rfl, fun W0 hW0 => ⟨StRow.cut hW0 1 (e - 1) (by omega) (fun x y hxy h0 => by cases hxy; exact HA.out (by omega)), StRow.cut hW0 (e + 1) (n - (e + 1)) (by omega) (fun x y hxy h0 => by cases hxy; exact HBB.out (by omega))⟩, H6.out.2⟩
theorem impl_cut (a : Option Addr) (n cap : Nat) (L : List Go.Proofs.YtmgeecdgebemdaaGreatDoor.stm.St) (hcap : n ≤ cap) (w : World) (h : StRow w a n L) (hb : IsBlk L) (s : Go.Proofs.YtmgeecdgebemdaaGreatDoor.stm.St) (hs : L[0]? = some s) (e : Nat) (he : (opn s = false ∧ e = 0) ∨ (opn s = true ∧ IsEnd L 0 e)) :
    Calls Tryz.prog 145 #[.slice a n cap] w (CutOut w n e L s) :=
  (impl_cutall a n cap L hcap w h hb s hs e he).mono fun _ w' ⟨a1, a2, h1, h2, h3⟩ => ⟨a1, a2, h1, h2.out w' (h.below h3), h3⟩
end Go.Proofs.YtmgeecdgebemdaaGreatDoor.blk

/- Chapter 5's program: LongestRun: how many statements run; nothing that was there is written. -/
namespace Go.Proofs.YtmgeecdgebemdaaGreatDoor.blk
open Go Go.ChangeShapes Go.WideShapes Go.ChangeAt Go.RowKit Go.Proofs.YtmgeecdgebemdaaGreatDoor.row Go.Proofs.YtmgeecdgebemdaaGreatDoor.val Go.Proofs.YtmgeecdgebemdaaGreatDoor.expr Go.Proofs.YtmgeecdgebemdaaGreatDoor.stm
def lenV : Value → Nat
  | .slice _ n _ => n
  | _ => 0
end Go.Proofs.YtmgeecdgebemdaaGreatDoor.blk
