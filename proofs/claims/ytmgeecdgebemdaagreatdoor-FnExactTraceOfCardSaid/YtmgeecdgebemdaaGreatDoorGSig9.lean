/- Several texts in one: ExeT EvalC. -/
import Derived.Test.YtmgeecdgebemdaaGreatDoorGSig7
import Derived.Test.YtmgeecdgebemdaaGreatDoorGSig8
import Derived.Deep.AppendLies
import Derived.Test.YtmgeecdgebemdaaGreatDoorGSig3
import Derived.Deep.QuietTactic
import Derived.BigQuiet

/- The program's state of an execution in memory: a struct that holds three rows of its own, the function that yields the readings and the observer; the observer's own memory lies apart; nothing else that was there is written. -/
namespace Go.Proofs.YtmgeecdgebemdaaGreatDoor.exe
open Go Go.ChangeShapes Go.WideShapes Go.ChangeAt Go.RowKit Go.Proofs.YtmgeecdgebemdaaGreatDoor.row Go.Proofs.YtmgeecdgebemdaaGreatDoor.val Go.Proofs.YtmgeecdgebemdaaGreatDoor.expr Go.Proofs.YtmgeecdgebemdaaGreatDoor.stm Go.Proofs.YtmgeecdgebemdaaGreatDoor.blk Go.Proofs.YtmgeecdgebemdaaGreatDoor.sets Go.Proofs.YtmgeecdgebemdaaGreatDoor.rss

/-- No block stands in both. -/
def Dj (l k : List (Option Nat)) : Prop := ∀ (i j b : Nat), l[i]? = some (some b) → k[j]? ≠ some (some b)
theorem Dj.left {l l' k : List (Option Nat)} {w w' : World} (h : Dj l k) (m : Mv l w l' w') (hk : ∀ (j b : Nat), k[j]? = some (some b) → b < w.heap.size) : Dj l' k := fun i j b hi hj => by
  obtain ⟨i', hi'⟩ := m.sub i b hi (hk j b hj)
  exact h i' j b hi' hj
theorem Dj.symm {l k : List (Option Nat)} (h : Dj l k) : Dj k l := fun i j b hi hj => h j i b hj hi
theorem Dj.right {l k k' : List (Option Nat)} {w w' : World} (h : Dj l k) (m : Mv k w k' w') (hl : ∀ (j b : Nat), l[j]? = some (some b) → b < w.heap.size) : Dj l k' := (h.symm.left m hl).symm
theorem Dj.nil (l : List (Option Nat)) : Dj l [] := fun _ j _ _ hj => by simp at hj
/-- What is not moved stays. -/
theorem mv_keeps {l l' k : List (Option Nat)} {w w' : World} (m : Mv l w l' w') (h : Dj l k) (hk : ∀ (j b : Nat), k[j]? = some (some b) → b < w.heap.size) : ∀ (j b : Nat), k[j]? = some (some b) → w'.heap[b]? = w.heap[b]? := fun j b hj => m.block b (hk j b hj) (fun i hi => h i j b hi hj)
theorem own_stays {w w' : World} {B n s : Nat} {e : TypeId} {v : Value} {xs : List Value} (h : w.ownsRow B e s v n xs) (hk : ∀ b, v.ownBlock = some b → w'.heap[b]? = w.heap[b]?) : w'.ownsRow B e s v n xs := by
  refine ⟨h.1, ?_⟩
  rcases h.2 with hn | ⟨g, cap, cur, rfl, hb, hgg, rest⟩
  · exact .inl hn
  · exact .inr ⟨g, cap, cur, rfl, hb, (hk g rfl).trans hgg, rest⟩
theorem rs_stays {B g : Nat} {l : List RS} {w w' : World} (h : RsAt B g l w) (hs : w.heap.size ≤ w'.heap.size) (hk : ∀ (j b : Nat), (blks g l)[j]? = some (some b) → w'.heap[b]? = w.heap[b]?) : RsAt B g l w' := by
  refine ⟨h.low, Nat.lt_of_lt_of_le h.lt hs, fun j r hr => ?_, h.sep⟩
  exact own_stays (h.own j r hr) (fun b hb => hk (j + 1) b (by rw [blks_at hr, hb]))

/-- What the program's execution is given: where the function that yields the readings finds its list, and the number of the first one. -/
structure PCf where
  (lv : Bool) (gu gz : Nat) (al : Option Addr) (nl cl : Nat) (Y : List Int) (z : Int)
def PCf.src (c : PCf) : Int → Nat → Int := if c.lv then liveSrc c.Y c.z else listSrc c.Y
/-- The variables that the function has captured. -/
def PCf.cap (c : PCf) : List (Option Nat) := [some c.gu, if c.lv then some c.gz else none]
abbrev fnS (gu gz : Nat) : Value := .func (.func 139) #[] #[.pointer (some ⟨gu, 0, none⟩), .pointer (some ⟨gz, 0, none⟩)]
def liveOk : Prop := True
abbrev fnT (_ : Nat) : Value := .nilFunc
def listOk : Prop := False
def PCf.fn (c : PCf) : Value := if c.lv then fnS c.gu c.gz else fnT c.gu
/-- The readings are there, and they are values. -/
def PCfS (c : PCf) (w : World) : Prop := Row w c.al c.nl c.Y ∧ (c.nl : Int) ≤ 1048576 ∧ (0 ≤ c.z ∧ c.z ≤ 1000000) ∧ allV c.Y = true
/-- The variables that the function has captured are there. -/
def CapAt (c : PCf) (w : World) : Prop := (c.gu < w.heap.size ∧ w.cell? ⟨c.gu, 0, none⟩ = some (.slice c.al c.nl c.cl)) ∧ (c.lv = true → liveOk ∧ c.gz < w.heap.size ∧ w.cell? ⟨c.gz, 0, none⟩ = some (.int .i64 c.z)) ∧ (c.lv = false → listOk)
theorem PCfS.below {c : PCf} {w w' : World} (h : PCfS c w) (hb : Below w.heap.size w w') : PCfS c w' := ⟨h.1.below hb, h.2⟩
theorem CapAt.lt {c : PCf} {w : World} (h : CapAt c w) : ∀ (j b : Nat), c.cap[j]? = some (some b) → b < w.heap.size
  | 0, b, e => by
    have e2 : some c.gu = some b := Option.some.inj e
    cases e2; exact h.1.1
  | 1, b, e => by
    have e2 : (if c.lv then some c.gz else none) = some b := Option.some.inj e
    split at e2
    · cases e2; exact (h.2.1 (by assumption)).2.1
    · cases e2
  | j + 2, b, e => by simp [PCf.cap] at e
theorem CapAt.stays {c : PCf} {w w' : World} (h : CapAt c w) (hs : w.heap.size ≤ w'.heap.size) (hk : ∀ (j b : Nat), c.cap[j]? = some (some b) → w'.heap[b]? = w.heap[b]?) : CapAt c w' := by
  refine ⟨⟨Nat.lt_of_lt_of_le h.1.1 hs, (World.cell?_of_block (a := ⟨c.gu, 0, none⟩) (hk 0 c.gu rfl)).trans h.1.2⟩, fun e => ?_, h.2.2⟩
  obtain ⟨h1, h2, h3⟩ := h.2.1 e
  exact ⟨h1, Nat.lt_of_lt_of_le h2 hs, (World.cell?_of_block (a := ⟨c.gz, 0, none⟩) (hk 1 c.gz (by simp [PCf.cap, e]))).trans h3⟩
theorem CapAt.below {c : PCf} {w w' : World} (h : CapAt c w) (hb : Below w.heap.size w w') : CapAt c w' := h.stays hb.size (fun j b hj => hb.block b (h.lt j b hj))
theorem PCf.src_val {c : PCf} {w : World} (h : PCfS c w) (q : Int) (n : Nat) : isVal (c.src q n) = true := by
  unfold PCf.src
  split
  · exact liveSrc_val _ _ _ _
  · exact listSrc_val h.2.2.2 _ _
/-- An observer: the function, and what holds of its own memory. -/
structure Obs (B : Nat) extends Obm where
  (k : FuncId) (fc : Array Value)
  (ent : ∀ (args : Array Value) (w : World), (callFunc k args).run Tryz.prog w = .ok (.enter k args) w)
  (At : τ → List (Option Nat) → World → Prop)
  (base : ∀ t F w, At t F w → ∀ (j b : Nat), F[j]? = some (some b) → B ≤ b ∧ b < w.heap.size)
  (stay : ∀ t F w w', At t F w → w.heap.size ≤ w'.heap.size → (∀ (j b : Nat), F[j]? = some (some b) → w'.heap[b]? = w.heap[b]?) → At t F w')
/-- Where the rows lie. -/
structure Pp where
  (gv cv : Nat) (a1 : Option Addr) (n1 c1 : Nat) (a2 : Option Addr) (n2 c2 : Nat)
abbrev Obs.fn {B : Nat} (o : Obs B) : Value := .func (.func o.k) #[] o.fc
abbrev pxC {B : Nat} (p : Pp) (c : PCf) (o : Obs B) : Array Value :=
  #[.slice (some ⟨p.gv, 0, none⟩) 8 p.cv, .slice p.a1 p.n1 p.c1, .slice p.a2 p.n2 p.c2, c.fn, .func (.func o.k) #[] o.fc]
abbrev pxL (p : Pp) (x : Sx) : List RS := [⟨.slice (some ⟨p.gv, 0, none⟩) 8 p.cv, 8, ivs x.V, 3, 1⟩, ⟨.slice p.a1 p.n1 p.c1, p.n1, ivs x.S, 3, 1⟩, ⟨.slice p.a2 p.n2 p.c2, p.n2, ivs x.U, 3, 1⟩]
abbrev pxB (g : Nat) (p : Pp) (x : Sx) : List (Option Nat) := blks g (pxL p x)
/-- The block 'g' holds the state 'x', the observer's memory its state 't'. -/
structure PxAt (B g : Nat) (p : Pp) (c : PCf) (o : Obs B) (x : Sx) (t : o.τ) (F : List (Option Nat)) (w : World) : Prop where
  box : Box g (pxC p c o) 110 w
  rows : RsAt B g (pxL p x) w
  cap : CapAt c w
  ob : o.At t F w
  d1 : Dj (pxB g p x) F
  d2 : Dj (pxB g p x) c.cap
  d3 : Dj F c.cap
def Px (B g : Nat) (c : PCf) (o : Obs B) (z : o.Z) (w : World) : Prop := ∃ (p : Pp) (F : List (Option Nat)), PxAt B g p c o z.1 z.2 F w
theorem PxAt.lt {B g : Nat} {p : Pp} {c : PCf} {o : Obs B} {x : Sx} {t : o.τ} {F : List (Option Nat)} {w : World} (h : PxAt B g p c o x t F w) : g < w.heap.size := h.rows.lt
theorem PxAt.vars {B g : Nat} {p : Pp} {c : PCf} {o : Obs B} {x : Sx} {t : o.τ} {F : List (Option Nat)} {w : World} (h : PxAt B g p c o x t F w) : w.ownsRow B 3 1 (.slice (some ⟨p.gv, 0, none⟩) 8 p.cv) 8 (ivs x.V) := h.rows.own 0 _ rfl
theorem PxAt.sent {B g : Nat} {p : Pp} {c : PCf} {o : Obs B} {x : Sx} {t : o.τ} {F : List (Option Nat)} {w : World} (h : PxAt B g p c o x t F w) : w.ownsRow B 3 1 (.slice p.a1 p.n1 p.c1) p.n1 (ivs x.S) := h.rows.own 1 _ rfl
theorem PxAt.used {B g : Nat} {p : Pp} {c : PCf} {o : Obs B} {x : Sx} {t : o.τ} {F : List (Option Nat)} {w : World} (h : PxAt B g p c o x t F w) : w.ownsRow B 3 1 (.slice p.a2 p.n2 p.c2) p.n2 (ivs x.U) := h.rows.own 2 _ rfl
theorem PxAt.vrow {B g : Nat} {p : Pp} {c : PCf} {o : Obs B} {x : Sx} {t : o.τ} {F : List (Option Nat)} {w : World} (h : PxAt B g p c o x t F w) : Row w (some ⟨p.gv, 0, none⟩) 8 x.V := Row.of_own h.vars
theorem PxAt.slen {B g : Nat} {p : Pp} {c : PCf} {o : Obs B} {x : Sx} {t : o.τ} {F : List (Option Nat)} {w : World} (h : PxAt B g p c o x t F w) : x.S.length = p.n1 := own_len h.sent
theorem PxAt.ulen {B g : Nat} {p : Pp} {c : PCf} {o : Obs B} {x : Sx} {t : o.τ} {F : List (Option Nat)} {w : World} (h : PxAt B g p c o x t F w) : x.U.length = p.n2 := own_len h.used
theorem PxAt.vg {B g : Nat} {p : Pp} {c : PCf} {o : Obs B} {x : Sx} {t : o.τ} {F : List (Option Nat)} {w : World} (h : PxAt B g p c o x t F w) : p.gv ≠ g := fun e => h.rows.ne_g (j := 0) rfl (by rw [← e]; rfl)
theorem PxAt.gvB {B g : Nat} {p : Pp} {c : PCf} {o : Obs B} {x : Sx} {t : o.τ} {F : List (Option Nat)} {w : World} (h : PxAt B g p c o x t F w) : B ≤ p.gv ∧ p.gv < w.heap.size := own_block h.vars p.gv rfl
theorem PxAt.stays {B g : Nat} {p : Pp} {c : PCf} {o : Obs B} {x : Sx} {t : o.τ} {F : List (Option Nat)} {w w' : World} (h : PxAt B g p c o x t F w) (hb : Below w.heap.size w w') : PxAt B g p c o x t F w' :=
  ⟨h.box.below hb, h.rows.below hb, h.cap.below hb, o.stay t F w w' h.ob hb.size (fun j b hj => hb.block b (o.base t F w h.ob j b hj).2), h.d1, h.d2, h.d3⟩
theorem PxAt.below {B g : Nat} {p : Pp} {c : PCf} {o : Obs B} {x : Sx} {t : o.τ} {F : List (Option Nat)} {w w' : World} (h : PxAt B g p c o x t F w) (hb : Below w.heap.size w w') : PxAt B g p c o x t F w' := h.stays hb
/-- The observer has been told something: its memory alone has moved. -/
theorem PxAt.told {B g : Nat} {p : Pp} {c : PCf} {o : Obs B} {x : Sx} {t t' : o.τ} {F F' : List (Option Nat)} {w w' : World} (h : PxAt B g p c o x t F w) (ho : o.At t' F' w') (m : Mv F w F' w') : PxAt B g p c o x t' F' w' :=
  ⟨(m.block g h.lt (fun j e => h.d1 0 j g rfl e)).trans h.box, rs_stays h.rows m.size (mv_keeps m h.d1.symm h.rows.bound), h.cap.stays m.size (mv_keeps m h.d3 h.cap.lt), ho, h.d1.right m h.rows.bound, h.d2, h.d3.left m h.cap.lt⟩
theorem PxAt.told_below {B g : Nat} {p : Pp} {c : PCf} {o : Obs B} {x : Sx} {t : o.τ} {F F' : List (Option Nat)} {w w' : World} (h : PxAt B g p c o x t F w) (m : Mv F w F' w') (hB : B ≤ w.heap.size) : Below B w w' := m.below (fun j b e => (o.base t F w h.ob j b e).1) hB
/-- The execution's own memory has moved. -/
theorem PxAt.moved {B g : Nat} {p p' : Pp} {c : PCf} {o : Obs B} {x x' : Sx} {t : o.τ} {F : List (Option Nat)} {w w' : World} (h : PxAt B g p c o x t F w) (hx : Box g (pxC p' c o) 110 w') (hr : RsAt B g (pxL p' x') w') (m : Mv (pxB g p x) w (pxB g p' x') w') : PxAt B g p' c o x' t F w' :=
  ⟨hx, hr, h.cap.stays m.size (mv_keeps m h.d2 h.cap.lt), o.stay t F w w' h.ob m.size (mv_keeps m h.d1 (fun j b e => (o.base t F w h.ob j b e).2)), h.d1.left m (fun j b e => (o.base t F w h.ob j b e).2), h.d2.left m h.cap.lt, h.d3⟩
/-- A variable is set. -/
theorem PxAt.set {B g : Nat} {p : Pp} {c : PCf} {o : Obs B} {x : Sx} {t : o.τ} {F : List (Option Nat)} {w : World} (h : PxAt B g p c o x t F w) (k : Nat) (q : Int) :
    PxAt B g p c o ⟨x.V.set k q, x.S, x.U⟩ t F (w.setCell ⟨p.gv, k, none⟩ (.int .i64 q)) := by
  have hs := (h.vars.stored k (.int .i64 q)).1
  rw [ivs_set] at hs
  obtain ⟨hr, hbx, hmv⟩ := h.rows.cellset h.box (i := 0) rfl (grown_setCell w p.gv k (.int .i64 q)) (r' := ⟨.slice (some ⟨p.gv, 0, none⟩) 8 p.cv, 8, ivs (x.V.set k q), 3, 1⟩) hs rfl
  exact h.moved hbx hr hmv
theorem PxAt.set_below {B g : Nat} {p : Pp} {c : PCf} {o : Obs B} {x : Sx} {t : o.τ} {F : List (Option Nat)} {w w0 : World} (h : PxAt B g p c o x t F w) (k : Nat) (v : Value) (hB : Below B w0 w) (h0 : B ≤ w.heap.size) : Below B w0 (w.setCell ⟨p.gv, k, none⟩ v) :=
  hB.grown (grown_setCell w p.gv k v) h0 (fun j e => by cases e; exact h.gvB.1)
theorem PxAt.base {B g : Nat} {p : Pp} {c : PCf} {o : Obs B} {x : Sx} {t : o.τ} {F : List (Option Nat)} {w : World} (h : PxAt B g p c o x t F w) : B ≤ w.heap.size := Nat.le_trans h.rows.low (Nat.le_of_lt h.lt)
/-- Sent: the row of sent values has grown to a row, and the struct holds it. -/
theorem PxAt.send {B g : Nat} {p : Pp} {c : PCf} {o : Obs B} {x : Sx} {t : o.τ} {F : List (Option Nat)} {w w' : World} (h : PxAt B g p c o x t F w) {q : Int} {a3 : Option Addr} {c3 : Nat}
    (ho : w'.ownsRow B 3 1 (.slice a3 (p.n1 + 1) c3) (p.n1 + 1) (ivs (x.S ++ [q]))) (hg : w.grownBy w' (Value.slice p.a1 p.n1 p.c1).ownBlock) (hat : (Value.slice a3 (p.n1 + 1) c3).ownBlock = (Value.slice p.a1 p.n1 p.c1).ownBlock ∨ ∀ b, (Value.slice a3 (p.n1 + 1) c3).ownBlock = some b → w.heap.size ≤ b) :
    PxAt B g ⟨p.gv, p.cv, a3, p.n1 + 1, c3, p.a2, p.n2, p.c2⟩ c o ⟨x.V, x.S ++ [q], x.U⟩ t F (w'.setCell ⟨g, 1, none⟩ (.slice a3 (p.n1 + 1) c3)) ∧ Below B w (w'.setCell ⟨g, 1, none⟩ (.slice a3 (p.n1 + 1) c3)) ∧ Box g (pxC p c o) 110 w' := by
  obtain ⟨hr, hbx, hmv, hx⟩ := h.rows.app h.box (i := 1) rfl hg (r' := ⟨.slice a3 (p.n1 + 1) c3, p.n1 + 1, ivs (x.S ++ [q]), 3, 1⟩) ho hat 1 (.slice a3 (p.n1 + 1) c3)
  exact ⟨h.moved hbx hr hmv, hmv.below h.rows.base h.base, hx⟩
/-- Sensed: the row of used values has grown to a row, and the struct holds it. -/
theorem PxAt.sense {B g : Nat} {p : Pp} {c : PCf} {o : Obs B} {x : Sx} {t : o.τ} {F : List (Option Nat)} {w w' : World} (h : PxAt B g p c o x t F w) {q : Int} {a3 : Option Addr} {c3 : Nat}
    (ho : w'.ownsRow B 3 1 (.slice a3 (p.n2 + 1) c3) (p.n2 + 1) (ivs (x.U ++ [q]))) (hg : w.grownBy w' (Value.slice p.a2 p.n2 p.c2).ownBlock) (hat : (Value.slice a3 (p.n2 + 1) c3).ownBlock = (Value.slice p.a2 p.n2 p.c2).ownBlock ∨ ∀ b, (Value.slice a3 (p.n2 + 1) c3).ownBlock = some b → w.heap.size ≤ b) :
    PxAt B g ⟨p.gv, p.cv, p.a1, p.n1, p.c1, a3, p.n2 + 1, c3⟩ c o ⟨x.V, x.S, x.U ++ [q]⟩ t F (w'.setCell ⟨g, 2, none⟩ (.slice a3 (p.n2 + 1) c3)) ∧ Below B w (w'.setCell ⟨g, 2, none⟩ (.slice a3 (p.n2 + 1) c3)) ∧ Box g (pxC p c o) 110 w' := by
  obtain ⟨hr, hbx, hmv, hx⟩ := h.rows.app h.box (i := 2) rfl hg (r' := ⟨.slice a3 (p.n2 + 1) c3, p.n2 + 1, ivs (x.U ++ [q]), 3, 1⟩) ho hat 2 (.slice a3 (p.n2 + 1) c3)
  exact ⟨h.moved hbx hr hmv, hmv.below h.rows.base h.base, hx⟩
theorem Px.below {B g : Nat} {c : PCf} {o : Obs B} {z : o.Z} {w w' : World} (h : Px B g c o z w) (hb : Below w.heap.size w w') : Px B g c o z w' := by
  obtain ⟨p, F, h⟩ := h
  exact ⟨p, F, h.below hb⟩
abbrev stmA (s : Sm) : Array Value := #[.int .i64 s.k, .int .i64 s.v, .int .i64 s.n, .int .i64 s.o, .int .i64 s.a, .int .i64 s.b]
/-- What the observer does when it is told a statement. -/
def Tells (w0 : World) (c : PCf) (o : Obs w0.heap.size) (g : Nat) : Prop :=
  ∀ (w : World) (p : Pp) (F : List (Option Nat)) (x : Sx) (t : o.τ) (s : Sm) (v : Int), stOk s = true → s.k ≠ 6 → varsOk x.V = true → v = valS c.src s x → totZ (o := o.toObm) (x, t) ≤ 50000 → Below w0.heap.size w0 w → PxAt w0.heap.size g p c o x t F w →
    Calls Tryz.prog o.k (#[.agg (stmA s), .int .i64 v] ++ o.fc) w (fun e w' => e = .returned (.tuple #[]) ∧ ∃ F', o.At (o.nxt t x s v) F' w' ∧ Mv F w F' w')
end Go.Proofs.YtmgeecdgebemdaaGreatDoor.exe

/- Chapter 3's EvalExpr of the program: the plain function 'evalV'; nothing that was there is written. -/
namespace Go.Proofs.YtmgeecdgebemdaaGreatDoor.expr
open Go.ChangeShapes Go.WideShapes Go.ChangeAt Go.RowKit Go.Proofs.YtmgeecdgebemdaaGreatDoor.row Go.Proofs.YtmgeecdgebemdaaGreatDoor.val

theorem retq {P : Program} {f : FuncId} {args : Array Value} {w : World} {x : Int} (h : Calls P f args w (Ret w x)) : Calls P f args w fun e w' => e = .returned (.int .i64 x) ∧ w' = w := h.mono fun _ _ ⟨a, b⟩ => ⟨a, b.symm⟩
set_option maxHeartbeats 1000000 in
set_option maxRecDepth 100000 in
theorem impl_evalExpr (w : World) (ad : Option Addr) (n cap : Nat) (L : List Int) (hn : (n : Int) ≤ 1048576) (h : Row w ad n L) (o a b : Int) :
    Calls Tryz.prog 149 #[.slice ad n cap, ev o a b] w (BelI w (evalV L o a b)) := by
  have HR : Hid (∀ w' : World, Below w.heap.size w w' → Row w' ad n L) := fun w' hb => h.below hb
  clear h
  cases hv : varsOk L
  · have HV := Lib.hid (evalV_no (o := o) (a := a) (b := b) (Or.inl hv))
    go_enter Tryz.func149, Tryz.ntmps149
    go_wp2_with (go_at_call 108; refine (impl_vars _ _ _ _ L hn (HR.out _ ((Below.refl _ _).alloc (Nat.le_refl _) _)) _ hv).mono ?_; rintro e w1 ⟨rfl, rfl⟩)
    go_ret
    exact ⟨ret_i HV.out.symm, (Below.refl _ _).alloc (Nat.le_refl _) _⟩
  · cases he : exprOk o a b
    · have HV := Lib.hid (evalV_no (L := L) (Or.inr he))
      go_enter Tryz.func149, Tryz.ntmps149
      go_wp2_with (first
        | (go_at_call 108; refine (impl_vars _ _ _ _ L hn (HR.out _ ((Below.refl _ _).alloc (Nat.le_refl _) _)) _ hv).mono ?_; rintro e w1 ⟨rfl, rfl⟩)
        | (go_at_call 180; refine (impl_exprok _ _ _ _ he _).mono ?_; rintro e w1 ⟨rfl, hb1⟩))
      go_ret
      exact ⟨ret_i HV.out.symm, ((Below.refl _ _).alloc (Nat.le_refl _) _).trans (hb1.mono (by simp))⟩
    · obtain ⟨ho, ha, hb⟩ := (exprOk_iff o a b).1 he
      have HV := Lib.hid (evalV_ok hv he)
      have HA := Lib.hid (opndVal_ok ha hv)
      have HB := Lib.hid (opndVal_ok hb hv)
      clear ha hb
      have i1 : ∀ w, (Instr.index 212 opsV (.int .i64 1)).run Tryz.prog w = .ok (.func (.func 184) #[] #[]) w := fun _ => by kernel_rfl
      have i2 : ∀ w, (Instr.index 212 opsV (.int .i64 2)).run Tryz.prog w = .ok (.func (.func 225) #[] #[]) w := fun _ => by kernel_rfl
      have i3 : ∀ w, (Instr.index 212 opsV (.int .i64 3)).run Tryz.prog w = .ok (.func (.func 226) #[] #[]) w := fun _ => by kernel_rfl
      have i4 : ∀ w, (Instr.index 212 opsV (.int .i64 4)).run Tryz.prog w = .ok (.func (.func 227) #[] #[]) w := fun _ => by kernel_rfl
      have i5 : ∀ w, (Instr.index 212 opsV (.int .i64 5)).run Tryz.prog w = .ok (.func (.func 228) #[] #[]) w := fun _ => by kernel_rfl
      have i6 : ∀ w, (Instr.index 212 opsV (.int .i64 6)).run Tryz.prog w = .ok (.func (.func 229) #[] #[]) w := fun _ => by kernel_rfl
      have i7 : ∀ w, (Instr.index 212 opsV (.int .i64 7)).run Tryz.prog w = .ok (.func (.func 230) #[] #[]) w := fun _ => by kernel_rfl
      rcases (show o = 1 ∨ o = 2 ∨ o = 3 ∨ o = 4 ∨ o = 5 ∨ o = 6 ∨ o = 7 by omega) with rfl | rfl | rfl | rfl | rfl | rfl | rfl
      · clear ho
        go_enter Tryz.func149, Tryz.ntmps149
        go_wp2_with (first
          | (go_at_call 108; refine (impl_vars _ _ _ _ L hn (HR.out _ ((Below.refl _ _).alloc (Nat.le_refl _) _)) _ hv).mono ?_; rintro e w1 ⟨rfl, rfl⟩)
          | (go_at_call 180; refine (impl_exprok _ _ _ _ he _).mono ?_; rintro e w1 ⟨rfl, hb1⟩
             have hbw : Below w.heap.size w w1 := ((Below.refl _ _).alloc (Nat.le_refl _) _).trans (hb1.mono (by simp))
             have hlt : w.heap.size < w1.heap.size := by have := hb1.size; simp at this; omega
             have hbx : w1.cell? ⟨w.heap.size, 0, none⟩ = some (.int .i64 1) := (hb1.cell (by simp)).trans (new_cell w _ _ _)
             have hby : w1.cell? ⟨w.heap.size, 1, none⟩ = some (.int .i64 a) := (hb1.cell (by simp)).trans (new_cell w _ _ _)
             have hbz : w1.cell? ⟨w.heap.size, 2, none⟩ = some (.int .i64 b) := (hb1.cell (by simp)).trans (new_cell w _ _ _)
             clear hb1))
        go_region_held3 (fun w' => w'.cell? ⟨w.heap.size, 0, none⟩ = some (.int .i64 1)) (first | go_keep | (rw [hb2.cell (by simp; omega)]; assumption))
          (first | (go_at_call 195; refine (impl_ops _).mono ?_; rintro e w2 ⟨rfl, hb2⟩))
        have hb2' : Below w1.heap.size w1 w2 := (Below.drew (Below.refl _ w1)).trans hb2
        have hcy : w2.cell? ⟨w.heap.size, 1, none⟩ = some (.int .i64 a) := (hb2'.cell hlt).trans hby
        have hcz : w2.cell? ⟨w.heap.size, 2, none⟩ = some (.int .i64 b) := (hb2'.cell hlt).trans hbz
        have hbw2 : Below w.heap.size w w2 := hbw.trans (hb2'.mono hbw.size)
        have HR2 := Lib.hid (HR.out _ hbw2)
        clear hbx hby hbz hb2 hb2'
        go_wp2
        go_quiet ((first
          | (go_at_call 196; exact Calls.quiet_of_same (retq (impl_opval _ ad n cap L hn (Row.drewN HR2.out _) _)))
          | (go_at_call 184; exact Calls.quiet_of_same (retq (impl_add _ _ _)))))
        go_wp2
        go_ret
        refine ⟨ret_i ?_, below_drewN hbw2 _⟩
        rw [HV.out, ev1, ← HA.out, ← HB.out]
      · clear ho
        go_enter Tryz.func149, Tryz.ntmps149
        go_wp2_with (first
          | (go_at_call 108; refine (impl_vars _ _ _ _ L hn (HR.out _ ((Below.refl _ _).alloc (Nat.le_refl _) _)) _ hv).mono ?_; rintro e w1 ⟨rfl, rfl⟩)
          | (go_at_call 180; refine (impl_exprok _ _ _ _ he _).mono ?_; rintro e w1 ⟨rfl, hb1⟩
             have hbw : Below w.heap.size w w1 := ((Below.refl _ _).alloc (Nat.le_refl _) _).trans (hb1.mono (by simp))
             have hlt : w.heap.size < w1.heap.size := by have := hb1.size; simp at this; omega
             have hbx : w1.cell? ⟨w.heap.size, 0, none⟩ = some (.int .i64 2) := (hb1.cell (by simp)).trans (new_cell w _ _ _)
             have hby : w1.cell? ⟨w.heap.size, 1, none⟩ = some (.int .i64 a) := (hb1.cell (by simp)).trans (new_cell w _ _ _)
             have hbz : w1.cell? ⟨w.heap.size, 2, none⟩ = some (.int .i64 b) := (hb1.cell (by simp)).trans (new_cell w _ _ _)
             clear hb1))
        go_region_held3 (fun w' => w'.cell? ⟨w.heap.size, 0, none⟩ = some (.int .i64 2)) (first | go_keep | (rw [hb2.cell (by simp; omega)]; assumption))
          (first | (go_at_call 195; refine (impl_ops _).mono ?_; rintro e w2 ⟨rfl, hb2⟩))
        have hb2' : Below w1.heap.size w1 w2 := (Below.drew (Below.refl _ w1)).trans hb2
        have hcy : w2.cell? ⟨w.heap.size, 1, none⟩ = some (.int .i64 a) := (hb2'.cell hlt).trans hby
        have hcz : w2.cell? ⟨w.heap.size, 2, none⟩ = some (.int .i64 b) := (hb2'.cell hlt).trans hbz
        have hbw2 : Below w.heap.size w w2 := hbw.trans (hb2'.mono hbw.size)
        have HR2 := Lib.hid (HR.out _ hbw2)
        clear hbx hby hbz hb2 hb2'
        go_wp2
        go_quiet ((first
          | (go_at_call 196; exact Calls.quiet_of_same (retq (impl_opval _ ad n cap L hn (Row.drewN HR2.out _) _)))
          | (go_at_call 225; exact Calls.quiet_of_same (retq (impl_sub _ _ _)))))
        go_wp2
        go_ret
        refine ⟨ret_i ?_, below_drewN hbw2 _⟩
        rw [HV.out, ev2, ← HA.out, ← HB.out]
      · clear ho
        go_enter Tryz.func149, Tryz.ntmps149
        go_wp2_with (first
          | (go_at_call 108; refine (impl_vars _ _ _ _ L hn (HR.out _ ((Below.refl _ _).alloc (Nat.le_refl _) _)) _ hv).mono ?_; rintro e w1 ⟨rfl, rfl⟩)
          | (go_at_call 180; refine (impl_exprok _ _ _ _ he _).mono ?_; rintro e w1 ⟨rfl, hb1⟩
             have hbw : Below w.heap.size w w1 := ((Below.refl _ _).alloc (Nat.le_refl _) _).trans (hb1.mono (by simp))
             have hlt : w.heap.size < w1.heap.size := by have := hb1.size; simp at this; omega
             have hbx : w1.cell? ⟨w.heap.size, 0, none⟩ = some (.int .i64 3) := (hb1.cell (by simp)).trans (new_cell w _ _ _)
             have hby : w1.cell? ⟨w.heap.size, 1, none⟩ = some (.int .i64 a) := (hb1.cell (by simp)).trans (new_cell w _ _ _)
             have hbz : w1.cell? ⟨w.heap.size, 2, none⟩ = some (.int .i64 b) := (hb1.cell (by simp)).trans (new_cell w _ _ _)
             clear hb1))
        go_region_held3 (fun w' => w'.cell? ⟨w.heap.size, 0, none⟩ = some (.int .i64 3)) (first | go_keep | (rw [hb2.cell (by simp; omega)]; assumption))
          (first | (go_at_call 195; refine (impl_ops _).mono ?_; rintro e w2 ⟨rfl, hb2⟩))
        have hb2' : Below w1.heap.size w1 w2 := (Below.drew (Below.refl _ w1)).trans hb2
        have hcy : w2.cell? ⟨w.heap.size, 1, none⟩ = some (.int .i64 a) := (hb2'.cell hlt).trans hby
        have hcz : w2.cell? ⟨w.heap.size, 2, none⟩ = some (.int .i64 b) := (hb2'.cell hlt).trans hbz
        have hbw2 : Below w.heap.size w w2 := hbw.trans (hb2'.mono hbw.size)
        have HR2 := Lib.hid (HR.out _ hbw2)
        clear hbx hby hbz hb2 hb2'
        go_wp2
        go_quiet ((first
          | (go_at_call 196; exact Calls.quiet_of_same (retq (impl_opval _ ad n cap L hn (Row.drewN HR2.out _) _)))
          | (go_at_call 226; exact Calls.quiet_of_same (retq (impl_mul _ _ _)))))
        go_wp2
        go_ret
        refine ⟨ret_i ?_, below_drewN hbw2 _⟩
        rw [HV.out, ev3, ← HA.out, ← HB.out]
      · clear ho
        go_enter Tryz.func149, Tryz.ntmps149
        go_wp2_with (first
          | (go_at_call 108; refine (impl_vars _ _ _ _ L hn (HR.out _ ((Below.refl _ _).alloc (Nat.le_refl _) _)) _ hv).mono ?_; rintro e w1 ⟨rfl, rfl⟩)
          | (go_at_call 180; refine (impl_exprok _ _ _ _ he _).mono ?_; rintro e w1 ⟨rfl, hb1⟩
             have hbw : Below w.heap.size w w1 := ((Below.refl _ _).alloc (Nat.le_refl _) _).trans (hb1.mono (by simp))
             have hlt : w.heap.size < w1.heap.size := by have := hb1.size; simp at this; omega
             have hbx : w1.cell? ⟨w.heap.size, 0, none⟩ = some (.int .i64 4) := (hb1.cell (by simp)).trans (new_cell w _ _ _)
             have hby : w1.cell? ⟨w.heap.size, 1, none⟩ = some (.int .i64 a) := (hb1.cell (by simp)).trans (new_cell w _ _ _)
             have hbz : w1.cell? ⟨w.heap.size, 2, none⟩ = some (.int .i64 b) := (hb1.cell (by simp)).trans (new_cell w _ _ _)
             clear hb1))
        go_region_held3 (fun w' => w'.cell? ⟨w.heap.size, 0, none⟩ = some (.int .i64 4)) (first | go_keep | (rw [hb2.cell (by simp; omega)]; assumption))
          (first | (go_at_call 195; refine (impl_ops _).mono ?_; rintro e w2 ⟨rfl, hb2⟩))
        have hb2' : Below w1.heap.size w1 w2 := (Below.drew (Below.refl _ w1)).trans hb2
        have hcy : w2.cell? ⟨w.heap.size, 1, none⟩ = some (.int .i64 a) := (hb2'.cell hlt).trans hby
        have hcz : w2.cell? ⟨w.heap.size, 2, none⟩ = some (.int .i64 b) := (hb2'.cell hlt).trans hbz
        have hbw2 : Below w.heap.size w w2 := hbw.trans (hb2'.mono hbw.size)
        have HR2 := Lib.hid (HR.out _ hbw2)
        clear hbx hby hbz hb2 hb2'
        go_wp2
        go_quiet ((first
          | (go_at_call 196; exact Calls.quiet_of_same (retq (impl_opval _ ad n cap L hn (Row.drewN HR2.out _) _)))
          | (go_at_call 227; exact Calls.quiet_of_same (retq (impl_min _ _ _)))))
        go_wp2
        go_ret
        refine ⟨ret_i ?_, below_drewN hbw2 _⟩
        rw [HV.out, ev4, ← HA.out, ← HB.out]
      · clear ho
        go_enter Tryz.func149, Tryz.ntmps149
        go_wp2_with (first
          | (go_at_call 108; refine (impl_vars _ _ _ _ L hn (HR.out _ ((Below.refl _ _).alloc (Nat.le_refl _) _)) _ hv).mono ?_; rintro e w1 ⟨rfl, rfl⟩)
          | (go_at_call 180; refine (impl_exprok _ _ _ _ he _).mono ?_; rintro e w1 ⟨rfl, hb1⟩
             have hbw : Below w.heap.size w w1 := ((Below.refl _ _).alloc (Nat.le_refl _) _).trans (hb1.mono (by simp))
             have hlt : w.heap.size < w1.heap.size := by have := hb1.size; simp at this; omega
             have hbx : w1.cell? ⟨w.heap.size, 0, none⟩ = some (.int .i64 5) := (hb1.cell (by simp)).trans (new_cell w _ _ _)
             have hby : w1.cell? ⟨w.heap.size, 1, none⟩ = some (.int .i64 a) := (hb1.cell (by simp)).trans (new_cell w _ _ _)
             have hbz : w1.cell? ⟨w.heap.size, 2, none⟩ = some (.int .i64 b) := (hb1.cell (by simp)).trans (new_cell w _ _ _)
             clear hb1))
        go_region_held3 (fun w' => w'.cell? ⟨w.heap.size, 0, none⟩ = some (.int .i64 5)) (first | go_keep | (rw [hb2.cell (by simp; omega)]; assumption))
          (first | (go_at_call 195; refine (impl_ops _).mono ?_; rintro e w2 ⟨rfl, hb2⟩))
        have hb2' : Below w1.heap.size w1 w2 := (Below.drew (Below.refl _ w1)).trans hb2
        have hcy : w2.cell? ⟨w.heap.size, 1, none⟩ = some (.int .i64 a) := (hb2'.cell hlt).trans hby
        have hcz : w2.cell? ⟨w.heap.size, 2, none⟩ = some (.int .i64 b) := (hb2'.cell hlt).trans hbz
        have hbw2 : Below w.heap.size w w2 := hbw.trans (hb2'.mono hbw.size)
        have HR2 := Lib.hid (HR.out _ hbw2)
        clear hbx hby hbz hb2 hb2'
        go_wp2
        go_quiet ((first
          | (go_at_call 196; exact Calls.quiet_of_same (retq (impl_opval _ ad n cap L hn (Row.drewN HR2.out _) _)))
          | (go_at_call 228; exact Calls.quiet_of_same (retq (impl_max _ _ _)))))
        go_wp2
        go_ret
        refine ⟨ret_i ?_, below_drewN hbw2 _⟩
        rw [HV.out, ev5, ← HA.out, ← HB.out]
      · clear ho
        go_enter Tryz.func149, Tryz.ntmps149
        go_wp2_with (first
          | (go_at_call 108; refine (impl_vars _ _ _ _ L hn (HR.out _ ((Below.refl _ _).alloc (Nat.le_refl _) _)) _ hv).mono ?_; rintro e w1 ⟨rfl, rfl⟩)
          | (go_at_call 180; refine (impl_exprok _ _ _ _ he _).mono ?_; rintro e w1 ⟨rfl, hb1⟩
             have hbw : Below w.heap.size w w1 := ((Below.refl _ _).alloc (Nat.le_refl _) _).trans (hb1.mono (by simp))
             have hlt : w.heap.size < w1.heap.size := by have := hb1.size; simp at this; omega
             have hbx : w1.cell? ⟨w.heap.size, 0, none⟩ = some (.int .i64 6) := (hb1.cell (by simp)).trans (new_cell w _ _ _)
             have hby : w1.cell? ⟨w.heap.size, 1, none⟩ = some (.int .i64 a) := (hb1.cell (by simp)).trans (new_cell w _ _ _)
             have hbz : w1.cell? ⟨w.heap.size, 2, none⟩ = some (.int .i64 b) := (hb1.cell (by simp)).trans (new_cell w _ _ _)
             clear hb1))
        go_region_held3 (fun w' => w'.cell? ⟨w.heap.size, 0, none⟩ = some (.int .i64 6)) (first | go_keep | (rw [hb2.cell (by simp; omega)]; assumption))
          (first | (go_at_call 195; refine (impl_ops _).mono ?_; rintro e w2 ⟨rfl, hb2⟩))
        have hb2' : Below w1.heap.size w1 w2 := (Below.drew (Below.refl _ w1)).trans hb2
        have hcy : w2.cell? ⟨w.heap.size, 1, none⟩ = some (.int .i64 a) := (hb2'.cell hlt).trans hby
        have hcz : w2.cell? ⟨w.heap.size, 2, none⟩ = some (.int .i64 b) := (hb2'.cell hlt).trans hbz
        have hbw2 : Below w.heap.size w w2 := hbw.trans (hb2'.mono hbw.size)
        have HR2 := Lib.hid (HR.out _ hbw2)
        clear hbx hby hbz hb2 hb2'
        go_wp2
        go_quiet ((first
          | (go_at_call 196; exact Calls.quiet_of_same (retq (impl_opval _ ad n cap L hn (Row.drewN HR2.out _) _)))
          | (go_at_call 229; exact Calls.quiet_of_same (retq (impl_less _ _ _)))))
        go_wp2
        go_ret
        refine ⟨ret_i ?_, below_drewN hbw2 _⟩
        rw [HV.out, ev6, ← HA.out, ← HB.out]
      · clear ho
        go_enter Tryz.func149, Tryz.ntmps149
        go_wp2_with (first
          | (go_at_call 108; refine (impl_vars _ _ _ _ L hn (HR.out _ ((Below.refl _ _).alloc (Nat.le_refl _) _)) _ hv).mono ?_; rintro e w1 ⟨rfl, rfl⟩)
          | (go_at_call 180; refine (impl_exprok _ _ _ _ he _).mono ?_; rintro e w1 ⟨rfl, hb1⟩
             have hbw : Below w.heap.size w w1 := ((Below.refl _ _).alloc (Nat.le_refl _) _).trans (hb1.mono (by simp))
             have hlt : w.heap.size < w1.heap.size := by have := hb1.size; simp at this; omega
             have hbx : w1.cell? ⟨w.heap.size, 0, none⟩ = some (.int .i64 7) := (hb1.cell (by simp)).trans (new_cell w _ _ _)
             have hby : w1.cell? ⟨w.heap.size, 1, none⟩ = some (.int .i64 a) := (hb1.cell (by simp)).trans (new_cell w _ _ _)
             have hbz : w1.cell? ⟨w.heap.size, 2, none⟩ = some (.int .i64 b) := (hb1.cell (by simp)).trans (new_cell w _ _ _)
             clear hb1))
        go_region_held3 (fun w' => w'.cell? ⟨w.heap.size, 0, none⟩ = some (.int .i64 7)) (first | go_keep | (rw [hb2.cell (by simp; omega)]; assumption))
          (first | (go_at_call 195; refine (impl_ops _).mono ?_; rintro e w2 ⟨rfl, hb2⟩))
        have hb2' : Below w1.heap.size w1 w2 := (Below.drew (Below.refl _ w1)).trans hb2
        have hcy : w2.cell? ⟨w.heap.size, 1, none⟩ = some (.int .i64 a) := (hb2'.cell hlt).trans hby
        have hcz : w2.cell? ⟨w.heap.size, 2, none⟩ = some (.int .i64 b) := (hb2'.cell hlt).trans hbz
        have hbw2 : Below w.heap.size w w2 := hbw.trans (hb2'.mono hbw.size)
        have HR2 := Lib.hid (HR.out _ hbw2)
        clear hbx hby hbz hb2 hb2'
        go_wp2
        go_quiet ((first
          | (go_at_call 196; exact Calls.quiet_of_same (retq (impl_opval _ ad n cap L hn (Row.drewN HR2.out _) _)))
          | (go_at_call 230; exact Calls.quiet_of_same (retq (impl_same _ _ _)))))
        go_wp2
        go_ret
        refine ⟨ret_i ?_, below_drewN hbw2 _⟩
        rw [HV.out, ev7, ← HA.out, ← HB.out]
end Go.Proofs.YtmgeecdgebemdaaGreatDoor.expr
