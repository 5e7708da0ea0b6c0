/- Several texts in one: QExeT QExeU. -/
import Derived.Test.YtmgeecdgebemdaaGreatDoorGSigQ31
import Derived.Test.YtmgeecdgebemdaaGreatDoorGSigQ32
import Derived.Test.YtmgeecdgebemdaaGreatDoorGSigQ25
import Derived.Deep.AppendLies
import Derived.Test.YtmgeecdgebemdaaGreatDoorGSigQ14
import Derived.Test.YtmgeecdgebemdaaGreatDoorGSigQ10

/- The program's state of an execution in memory: a struct that holds three rows of its own, the function that yields the readings and the observer; the observer's own memory lies apart; nothing else that was there is written. -/
namespace Go.Proofs.YtmgeecdgebemdaaGreatDoor.exe
open Go Go.ChangeShapes Go.WideShapes Go.ChangeAt Go.RowKit Go.Proofs.YtmgeecdgebemdaaGreatDoor.row Go.Proofs.YtmgeecdgebemdaaGreatDoor.val Go.Proofs.YtmgeecdgebemdaaGreatDoor.expr Go.Proofs.YtmgeecdgebemdaaGreatDoor.stm Go.Proofs.YtmgeecdgebemdaaGreatDoor.blk Go.Proofs.YtmgeecdgebemdaaGreatDoor.sets Go.Proofs.YtmgeecdgebemdaaGreatDoor.rss
/-- No block stands in both. -/
def Dj (l k : List (Option Nat)) : Prop := ∀ (i j b : Nat), l[i]? = some (some b) → k[j]? ≠ some (some b)
theorem Dj.left {l l' k : List (Option Nat)} {w w' : World} (h : Dj l k) (m : Mv l w l' w') (hk : ∀ (j b : Nat), k[j]? = some (some b) → b < w.heap.size) : Dj l' k := fun i j b hi hj => by
  obtain ⟨i', hi'⟩ := m.sub i b hi (hk j b hj)
  exact h i' j b hi' hj
theorem Dj.symm {l k : List (Option Nat)} (h : Dj l k) : Dj k l := fun i j b hi hj => h j i b hj hi
theorem Dj.right {l k k' : List (Option Nat)} {w w' : World} (h : Dj l k) (m : Mv k w k' w') (hl : ∀ (j b : Nat), l[j]? = some (some b) → b < w.heap.size) : Dj l k' := (h.symm.left m hl).symm
theorem Dj.nil (l : List (Option Nat)) : Dj l [] := fun _ j _ _ hj => by simp at hj
/-- What is not moved stays. -/
theorem mv_keeps {l l' k : List (Option Nat)} {w w' : World} (m : Mv l w l' w') (h : Dj l k) (hk : ∀ (j b : Nat), k[j]? = some (some b) → b < w.heap.size) : ∀ (j b : Nat), k[j]? = some (some b) → w'.heap[b]? = w.heap[b]? := fun j b hj => m.block b (hk j b hj) (fun i hi => h i j b hi hj)
theorem own_stays {w w' : World} {B n s : Nat} {e : TypeId} {v : Value} {xs : List Value} (h : w.ownsRow B e s v n xs) (hk : ∀ b, v.ownBlock = some b → w'.heap[b]? = w.heap[b]?) : w'.ownsRow B e s v n xs := by
  refine ⟨h.1, ?_⟩
  rcases h.2 with hn | ⟨g, cap, cur, rfl, hb, hgg, rest⟩
  · exact .inl hn
  · exact .inr ⟨g, cap, cur, rfl, hb, (hk g rfl).trans hgg, rest⟩
theorem rs_stays {B g : Nat} {l : List RS} {w w' : World} (h : RsAt B g l w) (hs : w.heap.size ≤ w'.heap.size) (hk : ∀ (j b : Nat), (blks g l)[j]? = some (some b) → w'.heap[b]? = w.heap[b]?) : RsAt B g l w' := by
  refine ⟨h.low, Nat.lt_of_lt_of_le h.lt hs, fun j r hr => ?_, h.sep⟩
  exact own_stays (h.own j r hr) (fun b hb => hk (j + 1) b (by rw [blks_at hr, hb]))

/-- What the program's execution is given: where the function that yields the readings finds its list, and the number of the first one. -/
structure PCf where
  (lv : Bool) (gu gz : Nat) (al : Option Addr) (nl cl : Nat) (Y : List Int) (z : Int)
def PCf.src (c : PCf) : Int → Nat → Int := if c.lv then liveSrc c.Y c.z else listSrc c.Y
/-- The variables that the function has captured. -/
def PCf.cap (c : PCf) : List (Option Nat) := [some c.gu, if c.lv then some c.gz else none]
abbrev fnS (gu gz : Nat) : Value := .func (.func 139) #[] #[.pointer (some ⟨gu, 0, none⟩), .pointer (some ⟨gz, 0, none⟩)]
def liveOk : Prop := True
abbrev fnT (_ : Nat) : Value := .nilFunc
def listOk : Prop := False
def PCf.fn (c : PCf) : Value := if c.lv then fnS c.gu c.gz else fnT c.gu
/-- The readings are there, and they are values. -/
def PCfS (c : PCf) (w : World) : Prop := Row w c.al c.nl c.Y ∧ (c.nl : Int) ≤ 1048576 ∧ (0 ≤ c.z ∧ c.z ≤ 1000000) ∧ allV c.Y = true
/-- The variables that the function has captured are there. -/
def CapAt (c : PCf) (w : World) : Prop := (c.gu < w.heap.size ∧ w.cell? ⟨c.gu, 0, none⟩ = some (.slice c.al c.nl c.cl)) ∧ (c.lv = true → liveOk ∧ c.gz < w.heap.size ∧ w.cell? ⟨c.gz, 0, none⟩ = some (.int .i64 c.z)) ∧ (c.lv = false → listOk)
theorem PCfS.below {c : PCf} {w w' : World} (h : PCfS c w) (hb : Below w.heap.size w w') : PCfS c w' := ⟨h.1.below hb, h.2⟩
theorem CapAt.lt {c : PCf} {w : World} (h : CapAt c w) : ∀ (j b : Nat), c.cap[j]? = some (some b) → b < w.heap.size
  | 0, b, e => by
    have e2 : some c.gu = some b := Option.some.inj e
    cases e2; exact h.1.1
  | 1, b, e => by
    have e2 : (if c.lv then some c.gz else none) = some b := Option.some.inj e
    split at e2
    · cases e2; exact (h.2.1 (by assumption)).2.1
    · cases e2
  | j + 2, b, e => by simp [PCf.cap] at e
theorem CapAt.stays {c : PCf} {w w' : World} (h : CapAt c w) (hs : w.heap.size ≤ w'.heap.size) (hk : ∀ (j b : Nat), c.cap[j]? = some (some b) → w'.heap[b]? = w.heap[b]?) : CapAt c w' := by
  refine ⟨⟨Nat.lt_of_lt_of_le h.1.1 hs, (World.cell?_of_block (a := ⟨c.gu, 0, none⟩) (hk 0 c.gu rfl)).trans h.1.2⟩, fun e => ?_, h.2.2⟩
  obtain ⟨h1, h2, h3⟩ := h.2.1 e
  exact ⟨h1, Nat.lt_of_lt_of_le h2 hs, (World.cell?_of_block (a := ⟨c.gz, 0, none⟩) (hk 1 c.gz (by simp [PCf.cap, e]))).trans h3⟩
theorem CapAt.below {c : PCf} {w w' : World} (h : CapAt c w) (hb : Below w.heap.size w w') : CapAt c w' := h.stays hb.size (fun j b hj => hb.block b (h.lt j b hj))
theorem PCf.src_val {c : PCf} {w : World} (h : PCfS c w) (q : Int) (n : Nat) : isVal (c.src q n) = true := by
  unfold PCf.src
  split
  · exact liveSrc_val _ _ _ _
  · exact listSrc_val h.2.2.2 _ _
/-- An observer: the function, and what holds of its own memory. -/
structure Obs (B : Nat) extends Obm where
  (k : FuncId) (fc : Array Value)
  (ent : ∀ (args : Array Value) (w : World), (callFunc k args).run Tryz.prog w = .ok (.enter k args) w)
  (At : τ → List (Option Nat) → World → Prop)
  (base : ∀ t F w, At t F w → ∀ (j b : Nat), F[j]? = some (some b) → B ≤ b ∧ b < w.heap.size)
  (stay : ∀ t F w w', At t F w → w.heap.size ≤ w'.heap.size → (∀ (j b : Nat), F[j]? = some (some b) → w'.heap[b]? = w.heap[b]?) → At t F w')
/-- Where the rows lie. -/
structure Pp where
  (gv cv : Nat) (a1 : Option Addr) (n1 c1 : Nat) (a2 : Option Addr) (n2 c2 : Nat)
abbrev Obs.fn {B : Nat} (o : Obs B) : Value := .func (.func o.k) #[] o.fc
abbrev pxC {B : Nat} (p : Pp) (c : PCf) (o : Obs B) : Array Value :=
  #[.slice (some ⟨p.gv, 0, none⟩) 8 p.cv, .slice p.a1 p.n1 p.c1, .slice p.a2 p.n2 p.c2, c.fn, .func (.func o.k) #[] o.fc]
abbrev pxL (p : Pp) (x : Sx) : List RS := [⟨.slice (some ⟨p.gv, 0, none⟩) 8 p.cv, 8, ivs x.V, 3, 1⟩, ⟨.slice p.a1 p.n1 p.c1, p.n1, ivs x.S, 3, 1⟩, ⟨.slice p.a2 p.n2 p.c2, p.n2, ivs x.U, 3, 1⟩]
abbrev pxB (g : Nat) (p : Pp) (x : Sx) : List (Option Nat) := blks g (pxL p x)
/-- The block 'g' holds the state 'x', the observer's memory its state 't'. -/
structure PxAt (B g : Nat) (p : Pp) (c : PCf) (o : Obs B) (x : Sx) (t : o.τ) (F : List (Option Nat)) (w : World) : Prop where
  box : Box g (pxC p c o) 110 w
  rows : RsAt B g (pxL p x) w
  cap : CapAt c w
  ob : o.At t F w
  d1 : Dj (pxB g p x) F
  d2 : Dj (pxB g p x) c.cap
  d3 : Dj F c.cap
def Px (B g : Nat) (c : PCf) (o : Obs B) (z : o.Z) (w : World) : Prop := ∃ (p : Pp) (F : List (Option Nat)), PxAt B g p c o z.1 z.2 F w
theorem PxAt.lt {B g : Nat} {p : Pp} {c : PCf} {o : Obs B} {x : Sx} {t : o.τ} {F : List (Option Nat)} {w : World} (h : PxAt B g p c o x t F w) : g < w.heap.size := h.rows.lt
theorem PxAt.vars {B g : Nat} {p : Pp} {c : PCf} {o : Obs B} {x : Sx} {t : o.τ} {F : List (Option Nat)} {w : World} (h : PxAt B g p c o x t F w) : w.ownsRow B 3 1 (.slice (some ⟨p.gv, 0, none⟩) 8 p.cv) 8 (ivs x.V) := h.rows.own 0 _ rfl
theorem PxAt.sent {B g : Nat} {p : Pp} {c : PCf} {o : Obs B} {x : Sx} {t : o.τ} {F : List (Option Nat)} {w : World} (h : PxAt B g p c o x t F w) : w.ownsRow B 3 1 (.slice p.a1 p.n1 p.c1) p.n1 (ivs x.S) := h.rows.own 1 _ rfl
theorem PxAt.used {B g : Nat} {p : Pp} {c : PCf} {o : Obs B} {x : Sx} {t : o.τ} {F : List (Option Nat)} {w : World} (h : PxAt B g p c o x t F w) : w.ownsRow B 3 1 (.slice p.a2 p.n2 p.c2) p.n2 (ivs x.U) := h.rows.own 2 _ rfl
theorem PxAt.vrow {B g : Nat} {p : Pp} {c : PCf} {o : Obs B} {x : Sx} {t : o.τ} {F : List (Option Nat)} {w : World} (h : PxAt B g p c o x t F w) : Row w (some ⟨p.gv, 0, none⟩) 8 x.V := Row.of_own h.vars
theorem PxAt.slen {B g : Nat} {p : Pp} {c : PCf} {o : Obs B} {x : Sx} {t : o.τ} {F : List (Option Nat)} {w : World} (h : PxAt B g p c o x t F w) : x.S.length = p.n1 := own_len h.sent
theorem PxAt.ulen {B g : Nat} {p : Pp} {c : PCf} {o : Obs B} {x : Sx} {t : o.τ} {F : List (Option Nat)} {w : World} (h : PxAt B g p c o x t F w) : x.U.length = p.n2 := own_len h.used
theorem PxAt.vg {B g : Nat} {p : Pp} {c : PCf} {o : Obs B} {x : Sx} {t : o.τ} {F : List (Option Nat)} {w : World} (h : PxAt B g p c o x t F w) : p.gv ≠ g := fun e => h.rows.ne_g (j := 0) rfl (by rw [← e]; rfl)
theorem PxAt.gvB {B g : Nat} {p : Pp} {c : PCf} {o : Obs B} {x : Sx} {t : o.τ} {F : List (Option Nat)} {w : World} (h : PxAt B g p c o x t F w) : B ≤ p.gv ∧ p.gv < w.heap.size := own_block h.vars p.gv rfl
theorem PxAt.stays {B g : Nat} {p : Pp} {c : PCf} {o : Obs B} {x : Sx} {t : o.τ} {F : List (Option Nat)} {w w' : World} (h : PxAt B g p c o x t F w) (hb : Below w.heap.size w w') : PxAt B g p c o x t F w' :=
  ⟨h.box.below hb, h.rows.below hb, h.cap.below hb, o.stay t F w w' h.ob hb.size (fun j b hj => hb.block b (o.base t F w h.ob j b hj).2), h.d1, h.d2, h.d3⟩
theorem PxAt.below {B g : Nat} {p : Pp} {c : PCf} {o : Obs B} {x : Sx} {t : o.τ} {F : List (Option Nat)} {w w' : World} (h : PxAt B g p c o x t F w) (hb : Below w.heap.size w w') : PxAt B g p c o x t F w' := h.stays hb
/-- The observer has been told something: its memory alone has moved. -/
theorem PxAt.told {B g : Nat} {p : Pp} {c : PCf} {o : Obs B} {x : Sx} {t t' : o.τ} {F F' : List (Option Nat)} {w w' : World} (h : PxAt B g p c o x t F w) (ho : o.At t' F' w') (m : Mv F w F' w') : PxAt B g p c o x t' F' w' :=
  ⟨(m.block g h.lt (fun j e => h.d1 0 j g rfl e)).trans h.box, rs_stays h.rows m.size (mv_keeps m h.d1.symm h.rows.bound), h.cap.stays m.size (mv_keeps m h.d3 h.cap.lt), ho, h.d1.right m h.rows.bound, h.d2, h.d3.left m h.cap.lt⟩
theorem PxAt.told_below {B g : Nat} {p : Pp} {c : PCf} {o : Obs B} {x : Sx} {t : o.τ} {F F' : List (Option Nat)} {w w' : World} (h : PxAt B g p c o x t F w) (m : Mv F w F' w') (hB : B ≤ w.heap.size) : Below B w w' := m.below (fun j b e => (o.base t F w h.ob j b e).1) hB
/-- The execution's own memory has moved. -/
theorem PxAt.moved {B g : Nat} {p p' : Pp} {c : PCf} {o : Obs B} {x x' : Sx} {t : o.τ} {F : List (Option Nat)} {w w' : World} (h : PxAt B g p c o x t F w) (hx : Box g (pxC p' c o) 110 w') (hr : RsAt B g (pxL p' x') w') (m : Mv (pxB g p x) w (pxB g p' x') w') : PxAt B g p' c o x' t F w' :=
  ⟨hx, hr, h.cap.stays m.size (mv_keeps m h.d2 h.cap.lt), o.stay t F w w' h.ob m.size (mv_keeps m h.d1 (fun j b e => (o.base t F w h.ob j b e).2)), h.d1.left m (fun j b e => (o.base t F w h.ob j b e).2), h.d2.left m h.cap.lt, h.d3⟩
/-- A variable is set. -/
theorem PxAt.set {B g : Nat} {p : Pp} {c : PCf} {o : Obs B} {x : Sx} {t : o.τ} {F : List (Option Nat)} {w : World} (h : PxAt B g p c o x t F w) (k : Nat) (q : Int) :
    PxAt B g p c o ⟨x.V.set k q, x.S, x.U⟩ t F (w.setCell ⟨p.gv, k, none⟩ (.int .i64 q)) := by
  have hs := (h.vars.stored k (.int .i64 q)).1
  rw [ivs_set] at hs
  obtain ⟨hr, hbx, hmv⟩ := h.rows.cellset h.box (i := 0) rfl (grown_setCell w p.gv k (.int .i64 q)) (r' := ⟨.slice (some ⟨p.gv, 0, none⟩) 8 p.cv, 8, ivs (x.V.set k q), 3, 1⟩) hs rfl
  exact h.moved hbx hr hmv
theorem PxAt.set_below {B g : Nat} {p : Pp} {c : PCf} {o : Obs B} {x : Sx} {t : o.τ} {F : List (Option Nat)} {w w0 : World} (h : PxAt B g p c o x t F w) (k : Nat) (v : Value) (hB : Below B w0 w) (h0 : B ≤ w.heap.size) : Below B w0 (w.setCell ⟨p.gv, k, none⟩ v) :=
  hB.grown (grown_setCell w p.gv k v) h0 (fun j e => by cases e; exact h.gvB.1)
theorem PxAt.base {B g : Nat} {p : Pp} {c : PCf} {o : Obs B} {x : Sx} {t : o.τ} {F : List (Option Nat)} {w : World} (h : PxAt B g p c o x t F w) : B ≤ w.heap.size := Nat.le_trans h.rows.low (Nat.le_of_lt h.lt)
/-- Sent: the row of sent values has grown to a row, and the struct holds it. -/
theorem PxAt.send {B g : Nat} {p : Pp} {c : PCf} {o : Obs B} {x : Sx} {t : o.τ} {F : List (Option Nat)} {w w' : World} (h : PxAt B g p c o x t F w) {q : Int} {a3 : Option Addr} {c3 : Nat}
    (ho : w'.ownsRow B 3 1 (.slice a3 (p.n1 + 1) c3) (p.n1 + 1) (ivs (x.S ++ [q]))) (hg : w.grownBy w' (Value.slice p.a1 p.n1 p.c1).ownBlock) (hat : (Value.slice a3 (p.n1 + 1) c3).ownBlock = (Value.slice p.a1 p.n1 p.c1).ownBlock ∨ ∀ b, (Value.slice a3 (p.n1 + 1) c3).ownBlock = some b → w.heap.size ≤ b) :
    PxAt B g ⟨p.gv, p.cv, a3, p.n1 + 1, c3, p.a2, p.n2, p.c2⟩ c o ⟨x.V, x.S ++ [q], x.U⟩ t F (w'.setCell ⟨g, 1, none⟩ (.slice a3 (p.n1 + 1) c3)) ∧ Below B w (w'.setCell ⟨g, 1, none⟩ (.slice a3 (p.n1 + 1) c3)) ∧ Box g (pxC p c o) 110 w' := by
  obtain ⟨hr, hbx, hmv, hx⟩ := h.rows.app h.box (i := 1) rfl hg (r' := ⟨.slice a3 (p.n1 + 1) c3, p.n1 + 1, ivs (x.S ++ [q]), 3, 1⟩) ho hat 1 (.slice a3 (p.n1 + 1) c3)
  exact ⟨h.moved hbx hr hmv, hmv.below h.rows.base h.base, hx⟩
/-- Sensed: the row of used values has grown to a row, and the struct holds it. -/
theorem PxAt.sense {B g : Nat} {p : Pp} {c : PCf} {o : Obs B} {x : Sx} {t : o.τ} {F : List (Option Nat)} {w w' : World} (h : PxAt B g p c o x t F w) {q : Int} {a3 : Option Addr} {c3 : Nat}
    (ho : w'.ownsRow B 3 1 (.slice a3 (p.n2 + 1) c3) (p.n2 + 1) (ivs (x.U ++ [q]))) (hg : w.grownBy w' (Value.slice p.a2 p.n2 p.c2).ownBlock) (hat : (Value.slice a3 (p.n2 + 1) c3).ownBlock = (Value.slice p.a2 p.n2 p.c2).ownBlock ∨ ∀ b, (Value.slice a3 (p.n2 + 1) c3).ownBlock = some b → w.heap.size ≤ b) :
    PxAt B g ⟨p.gv, p.cv, p.a1, p.n1, p.c1, a3, p.n2 + 1, c3⟩ c o ⟨x.V, x.S, x.U ++ [q]⟩ t F (w'.setCell ⟨g, 2, none⟩ (.slice a3 (p.n2 + 1) c3)) ∧ Below B w (w'.setCell ⟨g, 2, none⟩ (.slice a3 (p.n2 + 1) c3)) ∧ Box g (pxC p c o) 110 w' := by
  obtain ⟨hr, hbx, hmv, hx⟩ := h.rows.app h.box (i := 2) rfl hg (r' := ⟨.slice a3 (p.n2 + 1) c3, p.n2 + 1, ivs (x.U ++ [q]), 3, 1⟩) ho hat 2 (.slice a3 (p.n2 + 1) c3)
  exact ⟨h.moved hbx hr hmv, hmv.below h.rows.base h.base, hx⟩
theorem Px.below {B g : Nat} {c : PCf} {o : Obs B} {z : o.Z} {w w' : World} (h : Px B g c o z w) (hb : Below w.heap.size w w') : Px B g c o z w' := by
  obtain ⟨p, F, h⟩ := h
  exact ⟨p, F, h.below hb⟩
abbrev stmA (s : Sm) : Array Value := #[.int .i64 s.k, .int .i64 s.v, .int .i64 s.n, .int .i64 s.o, .int .i64 s.a, .int .i64 s.b]
/-- What the observer does when it is told a statement. -/
def Tells (w0 : World) (c : PCf) (o : Obs w0.heap.size) (g : Nat) : Prop :=
  ∀ (w : World) (p : Pp) (F : List (Option Nat)) (x : Sx) (t : o.τ) (s : Sm) (v : Int), stOk s = true → s.k ≠ 6 → varsOk x.V = true → v = valS c.src s x → totZ (o := o.toObm) (x, t) ≤ 50000 → Below w0.heap.size w0 w → PxAt w0.heap.size g p c o x t F w →
    Calls Tryz.prog o.k (#[.agg (stmA s), .int .i64 v] ++ o.fc) w (fun e w' => e = .returned (.tuple #[]) ∧ ∃ F', o.At (o.nxt t x s v) F' w' ∧ Mv F w F' w')
end Go.Proofs.YtmgeecdgebemdaaGreatDoor.exe

/- Chapter 12 of the program: ReadSensor, and the functions that yield the readings; nothing that was there is written. -/
namespace Go.Proofs.YtmgeecdgebemdaaGreatDoor.exe
open Go Go.ChangeShapes Go.WideShapes Go.ChangeAt Go.RowKit Go.Proofs.YtmgeecdgebemdaaGreatDoor.row Go.Proofs.YtmgeecdgebemdaaGreatDoor.val Go.Proofs.YtmgeecdgebemdaaGreatDoor.expr Go.Proofs.YtmgeecdgebemdaaGreatDoor.stm Go.Proofs.YtmgeecdgebemdaaGreatDoor.blk Go.Proofs.YtmgeecdgebemdaaGreatDoor.sets
set_option maxRecDepth 100000 in
set_option maxHeartbeats 2000000 in
theorem impl_readsensorR (w : World) (a : Option Addr) (n cap : Nat) (R : List Int) (hn : (n : Int) ≤ 1048576) (h : Row w a n R) (q m : Int) :
    Calls Tryz.prog 140 #[.slice a n cap, .int .i64 q, .int .i64 m] w (Ret w (readS R q m)) := by
  have hl := h.1
  by_cases h0 : n = 0
  · subst h0
    have HV := Lib.hid (readS_no (R := R) (q := q) (n := m) (.inl hl))
    go_enter Tryz.func140, Tryz.ntmps140
    go_wp2
    go_ret
    exact ⟨ret_i HV.out.symm, rfl⟩
  · have hpos : ¬ (n : Int) = 0 := by omega
    cases hq : (decide (0 ≤ q) && decide (q ≤ 3))
    · have HQ := Lib.hid hq
      have HV := Lib.hid (readS_no (R := R) (q := q) (n := m) (by simp at hq; omega))
      clear hq
      go_enter Tryz.func140, Tryz.ntmps140
      go_wp2_with (go_at_call 183; (with_reducible refine (sensnum q _ HQ.out _).mono ?_); rintro e w3 ⟨rfl, rfl⟩)
      go_ret
      exact ⟨ret_i HV.out.symm, rfl⟩
    · have HQ := Lib.hid hq
      have hq2 : 0 ≤ q ∧ q ≤ 3 := by simpa using hq
      clear hq
      by_cases hm : m < 0
      · have HV := Lib.hid (readS_no (R := R) (q := q) (n := m) (by omega))
        go_enter Tryz.func140, Tryz.ntmps140
        go_wp2_with (go_at_call 183; (with_reducible refine (sensnum q _ HQ.out _).mono ?_); rintro e w3 ⟨rfl, rfl⟩)
        go_ret
        exact ⟨ret_i HV.out.symm, rfl⟩
      · have hmd : decide (m < 0) = false := by simp; omega
        have ht : m.tmod n = m % n := Int.tmod_eq_emod_of_nonneg (by omega)
        have hr0 : 0 ≤ m % n := Int.emod_nonneg m (by omega)
        have hr1 : m % n < n := Int.emod_lt_of_pos m (by omega)
        obtain ⟨k, hk⟩ : ∃ k : Nat, m % n = k := ⟨(m % n).toNat, by omega⟩
        obtain ⟨b, off, x, rfl, _, hx, hc⟩ := h.2 k (by omega)
        have HV := Lib.hid (show readS R q m = sat (sat x + sat (100 * q)) by
          rw [readS_ok (by omega) hq2.1 (by omega) (by omega), hl, hk, List.getD_eq_getElem?_getD, show ((k : Int)).toNat = k by omega, hx]; rfl)
        rw [hk] at ht hr0 hr1
        have hm0 : 0 ≤ m := by omega
        clear hx h hk hm
        go_enter Tryz.func140, Tryz.ntmps140
        go_wp2_with (first
          | (go_at_call 183; (with_reducible refine (sensnum q _ HQ.out _).mono ?_); rintro e w3 ⟨rfl, rfl⟩)
          | (go_at_call 184; refine (impl_add _ _ _).mono ?_; rintro e w4 ⟨rfl, rfl⟩))
        go_ret
        exact ⟨ret_i HV.out.symm, rfl⟩
set_option maxRecDepth 100000 in
set_option maxHeartbeats 2000000 in
theorem rd_live (w : World) (c : PCf) (hlv : c.lv = true) (hS : PCfS c w) (h : CapAt c w) (q : Int) (n : Nat) (hn : n ≤ 100000) (v : Int) (hv : c.src q n = v) :
    Calls Tryz.prog 139 #[.int .i64 q, .int .i64 n, .pointer (some ⟨c.gu, 0, none⟩), .pointer (some ⟨c.gz, 0, none⟩)] w (Ret w v) := by
  obtain ⟨lv, gu, gz, al, nl, cl, Y, z⟩ := c
  simp only at hlv
  subst hlv
  obtain ⟨⟨_, c0⟩, h1, _⟩ := h
  obtain ⟨hY, hnl, hz, _⟩ := hS
  have c1 := (h1 rfl).2.2
  dsimp only at c0 c1 hY hnl hz
  have hv2 : readS Y q (z + n) = v := hv
  have hn0 : 0 ≤ z + n ∧ z + n ≤ 2000000 := by omega
  have HR := Lib.hid (impl_readsensorR w al nl cl Y hnl hY q (z + n))
  rw [hv2] at HR
  clear hv hv2 hY h1
  go_enter Tryz.func139, Tryz.ntmps139
  go_wp2_with (go_at_call 140; (with_reducible refine HR.out.mono ?_); rintro e w3 ⟨rfl, rfl⟩)
  go_ret
  exact ⟨rfl, rfl⟩
set_option maxRecDepth 100000 in
/-- The function that yields the readings, with what it has captured. -/
theorem impl_sensorsfrom (ar : Option Addr) (nr cr : Nat) (z : Int) (w : World) : Calls Tryz.prog 80 #[.slice ar nr cr, .int .i64 z] w
    (fun e w' => e = .returned (fnS w.heap.size (w.heap.size + 1)) ∧ Below w.heap.size w w' ∧ Box w.heap.size #[.slice ar nr cr] 27 w' ∧ Box (w.heap.size + 1) #[.int .i64 z] 3 w') := by
  have hmf : ∀ (fn : Fn) (first cap : Array Value) (w : World), (Instr.makeFunc fn first cap).run Tryz.prog w = .ok (.func fn first cap) w := fun _ _ _ _ => rfl
  go_enter Tryz.func80, Tryz.ntmps80
  go_wp2
  go_ret
  refine ⟨rfl, below_then (below_new w _) (below_new _ _), (Box.new w _ _).alloc _, ?_⟩
  have h9 := Box.new (w.alloc (.cells #[.slice ar nr cr] 27)) #[.int .i64 z] 3
  rw [World.size_alloc] at h9
  exact h9
theorem impl_first (z : Int) (r : Bool) (hr : (decide (0 ≤ z) && decide (z ≤ 1000000)) = r) (w : World) : Calls Tryz.prog 135 #[.int .i64 z] w (RetB w r) := by
  subst hr
  by_cases h : 0 ≤ z
  · simp only [h, decide_true, Bool.true_and]
    go_enter Tryz.func135, Tryz.ntmps135
    go_wp2
    go_ret
    exact ⟨rfl, rfl⟩
  · simp only [h, decide_false, Bool.false_and]
    go_enter Tryz.func135, Tryz.ntmps135
    go_wp2
    go_ret
    exact ⟨rfl, rfl⟩
end Go.Proofs.YtmgeecdgebemdaaGreatDoor.exe
