/- Several texts in one: VJrnD VTrcH. -/
import Derived.Test.YtmgeecdgebemdaaGreatDoorGSigV43
import Derived.Deep.RegionLaw
import Derived.Deep.RegionHeld3
import Derived.Test.YtmgeecdgebemdaaGreatDoorGSigV36
import Derived.Test.YtmgeecdgebemdaaGreatDoorGSigV17

/- Chapter 14 of the program: the observer that makes a trace of what it is told; nothing else that was there is written. -/
namespace Go.Proofs.YtmgeecdgebemdaaGreatDoor.trc
open Go Go.ChangeShapes Go.WideShapes Go.ChangeAt Go.RowKit Go.Proofs.YtmgeecdgebemdaaGreatDoor.row Go.Proofs.YtmgeecdgebemdaaGreatDoor.val Go.Proofs.YtmgeecdgebemdaaGreatDoor.expr Go.Proofs.YtmgeecdgebemdaaGreatDoor.stm Go.Proofs.YtmgeecdgebemdaaGreatDoor.blk Go.Proofs.YtmgeecdgebemdaaGreatDoor.prg Go.Proofs.YtmgeecdgebemdaaGreatDoor.exe Go.Proofs.YtmgeecdgebemdaaGreatDoor.grow Go.Proofs.YtmgeecdgebemdaaGreatDoor.rss Go.Proofs.YtmgeecdgebemdaaGreatDoor.ctl Go.Proofs.YtmgeecdgebemdaaGreatDoor.sets Go.Proofs.YtmgeecdgebemdaaGreatDoor.wrt Go.Proofs.YtmgeecdgebemdaaGreatDoor.mem Go.Proofs.YtmgeecdgebemdaaGreatDoor.cst
theorem StAt.stays {B gs : Nat} {a : Option Addr} {m c : Nat} {M : List Mic} {w w' : World} (h : StAt B gs a m c M w) (hs : w.heap.size ≤ w'.heap.size) (hk : ∀ (j b : Nat), (jnB gs a m c)[j]? = some (some b) → w'.heap[b]? = w.heap[b]?) : StAt B gs a m c M w' :=
  ⟨(hk 0 gs rfl).trans h.box, rs_stays h.rows hs hk⟩
theorem JnAt.stays {B gj : Nat} {a : Option Addr} {m c : Nat} {D : List Int} {tk tl : Int} {L : List Int} {w w' : World} (h : JnAt B gj a m c D tk tl L w) (hs : w.heap.size ≤ w'.heap.size) (hk : ∀ (j b : Nat), (jnB gj a m c)[j]? = some (some b) → w'.heap[b]? = w.heap[b]?) : JnAt B gj a m c D tk tl L w' :=
  ⟨(hk 0 gj rfl).trans h.box, rs_stays h.rows hs hk⟩
/-- The trace so far: the steps, the journal, the function that adds steps; each apart. -/
structure TrP (B gs ga gj : Nat) (a : Option Addr) (m c : Nat) (a' : Option Addr) (m' c' : Nat) (D : List Int) (tk tl : Int) (M : List Mic) (L : List Int) (w : World) : Prop where
  st : StAt B gs a m c M w
  jn : JnAt B gj a' m' c' D tk tl L w
  low : B ≤ ga
  bx : ∃ ft, Box ga #[.func (.func 77) #[] #[.pointer (some ⟨gs, 0, none⟩)]] ft w
  d1 : Dj (jnB gs a m c) (jnB gj a' m' c')
  d2 : Dj (jnB gs a m c) [some ga]
  d3 : Dj (jnB gj a' m' c') [some ga]
  inv : LogInv D L
abbrev trF (gs ga gj : Nat) (a : Option Addr) (m c : Nat) (a' : Option Addr) (m' c' : Nat) : List (Option Nat) := jnB gs a m c ++ jnB gj a' m' c' ++ [some ga]
theorem trF_j {gs ga gj : Nat} {a : Option Addr} {m c : Nat} {a' : Option Addr} {m' c' : Nat} {j b : Nat} (h : (jnB gj a' m' c')[j]? = some (some b)) : ∃ i : Nat, (trF gs ga gj a m c a' m' c')[i]? = some (some b) := by
  have := List.mem_iff_getElem?.2 ⟨j, h⟩
  refine List.mem_iff_getElem?.1 ?_
  rw [List.mem_append, List.mem_append]; exact .inl (.inr this)
theorem trF_s {gs ga gj : Nat} {a : Option Addr} {m c : Nat} {a' : Option Addr} {m' c' : Nat} {j b : Nat} (h : (jnB gs a m c)[j]? = some (some b)) : ∃ i : Nat, (trF gs ga gj a m c a' m' c')[i]? = some (some b) := by
  have := List.mem_iff_getElem?.2 ⟨j, h⟩
  refine List.mem_iff_getElem?.1 ?_
  rw [List.mem_append, List.mem_append]; exact .inl (.inl this)
theorem TrP.ga_lt {B gs ga gj : Nat} {a : Option Addr} {m c : Nat} {a' : Option Addr} {m' c' : Nat} {D : List Int} {tk tl : Int} {M : List Mic} {L : List Int} {w : World} (h : TrP B gs ga gj a m c a' m' c' D tk tl M L w) : ga < w.heap.size := by
  obtain ⟨ft, hx⟩ := h.bx
  exact hx.lt
theorem TrP.one_lt {B gs ga gj : Nat} {a : Option Addr} {m c : Nat} {a' : Option Addr} {m' c' : Nat} {D : List Int} {tk tl : Int} {M : List Mic} {L : List Int} {w : World} (h : TrP B gs ga gj a m c a' m' c' D tk tl M L w) : ∀ (j b : Nat), ([some ga] : List (Option Nat))[j]? = some (some b) → b < w.heap.size
  | 0, b, e => by
    have e2 : some ga = some b := Option.some.inj e
    cases e2; exact h.ga_lt
  | j + 1, b, e => by simp at e
theorem TrP.base {B gs ga gj : Nat} {a : Option Addr} {m c : Nat} {a' : Option Addr} {m' c' : Nat} {D : List Int} {tk tl : Int} {M : List Mic} {L : List Int} {w : World} (h : TrP B gs ga gj a m c a' m' c' D tk tl M L w) : ∀ (j b : Nat), (trF gs ga gj a m c a' m' c')[j]? = some (some b) → B ≤ b ∧ b < w.heap.size := by
  intro j b e
  have hm : some b ∈ trF gs ga gj a m c a' m' c' := List.mem_iff_getElem?.2 ⟨j, e⟩
  rw [List.mem_append, List.mem_append] at hm
  rcases hm with (hm | hm) | hm
  · obtain ⟨i, hi⟩ := List.mem_iff_getElem?.1 hm
    exact ⟨h.st.rows.base i b hi, h.st.rows.bound i b hi⟩
  · obtain ⟨i, hi⟩ := List.mem_iff_getElem?.1 hm
    exact ⟨h.jn.rows.base i b hi, h.jn.rows.bound i b hi⟩
  · have : b = ga := by simpa using hm
    subst this
    exact ⟨h.low, h.ga_lt⟩
theorem TrP.stays {B gs ga gj : Nat} {a : Option Addr} {m c : Nat} {a' : Option Addr} {m' c' : Nat} {D : List Int} {tk tl : Int} {M : List Mic} {L : List Int} {w w' : World} (h : TrP B gs ga gj a m c a' m' c' D tk tl M L w) (hs : w.heap.size ≤ w'.heap.size) (hk : ∀ (j b : Nat), (trF gs ga gj a m c a' m' c')[j]? = some (some b) → w'.heap[b]? = w.heap[b]?) : TrP B gs ga gj a m c a' m' c' D tk tl M L w' := by
  have hk2 : ∀ b, some b ∈ trF gs ga gj a m c a' m' c' → w'.heap[b]? = w.heap[b]? := fun b hb => by
    obtain ⟨j, hj⟩ := List.mem_iff_getElem?.1 hb
    exact hk j b hj
  obtain ⟨ft, hx⟩ := h.bx
  refine ⟨h.st.stays hs (fun j b e => hk2 b ?_), h.jn.stays hs (fun j b e => hk2 b ?_), h.low, ⟨ft, (hk2 ga (by simp [trF])).trans hx⟩, h.d1, h.d2, h.d3, h.inv⟩
  · have := List.mem_iff_getElem?.2 ⟨j, e⟩
    rw [List.mem_append, List.mem_append]; exact .inl (.inl this)
  · have := List.mem_iff_getElem?.2 ⟨j, e⟩
    rw [List.mem_append, List.mem_append]; exact .inl (.inr this)
theorem TrP.below {B gs ga gj : Nat} {a : Option Addr} {m c : Nat} {a' : Option Addr} {m' c' : Nat} {D : List Int} {tk tl : Int} {M : List Mic} {L : List Int} {w w' : World} (h : TrP B gs ga gj a m c a' m' c' D tk tl M L w) (hb : Below w.heap.size w w') : TrP B gs ga gj a m c a' m' c' D tk tl M L w' := h.stays hb.size (fun j b e => hb.block b (h.base j b e).2)
theorem TrP.jn_moved {B gs ga gj : Nat} {a : Option Addr} {m c : Nat} {a' : Option Addr} {m' c' : Nat} {a2 : Option Addr} {m2 c2 : Nat} {D : List Int} {tk tl : Int} {M : List Mic} {L L2 : List Int} {w w' : World} (h : TrP B gs ga gj a m c a' m' c' D tk tl M L w) (mv : Mv (jnB gj a' m' c') w (jnB gj a2 m2 c2) w') (hj : JnAt B gj a2 m2 c2 D tk tl L2 w') (hi : LogInv D L2) :
    TrP B gs ga gj a m c a2 m2 c2 D tk tl M L2 w' ∧ Mv (trF gs ga gj a m c a' m' c') w (trF gs ga gj a m c a2 m2 c2) w' := by
  obtain ⟨ft, hx⟩ := h.bx
  refine ⟨⟨h.st.stays mv.size (mv_keeps mv h.d1.symm h.st.rows.bound), hj, h.low, ⟨ft, (mv_keeps mv h.d3 h.one_lt 0 ga rfl).trans hx⟩, h.d1.right mv h.st.rows.bound, h.d2, h.d3.left mv h.one_lt, hi⟩, mv_part mv (jnB gs a m c) [some ga]⟩
theorem TrP.st_moved {B gs ga gj : Nat} {a : Option Addr} {m c : Nat} {a' : Option Addr} {m' c' : Nat} {a2 : Option Addr} {m2 c2 : Nat} {D : List Int} {tk tl : Int} {M M2 : List Mic} {L : List Int} {w w' : World} (h : TrP B gs ga gj a m c a' m' c' D tk tl M L w) (mv : Mv (jnB gs a m c) w (jnB gs a2 m2 c2) w') (hs : StAt B gs a2 m2 c2 M2 w') :
    TrP B gs ga gj a2 m2 c2 a' m' c' D tk tl M2 L w' ∧ Mv (trF gs ga gj a m c a' m' c') w (trF gs ga gj a2 m2 c2 a' m' c') w' := by
  obtain ⟨ft, hx⟩ := h.bx
  refine ⟨⟨hs, h.jn.stays mv.size (mv_keeps mv h.d1 h.jn.rows.bound), h.low, ⟨ft, (mv_keeps mv h.d2 h.one_lt 0 ga rfl).trans hx⟩, h.d1.left mv h.jn.rows.bound, h.d2.left mv h.one_lt, h.d3, h.inv⟩, ?_⟩
  have h9 := mv_part mv [] (jnB gj a' m' c' ++ [some ga])
  simpa [trF] using h9
def trAt (B gs ga gj : Nat) (D : List Int) (tk tl : Int) (t : Tt) (F : List (Option Nat)) (w : World) : Prop :=
  ∃ a m c a' m' c', F = trF gs ga gj a m c a' m' c' ∧ TrP B gs ga gj a m c a' m' c' D tk tl t.M t.L w
set_option maxRecDepth 100000 in
/-- The program's observer. -/
def traceObs (B gs ga gj g : Nat) (D : List Int) (tk tl : Int) : Obs B where
  toObm := traceO D tk tl
  k := 81
  fc := #[.pointer (some ⟨ga, 0, none⟩), .pointer (some ⟨gj, 0, none⟩), .pointer (some ⟨g, 0, none⟩)]
  ent := fun _ _ => by kernel_rfl
  At := trAt B gs ga gj D tk tl
  base := fun t F w h j b e => by
    obtain ⟨a, m, c, a', m', c', rfl, hp⟩ := h
    exact hp.base j b e
  stay := fun t F w w' h hs hk => by
    obtain ⟨a, m, c, a', m', c', rfl, hp⟩ := h
    exact ⟨a, m, c, a', m', c', rfl, hp.stays hs hk⟩
theorem keep12 {w w' : World} {ga gs b g : Nat} {s : Sm} {x0 x1 x2 x3 x4 : Value} (ha : w'.heap[ga]? = w.heap[ga]?) (hb : w'.heap[b]? = w.heap[b]?) (hg : w'.heap[g]? = w.heap[g]?) (h : w.cell? ⟨ga, 0, none⟩ = some (.func (.func 77) #[] #[.pointer (some ⟨gs, 0, none⟩)]) ∧ w.cell? ⟨b, 0, none⟩ = some (.int .i64 s.k) ∧ w.cell? ⟨b, 1, none⟩ = some (.int .i64 s.v) ∧ w.cell? ⟨b, 2, none⟩ = some (.int .i64 s.n) ∧ w.cell? ⟨b, 3, none⟩ = some (.int .i64 s.o) ∧ w.cell? ⟨b, 3 + 1, none⟩ = some (.int .i64 s.a) ∧ w.cell? ⟨b, 3 + 2, none⟩ = some (.int .i64 s.b) ∧ w.cell? ⟨g, 0, none⟩ = some x0 ∧ w.cell? ⟨g, 1, none⟩ = some x1 ∧ w.cell? ⟨g, 2, none⟩ = some x2 ∧ w.cell? ⟨g, 3, none⟩ = some x3 ∧ w.cell? ⟨g, 4, none⟩ = some x4) :
    w'.cell? ⟨ga, 0, none⟩ = some (.func (.func 77) #[] #[.pointer (some ⟨gs, 0, none⟩)]) ∧ w'.cell? ⟨b, 0, none⟩ = some (.int .i64 s.k) ∧ w'.cell? ⟨b, 1, none⟩ = some (.int .i64 s.v) ∧ w'.cell? ⟨b, 2, none⟩ = some (.int .i64 s.n) ∧ w'.cell? ⟨b, 3, none⟩ = some (.int .i64 s.o) ∧ w'.cell? ⟨b, 3 + 1, none⟩ = some (.int .i64 s.a) ∧ w'.cell? ⟨b, 3 + 2, none⟩ = some (.int .i64 s.b) ∧ w'.cell? ⟨g, 0, none⟩ = some x0 ∧ w'.cell? ⟨g, 1, none⟩ = some x1 ∧ w'.cell? ⟨g, 2, none⟩ = some x2 ∧ w'.cell? ⟨g, 3, none⟩ = some x3 ∧ w'.cell? ⟨g, 4, none⟩ = some x4 := by
  have e : ∀ (q j : Nat), w'.heap[q]? = w.heap[q]? → w'.cell? ⟨q, j, none⟩ = w.cell? ⟨q, j, none⟩ := fun q j h => World.cell?_of_block (a := ⟨q, j, none⟩) h
  rw [e ga 0 ha, e b 0 hb, e b 1 hb, e b 2 hb, e b 3 hb, e b (3 + 1) hb, e b (3 + 2) hb, e g 0 hg, e g 1 hg, e g 2 hg, e g 3 hg, e g 4 hg]
  exact h
theorem nl_small {w : World} {B nl cl : Nat} {al : Option Addr} {Q : List Wt} (h : w.ownsRow B 100 2 (.slice al nl cl) nl (writesC Q)) (hq : Q.length ≤ 4) : nl ≤ 8 := by
  have h1 := h.1
  rw [writesC_len] at h1; omega
theorem far_of {w w5 w6 : World} {nl cl N : Nat} {al : Option Addr} {Q : List Wt} {gs ga gj : Nat} {a : Option Addr} {m c : Nat} {a' : Option Addr} {m' c' : Nat} (h : w6.ownsRow w5.heap.size 100 2 (.slice al nl cl) nl (writesC Q)) (hN : N ≤ w5.heap.size) (hw : w.heap.size ≤ N) (hl : ∀ (j b : Nat), (trF gs ga gj a m c a' m' c')[j]? = some (some b) → b < w.heap.size) :
    ∀ b off, al = some ⟨b, off, none⟩ → ∀ j : Nat, (jnB gs a m c)[j]? ≠ some (some b) := by
  intro b off e j hj
  subst e
  have h1 := (h.lt b rfl).1
  obtain ⟨i, hi⟩ := trF_s (ga := ga) (gj := gj) (a' := a') (m' := m') (c' := c') hj
  have := hl i b hi
  omega
/-- What the observer's call makes. -/
def TellOut (B gs ga gj : Nat) (a : Option Addr) (m c : Nat) (a' : Option Addr) (m' c' : Nat) (D : List Int) (tk tl : Int) (M : List Mic) (L : List Int) (w : World) (e : Ending) (w' : World) : Prop :=
  e = .returned (.tuple #[]) ∧ ∃ a2 m2 c2 a3 m3 c3, TrP B gs ga gj a2 m2 c2 a3 m3 c3 D tk tl M L w' ∧ Mv (trF gs ga gj a m c a' m' c') w (trF gs ga gj a2 m2 c2 a3 m3 c3) w'
set_option maxHeartbeats 16000000 in
set_option maxRecDepth 100000 in
theorem impl_tell (B gs ga gj g : Nat) (a : Option Addr) (m c0 : Nat) (a' : Option Addr) (m' c' : Nat) (D : List Int) (tk tl : Int) (M : List Mic) (L : List Int) (w : World) (h : TrP B gs ga gj a m c0 a' m' c' D tk tl M L w) (hD : Vrs D) (hDl : D.length ≤ 8) (htl : 0 ≤ tl ∧ tl ≤ 24) (hM : M.length ≤ 60000)
    (c : PCf) (gv cv : Nat) (a1 : Option Addr) (n1 c1 : Nat) (a2 : Option Addr) (n2 c2 : Nat) (x : Sx) (hV : Row w (some ⟨gv, 0, none⟩) 8 x.V) (hS : x.S.length = n1) (hn1 : n1 ≤ 100000)
    (hx : Box g #[.slice (some ⟨gv, 0, none⟩) 8 cv, .slice a1 n1 c1, .slice a2 n2 c2, fnS c.gu c.gz, .func (.func 81) #[] #[.pointer (some ⟨ga, 0, none⟩), .pointer (some ⟨gj, 0, none⟩), .pointer (some ⟨g, 0, none⟩)]] 110 w) (hgF : ∀ j : Nat, (trF gs ga gj a m c0 a' m' c')[j]? ≠ some (some g))
    (hvF : ∀ j : Nat, (trF gs ga gj a m c0 a' m' c')[j]? ≠ some (some gv)) (s : Sm) (hs : stOk s = true) (v : Int) (HCT : CostTab w) :
    Calls Tryz.prog 81 #[.agg (stmA s), .int .i64 v, .pointer (some ⟨ga, 0, none⟩), .pointer (some ⟨gj, 0, none⟩), .pointer (some ⟨g, 0, none⟩)] w
      (TellOut B gs ga gj a m c0 a' m' c' D tk tl (M ++ stepsOf (kindT s.k) (addP D tk tl s x v L)) (addL D s L) w) := by
  obtain ⟨W, hW⟩ : ∃ W, w.alloc (.cells (stmA s) 112) = W := ⟨_, rfl⟩
  have hbW : Below w.heap.size w W := by rw [← hW]; exact below_new w _
  have hbx : Box w.heap.size (stmA s) 112 W := by rw [← hW]; exact Box.new w _ _
  have hbD : Below w.heap.size w W.drew := hbW.drew
  have HW := Lib.hid hW
  have hgl := hx.lt
  have hal := h.ga_lt
  obtain ⟨ft, hax⟩ := h.bx
  have hxD := hx.below hbD
  have haD := hax.below hbD
  have hbD2 : Box w.heap.size (stmA s) 112 W.drew := hbx
  have hlD := hbD2.lt
  have cS : W.drew.cell? ⟨ga, 0, none⟩ = some (.func (.func 77) #[] #[.pointer (some ⟨gs, 0, none⟩)]) ∧ W.drew.cell? ⟨w.heap.size, 0, none⟩ = some (.int .i64 s.k) ∧ W.drew.cell? ⟨w.heap.size, 1, none⟩ = some (.int .i64 s.v) ∧ W.drew.cell? ⟨w.heap.size, 2, none⟩ = some (.int .i64 s.n) ∧ W.drew.cell? ⟨w.heap.size, 3, none⟩ = some (.int .i64 s.o) ∧ W.drew.cell? ⟨w.heap.size, 3 + 1, none⟩ = some (.int .i64 s.a) ∧ W.drew.cell? ⟨w.heap.size, 3 + 2, none⟩ = some (.int .i64 s.b) ∧ W.drew.cell? ⟨g, 0, none⟩ = some (.slice (some ⟨gv, 0, none⟩) 8 cv) ∧ W.drew.cell? ⟨g, 1, none⟩ = some (.slice a1 n1 c1) ∧ W.drew.cell? ⟨g, 2, none⟩ = some (.slice a2 n2 c2) ∧ W.drew.cell? ⟨g, 3, none⟩ = some (fnS c.gu c.gz) ∧ W.drew.cell? ⟨g, 4, none⟩ = some (.func (.func 81) #[] #[.pointer (some ⟨ga, 0, none⟩), .pointer (some ⟨gj, 0, none⟩), .pointer (some ⟨g, 0, none⟩)]) :=
    ⟨haD.cell 0, hbD2.cell 0, hbD2.cell 1, hbD2.cell 2, hbD2.cell 3, hbD2.cell 4, hbD2.cell 5, hxD.cell 0, hxD.cell 1, hxD.cell 2, hxD.cell 3, hxD.cell 4⟩
  have HCO := Lib.hid (show ∀ w', Below w.heap.size w w' → Calls Tryz.prog 82 #[.agg (stmA s)] w' (BelI w' (kindT s.k)) from fun w' hb => by
    have h9 := impl_stmtcost s w' (HCT.below hb)
    rw [show costF s = kindT s.k by unfold costF; rw [if_pos hs]; rfl] at h9
    exact h9)
  have HP := Lib.hid (h.below hbD)
  have HBD := Lib.hid hbD
  have HV := Lib.hid (hV.below hbD)
  have HSW := Lib.hid (show ∀ w', JnAt B gj a' m' c' D tk tl L w' → Row w' (some ⟨gv, 0, none⟩) 8 x.V → Calls Tryz.prog 83 #[.pointer (some ⟨gj, 0, none⟩), .agg #[.slice (some ⟨gv, 0, none⟩) 8 cv, .slice a1 n1 c1, .slice a2 n2 c2, fnS c.gu c.gz, .func (.func 81) #[] #[.pointer (some ⟨ga, 0, none⟩), .pointer (some ⟨gj, 0, none⟩), .pointer (some ⟨g, 0, none⟩)]], .agg (stmA s), .int .i64 v] w' (AsgOut B gj a' m' c' D tk tl (addL D s L) (addP D tk tl s x v L) w') from
    fun w' hj hr => impl_stmtwrites B gj a' m' c' D tk tl L w' hj hD hDl h.inv htl gv cv a1 n1 c1 a2 n2 c2 _ _ _ _ x hr hS hn1 s hs v)
  have HAD := Lib.hid (show ∀ w' al nl cl, StAt B gs a m c0 M w' → WriteRow w' al nl (addP D tk tl s x v L) → nl ≤ 8 → (∀ b off, al = some ⟨b, off, none⟩ → ∀ j : Nat, (jnB gs a m c0)[j]? ≠ some (some b)) → Calls Tryz.prog 77 #[.int .i64 (kindT s.k), .slice al nl cl, .pointer (some ⟨gs, 0, none⟩)] w' (AddOut B gs a m c0 (M ++ stepsOf (kindT s.k) (addP D tk tl s x v L)) w') from
    fun w' al nl cl hst hwr hnl hf => impl_add B gs a m c0 M w' hst (by omega) (kindT s.k) al nl cl _ hwr hnl hf)
  have HIN := Lib.hid (add_inv h.inv s)
  have HF := Lib.hid (And.intro hgF hvF)
  have HLT := Lib.hid (show ∀ (j b : Nat), (trF gs ga gj a m c0 a' m' c')[j]? = some (some b) → b < w.heap.size from fun j b e => (h.base j b e).2)
  have HPL := Lib.hid (addP_len D tk tl s x v L)
  clear h hD hDl htl hM hV hS hn1 hx hgF hvF hs HCT hW hbW hbx hbD hax hxD haD hbD2
  go_enter Tryz.func81, Tryz.ntmps81
  go_wp2
  rw [HW.out]
  go_region_held3 (fun w' => w'.cell? ⟨ga, 0, none⟩ = some (.func (.func 77) #[] #[.pointer (some ⟨gs, 0, none⟩)]) ∧ w'.cell? ⟨w.heap.size, 0, none⟩ = some (.int .i64 s.k) ∧ w'.cell? ⟨w.heap.size, 1, none⟩ = some (.int .i64 s.v) ∧ w'.cell? ⟨w.heap.size, 2, none⟩ = some (.int .i64 s.n) ∧ w'.cell? ⟨w.heap.size, 3, none⟩ = some (.int .i64 s.o) ∧ w'.cell? ⟨w.heap.size, 3 + 1, none⟩ = some (.int .i64 s.a) ∧ w'.cell? ⟨w.heap.size, 3 + 2, none⟩ = some (.int .i64 s.b) ∧ w'.cell? ⟨g, 0, none⟩ = some (.slice (some ⟨gv, 0, none⟩) 8 cv) ∧ w'.cell? ⟨g, 1, none⟩ = some (.slice a1 n1 c1) ∧ w'.cell? ⟨g, 2, none⟩ = some (.slice a2 n2 c2) ∧ w'.cell? ⟨g, 3, none⟩ = some (fnS c.gu c.gz) ∧ w'.cell? ⟨g, 4, none⟩ = some (.func (.func 81) #[] #[.pointer (some ⟨ga, 0, none⟩), .pointer (some ⟨gj, 0, none⟩), .pointer (some ⟨g, 0, none⟩)]))
    (first
      | (exact cS)
      | (exact sA)
      | (exact sB)
      | (exact sC))
    (first
      | (go_at_call 82; (with_reducible refine (HCO.out _ HBD.out).mono ?_); rintro e w5 ⟨rfl, hb5⟩; have sA := keep12 (hb5.block ga (by have := HBD.out.size; omega)) (hb5.block w.heap.size hlD) (hb5.block g (by have := HBD.out.size; omega)) cS; have H5 := Lib.hid hb5)
      | (go_at_call 83; ((with_reducible refine (HSW.out _ (HP.out.jn.below H5.out) (HV.out.below H5.out)).mono ?_); rintro e w6 ⟨al, nl, cl, a3, m3, c3, rfl, ho6, hj6, hm6⟩; have H6 := Lib.hid (And.intro ho6 ((HP.out.below H5.out).jn_moved hm6 hj6 HIN.out)); have hs65 := hm6.size; have sB := keep12 (mv_keeps hm6 (HP.out.below H5.out).d3 (HP.out.below H5.out).one_lt 0 ga rfl) (hm6.block w.heap.size (Nat.lt_of_lt_of_le hlD H5.out.size) (fun j e => by obtain ⟨i, hi⟩ := trF_j (gs := gs) (ga := ga) (a := a) (m := m) (c := c0) e; have := HLT.out i w.heap.size hi; omega)) (hm6.block g (by have := HBD.out.size; have := H5.out.size; omega) (fun j e => by obtain ⟨i, hi⟩ := trF_j (gs := gs) (ga := ga) (a := a) (m := m) (c := c0) e; exact HF.out.1 i hi)) sA))
      | (go_at_call 77; ((with_reducible refine (HAD.out _ al nl cl H6.out.2.1.st (GRow.of_own writeC_len (by decide) H6.out.1) (nl_small H6.out.1 HPL.out) (far_of H6.out.1 H5.out.size HBD.out.size HLT.out)).mono ?_); rintro e w7 ⟨rfl, g2, c2', m2, hst7, hm7⟩; have H7 := Lib.hid (H6.out.2.1.st_moved hm7 hst7); have sC := keep12 (mv_keeps hm7 H6.out.2.1.d2 H6.out.2.1.one_lt 0 ga rfl) (hm7.block w.heap.size (Nat.lt_of_lt_of_le (Nat.lt_of_lt_of_le hlD H5.out.size) hs65) (fun j e => by obtain ⟨i, hi⟩ := trF_s (ga := ga) (gj := gj) (a' := a') (m' := m') (c' := c') e; have := HLT.out i w.heap.size hi; omega)) (hm7.block g (by have := HBD.out.size; have := H5.out.size; omega) (fun j e => by obtain ⟨i, hi⟩ := trF_s (ga := ga) (gj := gj) (a' := a') (m' := m') (c' := c') e; exact HF.out.1 i hi)) sB)))
  all_goals
    have H9 := Lib.hid (And.intro H7.out.1 ((Mv.of_below (trF gs ga gj a m c0 a' m' c') (below_then HBD.out H5.out)).trans (H6.out.2.2.trans H7.out.2)))
    clear hst7 hm7 hm6 ho6 hj6 sA sB sC cS
    refine Lib.hid ?_
    go_wp2
    exact ⟨_, results_none rfl _ _ _, rfl, _, _, _, _, _, _, H9.out.1, H9.out.2⟩
end Go.Proofs.YtmgeecdgebemdaaGreatDoor.trc

/- Chapter 14 of the program: canTrace and TraceOf: the steps of the current task, in new memory; nothing that was there is written. -/
namespace Go.Proofs.YtmgeecdgebemdaaGreatDoor.trc
open Go Go.ChangeShapes Go.WideShapes Go.ChangeAt Go.RowKit Go.Proofs.YtmgeecdgebemdaaGreatDoor.row Go.Proofs.YtmgeecdgebemdaaGreatDoor.val Go.Proofs.YtmgeecdgebemdaaGreatDoor.expr Go.Proofs.YtmgeecdgebemdaaGreatDoor.stm Go.Proofs.YtmgeecdgebemdaaGreatDoor.blk Go.Proofs.YtmgeecdgebemdaaGreatDoor.prg Go.Proofs.YtmgeecdgebemdaaGreatDoor.exe Go.Proofs.YtmgeecdgebemdaaGreatDoor.grow Go.Proofs.YtmgeecdgebemdaaGreatDoor.rss Go.Proofs.YtmgeecdgebemdaaGreatDoor.ctl Go.Proofs.YtmgeecdgebemdaaGreatDoor.sets Go.Proofs.YtmgeecdgebemdaaGreatDoor.wrt Go.Proofs.YtmgeecdgebemdaaGreatDoor.mem Go.Proofs.YtmgeecdgebemdaaGreatDoor.cst
theorem dj_at {l k : List (Option Nat)} (h : Dj l k) {i b : Nat} (hi : l[i]? = some (some b)) : ∀ j : Nat, k[j]? ≠ some (some b) := fun j hj => h i j b hi hj
/-- Told a statement, the program's observer makes the steps of it. -/
theorem trace_tells (w0 : World) (c : PCf) (hlv : c.lv = true) (g gs ga gj : Nat) (D : List Int) (tk tl : Int) (hD : Vrs D) (hDl : D.length ≤ 8) (htl : 0 ≤ tl ∧ tl ≤ 24) (HC : CostTab w0) :
    Tells w0 c (traceObs w0.heap.size gs ga gj g D tk tl) g := by
  intro w p F x t s v hs h6 hx hv ht hB h
  obtain ⟨gv, cv, a1, n1, c1, a2, n2, c2⟩ := p
  obtain ⟨M, L⟩ := t
  obtain ⟨a, m, c0, a', m', c', hF, hp⟩ := h.ob
  subst hF
  have e : (#[Value.agg (stmA s), .int .i64 v] ++ (traceObs w0.heap.size gs ga gj g D tk tl).fc) = #[.agg (stmA s), .int .i64 v, .pointer (some ⟨ga, 0, none⟩), .pointer (some ⟨gj, 0, none⟩), .pointer (some ⟨g, 0, none⟩)] := by simp [traceObs]
  rw [e]
  have hfn : c.fn = fnS c.gu c.gz := by unfold PCf.fn; rw [if_pos hlv]
  have hbx := h.box
  unfold pxC at hbx
  rw [hfn] at hbx
  have hlen : x.S.length = n1 := h.slen
  have hn1 : n1 ≤ 100000 ∧ M.length ≤ 60000 := by
    have h1 : tot x + (M.length : Int) ≤ 50000 := ht
    unfold tot at h1
    omega
  refine (impl_tell w0.heap.size gs ga gj g a m c0 a' m' c' D tk tl M L w hp hD hDl htl hn1.2 c gv cv a1 n1 c1 a2 n2 c2 x h.vrow hlen hn1.1 hbx (dj_at h.d1 (i := 0) rfl) (dj_at h.d1 (i := 1) rfl) s hs v (HC.below hB)).mono ?_
  rintro e w' ⟨rfl, a2', m2', c2', a3', m3', c3', h1, h2⟩
  refine ⟨rfl, _, ⟨_, _, _, _, _, _, rfl, ?_⟩, h2⟩
  have e2 : stepsOf (kindT s.k) (addP D tk tl s x v L) = stepM s.k :: addV D tk tl s x v L := by rw [addP_M]; rfl
  rw [e2] at h1
  exact h1
set_option maxHeartbeats 4000000 in
set_option maxRecDepth 100000 in
theorem impl_cantrace (a : Option Addr) (n cap : Nat) (P : List Tk) (hz : Sizes P) (hcap : n ≤ cap) (w : World) (h : TkRow w a n P) (am : Option Addr) (nm cm : Nat) (Mem : List Int) (hM : Row w am nm Mem) (ar : Option Addr) (nr cr : Nat) (R : List Int) (hnr : (nr : Int) ≤ 1048576) (hR : Row w ar nr R) (z : Int) (h8 : i64r (Mem.getD 8 0)) (r : Bool) (hr : r = true ↔ TrOk P Mem R z) :
    Calls Tryz.prog 76 #[.agg #[.slice a n cap], .slice am nm cm, .slice ar nr cr, .int .i64 z] w (BelB w r) := by
  obtain ⟨W, hW⟩ : ∃ W, w.alloc (.cells #[.slice a n cap] 26) = W := ⟨_, rfl⟩
  have hBW : Below w.heap.size w W := by rw [← hW]; exact below_new w _
  have hpx : Box w.heap.size #[.slice a n cap] 26 W := by rw [← hW]; exact Box.new w _ _
  have c0 : W.cell? ⟨w.heap.size, 0, none⟩ = some (.slice a n cap) := hpx.cell 0
  obtain ⟨rm, hrm⟩ := mem_dec P Mem
  have HMO := Lib.hid (impl_memok8 a n cap P hz hcap W (h.below hBW) am nm cm Mem (hM.below hBW) h8 rm hrm)
  have H0 := Lib.hid hBW
  cases rm
  · obtain rfl : r = false := by
      rw [← Bool.not_eq_true]; intro e
      have := hrm.2 (hr.1 e).1
      cases this
    clear hr hrm hpx hBW h hM hR h8
    go_enter Tryz.func76, Tryz.ntmps76
    go_wp2_with (go_at_call 49; (with_reducible refine HMO.out.mono ?_); rintro e w2 ⟨rfl, hb2⟩)
    go_ret
    exact ⟨rfl, H0.out.trans (hb2.mono H0.out.size)⟩
  · have hmi := hrm.1 rfl
    obtain rfl : nm = 49 := by have := hM.1; have := hmi.2.1; omega
    obtain ⟨bm, om, x, rfl, hlm, hx8, hc8⟩ := (hM.below hBW).2 8 (by omega)
    have hX8 : Mem.getD 8 0 = x := by rw [List.getD_eq_getElem?_getD, hx8]; rfl
    rw [hX8] at h8
    have hwok : wOk x = true := by rw [← hX8]; exact hmi.2.2.1
    obtain ⟨ri, hri⟩ : ∃ ri : Bool, (decide (0 ≤ z) && decide (z ≤ 1000000)) = ri := ⟨_, rfl⟩
    obtain ⟨rv, hrv⟩ : ∃ rv : Bool, allV R = rv := ⟨_, rfl⟩
    obtain ⟨rc, hrc⟩ : ∃ rc : Bool, Go.Proofs.YtmgeecdgebemdaaGreatDoor.rcv.cleanB Mem = rc := ⟨_, rfl⟩
    have hrc2 : rc = decide (wC x = 0) := by
      rw [← hrc]
      unfold Go.Proofs.YtmgeecdgebemdaaGreatDoor.rcv.cleanB
      rw [hX8, hwok, show Mem.length = 49 from hmi.2.1]
      simp
    have HIC := Lib.hid (show ∀ w', Below W.heap.size W w' → Calls Tryz.prog 48 #[.slice (some ⟨bm, om, none⟩) 49 cm] w' (BelB w' rc) from fun w' hb => Go.Proofs.YtmgeecdgebemdaaGreatDoor.rcv.impl_isclean0 w' (some ⟨bm, om, none⟩) 49 cm Mem (hM.below (hBW.trans (hb.mono hBW.size))) (by rw [hX8]; exact h8) rc hrc)
    have HIN := Lib.hid (show ∀ w', Calls Tryz.prog 135 #[.int .i64 z] w' (RetB w' ri) from fun w' => impl_first z ri hri w')
    have HVA := Lib.hid (show ∀ w', Below W.heap.size W w' → Calls Tryz.prog 109 #[.slice ar nr cr] w' (RetB w' rv) from fun w' hb => impl_are w' ar nr cr R hnr (hR.below (hBW.trans (hb.mono hBW.size))) rv hrv)
    have hre : r = (rc && ri && rv) := by
      rw [Bool.eq_iff_iff, hr, hrc2]
      unfold TrOk
      rw [hX8, ← hri, ← hrv]
      simp [hmi, and_assoc]
    subst hre
    clear hr hrm hmi hX8 hwok hri hrv hx8 hpx hBW h hM hR hc8 hrc hrc2 h8
    cases rc <;> cases ri <;> cases rv
    all_goals
      go_enter Tryz.func76, Tryz.ntmps76
      go_wp2_with (go_at_call 49; (with_reducible refine HMO.out.mono ?_); rintro e w2 ⟨rfl, hb2⟩; refine Hid.out ?_)
      have HB2 := Lib.hid hb2
      clear hb2
      refine Lib.hid ?_
      go_wp2_with (first
        | (go_at_call 48; (with_reducible refine (HIC.out _ HB2.out).mono ?_); rintro e w3 ⟨rfl, hb3⟩)
        | (go_at_call 135; (with_reducible refine (HIN.out _).mono ?_); rintro e w4 ⟨rfl, rfl⟩)
        | (go_at_call 109; (with_reducible refine (HVA.out _ (below_then HB2.out hb3)).mono ?_); rintro e w5 ⟨rfl, rfl⟩))
      go_ret
      exact ⟨rfl, H0.out.trans ((below_then HB2.out hb3).mono H0.out.size)⟩
end Go.Proofs.YtmgeecdgebemdaaGreatDoor.trc
