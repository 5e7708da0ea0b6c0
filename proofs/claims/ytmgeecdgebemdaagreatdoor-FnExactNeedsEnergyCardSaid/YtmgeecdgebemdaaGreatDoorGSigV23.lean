/- Several texts in one: VExeM VExeR VExeS VTrcM. -/
import Derived.Test.YtmgeecdgebemdaaGreatDoorGSigV8
import Derived.Deep.AppendLies
import Derived.BigQuiet
import Derived.Test.YtmgeecdgebemdaaGreatDoorGSigV9
import Derived.Test.YtmgeecdgebemdaaGreatDoorGSigV22

/- Chapter 12 of the model: ReadSensor, and whether every element is a value; nothing that was there is written. -/
namespace Go.Proofs.YtmgeecdgebemdaaGreatDoor.exe
open Go Go.ChangeShapes Go.WideShapes Go.ChangeAt Go.RowKit Go.Proofs.YtmgeecdgebemdaaGreatDoor.row Go.Proofs.YtmgeecdgebemdaaGreatDoor.val Go.Proofs.YtmgeecdgebemdaaGreatDoor.expr Go.Proofs.YtmgeecdgebemdaaGreatDoor.stm Go.Proofs.YtmgeecdgebemdaaGreatDoor.blk Go.Proofs.YtmgeecdgebemdaaGreatDoor.prg
set_option maxRecDepth 100000 in
set_option maxHeartbeats 2000000 in
theorem spec_readsensor (w : World) (a : Option Addr) (n cap : Nat) (R : List Int) (hn : (n : Int) ≤ 1048576) (h : Row w a n R) (q m : Int) :
    Calls Tryz.prog 215 #[.slice a n cap, .int .i64 q, .int .i64 m] w (Ret w (readS R q m)) := by
  have hl := h.1
  by_cases h0 : n = 0
  · subst h0
    have HV := Lib.hid (readS_no (R := R) (q := q) (n := m) (.inl hl))
    go_enter Tryz.func215, Tryz.ntmps215
    go_wp2
    go_ret
    exact ⟨ret_int HV.out.symm, rfl⟩
  · have hpos : ¬ (n : Int) = 0 := by omega
    cases hq : (decide (0 ≤ q) && decide (q ≤ 3))
    · have HQ := Lib.hid hq
      have HV := Lib.hid (readS_no (R := R) (q := q) (n := m) (by simp at hq; omega))
      clear hq
      go_enter Tryz.func215, Tryz.ntmps215
      go_wp2_with (go_at_call 63; (with_reducible refine (in_any q 0 3 _ HQ.out _).mono ?_); rintro e w3 ⟨rfl, rfl⟩)
      go_ret
      exact ⟨ret_int HV.out.symm, rfl⟩
    · have HQ := Lib.hid hq
      have hq2 : 0 ≤ q ∧ q ≤ 3 := by simpa using hq
      clear hq
      by_cases hm : m < 0
      · have HV := Lib.hid (readS_no (R := R) (q := q) (n := m) (by omega))
        go_enter Tryz.func215, Tryz.ntmps215
        go_wp2_with (go_at_call 63; (with_reducible refine (in_any q 0 3 _ HQ.out _).mono ?_); rintro e w3 ⟨rfl, rfl⟩)
        go_ret
        exact ⟨ret_int HV.out.symm, rfl⟩
      · have hmd : decide (m < 0) = false := by simp; omega
        have ht : m.tmod n = m % n := Int.tmod_eq_emod_of_nonneg (by omega)
        have hr0 : 0 ≤ m % n := Int.emod_nonneg m (by omega)
        have hr1 : m % n < n := Int.emod_lt_of_pos m (by omega)
        obtain ⟨k, hk⟩ : ∃ k : Nat, m % n = k := ⟨(m % n).toNat, by omega⟩
        obtain ⟨b, off, x, rfl, _, hx, hc⟩ := h.2 k (by omega)
        have HV := Lib.hid (show readS R q m = sat (sat x + sat (100 * q)) by
          rw [readS_ok (by omega) hq2.1 hq2.2 (by omega), hl, hk, List.getD_eq_getElem?_getD, show ((k : Int)).toNat = k by omega, hx]; rfl)
        rw [hk] at ht hr0 hr1
        have hm0 : 0 ≤ m := by omega
        clear hx h hk hm
        go_enter Tryz.func215, Tryz.ntmps215
        go_wp2_with (first
          | (go_at_call 63; (with_reducible refine (in_any q 0 3 _ HQ.out _).mono ?_); rintro e w3 ⟨rfl, rfl⟩)
          | (go_at_call 212; refine (spec_add _ _ _).mono ?_; rintro e w4 ⟨rfl, rfl⟩))
        go_ret
        exact ⟨ret_int HV.out.symm, rfl⟩
end Go.Proofs.YtmgeecdgebemdaaGreatDoor.exe

/- The state of an execution in memory: a struct that holds three rows of its own (the variables, what is sent, what is sensed); nothing else that was there is written. -/
namespace Go.Proofs.YtmgeecdgebemdaaGreatDoor.exe
open Go Go.ChangeShapes Go.WideShapes Go.ChangeAt Go.RowKit Go.Proofs.YtmgeecdgebemdaaGreatDoor.row Go.Proofs.YtmgeecdgebemdaaGreatDoor.val Go.Proofs.YtmgeecdgebemdaaGreatDoor.expr Go.Proofs.YtmgeecdgebemdaaGreatDoor.stm Go.Proofs.YtmgeecdgebemdaaGreatDoor.blk Go.Proofs.YtmgeecdgebemdaaGreatDoor.prg
end Go.Proofs.YtmgeecdgebemdaaGreatDoor.exe

/- The model's l12Sense: the next sensed value; the state grows by it; nothing else that was there is written. -/
namespace Go.Proofs.YtmgeecdgebemdaaGreatDoor.exe
open Go Go.ChangeShapes Go.WideShapes Go.ChangeAt Go.RowKit Go.Proofs.YtmgeecdgebemdaaGreatDoor.row Go.Proofs.YtmgeecdgebemdaaGreatDoor.val Go.Proofs.YtmgeecdgebemdaaGreatDoor.expr Go.Proofs.YtmgeecdgebemdaaGreatDoor.stm Go.Proofs.YtmgeecdgebemdaaGreatDoor.blk Go.Proofs.YtmgeecdgebemdaaGreatDoor.prg
theorem readsensor_q (w : World) (a : Option Addr) (n cap : Nat) (R : List Int) (hn : (n : Int) ≤ 1048576) (h : Row w a n R) (q m v : Int) (hv : readS R q m = v) (k : Nat) :
    Calls Tryz.prog 215 #[.slice a n cap, .int .i64 q, .int .i64 m] (w.drewN k) fun e w' => e = .returned (.int .i64 v) ∧ w' = w.drewN k := by
  subst hv
  exact (spec_readsensor (w.drewN k) a n cap R hn (h.drewN k) q m).mono fun _ _ ⟨h1, h2⟩ => ⟨h1, h2.symm⟩
end Go.Proofs.YtmgeecdgebemdaaGreatDoor.exe

/- Chapter 14 of the model: the state of an execution with its steps in memory; l14Step, l14Write, l12Sense within it, the costs, a variable in a list. -/
namespace Go.Proofs.YtmgeecdgebemdaaGreatDoor.trc
open Go Go.ChangeShapes Go.WideShapes Go.ChangeAt Go.RowKit Go.Proofs.YtmgeecdgebemdaaGreatDoor.row Go.Proofs.YtmgeecdgebemdaaGreatDoor.val Go.Proofs.YtmgeecdgebemdaaGreatDoor.expr Go.Proofs.YtmgeecdgebemdaaGreatDoor.stm Go.Proofs.YtmgeecdgebemdaaGreatDoor.blk Go.Proofs.YtmgeecdgebemdaaGreatDoor.prg Go.Proofs.YtmgeecdgebemdaaGreatDoor.exe Go.Proofs.YtmgeecdgebemdaaGreatDoor.grow Go.Proofs.YtmgeecdgebemdaaGreatDoor.rss
set_option maxRecDepth 100000 in
theorem spec_has (w : World) (a : Option Addr) (n cap : Nat) (L : List Int) (q : Int) (r : Bool) (hn : (n : Int) ≤ 1048576) (h : Row w a n L) (hr : decide (q ∈ L) = r) :
    Calls Tryz.prog 173 #[.slice a n cap, .int .i64 q] w (RetB w r) := by
  subst hr
  have HL := Lib.hid h.1
  have HC : Hid (∀ k, k < n → ∃ (b off : Nat) (x : Int), a = some ⟨b, off, none⟩ ∧ L[k]? = some x ∧ w.cell? ⟨b, off + k, none⟩ = some (.int .i64 x)) := fun k hk => by
    obtain ⟨b, off, x, e, _, hx, hc⟩ := h.2 k hk
    exact ⟨b, off, x, e, hx, hc⟩
  clear h
  go_enter Tryz.func173, Tryz.ntmps173
  go_wp2
  go_loop [5] (fun i => ∃ k : Nat, k ≤ n ∧ i = .int .i64 k ∧ Hid (¬ q ∈ L.take k)) (fun i => n - (intOf i).toNat)
  case atStart => exact ⟨0, Nat.zero_le _, rfl, by simp [Hid]⟩
  case round =>
    obtain ⟨k, hk, rfl, hA⟩ := hrel
    by_cases hlt : k < n
    · obtain ⟨b, off, x, rfl, hx, hc⟩ := HC.out k hlt
      have hI : (k : Int) < n := by omega
      by_cases hq : x = q
      · subst hq
        have HF : Hid (decide (x ∈ L) = true) := by
          show _ = _
          rw [decide_eq_true_eq]; exact List.mem_of_getElem? hx
        clear hx
        go_wp2
        go_ret
        exact ⟨by rw [HF.out]; rfl, rfl⟩
      · have hqb : (x == q) = false := by simpa using hq
        have HA2 : Hid (¬ q ∈ L.take (k + 1)) := by
          show ¬ _
          rw [List.take_add_one, hx, List.mem_append]
          rintro (h | h)
          · exact hA.out h
          · simp at h; exact hq h.symm
        clear hx hq
        go_wp2
        go_round
        case rel => exact ⟨k + 1, by omega, by go_num, HA2⟩
        case measure => simp [intOf]; omega
    · have hkn : k = n := by omega
      subst hkn
      have HF : Hid (decide (q ∈ L) = false) := by
        show _ = _
        rw [decide_eq_false_iff_not]
        have := hA.out
        rwa [List.take_of_length_le (by have := HL.out; omega)] at this
      go_wp2
      go_ret
      exact ⟨by rw [HF.out]; rfl, rfl⟩
set_option maxRecDepth 100000 in
theorem spec_kindcost' (s : Go.Proofs.YtmgeecdgebemdaaGreatDoor.stm.St) (w : World) : Calls Tryz.prog 174 #[stV s] w (BelI w (kindT s.k)) := by
  obtain ⟨k, v, n, o, a, b⟩ := s
  rcases kinds k with rfl | rfl | rfl | rfl | rfl | rfl | ⟨h1, h2, h3, h4, h5, h6⟩
  all_goals
    try have HV := Lib.hid (show kindT k = 0 by simp only [beq_eq_false_iff_ne] at h1 h2 h3 h4 h5 h6; unfold kindT; rw [if_neg h1, if_neg h2, if_neg h3, if_neg h4, if_neg h5])
    go_enter Tryz.func174, Tryz.ntmps174
    go_wp2
    go_ret
    first
      | exact ⟨rfl, below_new w _⟩
      | exact ⟨ret_int HV.out.symm, below_new w _⟩
/-- Where the rows of the state lie. -/
structure Tp where
  (gv cv : Nat) (a1 : Option Addr) (n1 c1 : Nat) (a2 : Option Addr) (n2 c2 : Nat) (a3 : Option Addr) (n3 c3 : Nat) (a4 : Option Addr) (n4 c4 : Nat) (a5 : Option Addr) (n5 c5 : Nat)
/-- What an execution is given: the readings, the number of the first one, the task, the tail, the variables that must be logged. -/
structure Kf where
  (ar : Option Addr) (nr cr : Nat) (R : List Int) (z tk tl : Int) (D : List Int)
def tpC (p : Tp) (k : Kf) : Array Value := #[.slice (some ⟨p.gv, 0, none⟩) 8 p.cv, .slice p.a1 p.n1 p.c1, .slice p.a2 p.n2 p.c2, .slice none 0 0, .slice k.ar k.nr k.cr, .int .i64 k.z, .bool true, .slice p.a3 p.n3 p.c3, .slice p.a4 p.n4 p.c4, .slice p.a5 p.n5 p.c5, .int .i64 k.tk, .int .i64 k.tl]
def tpR (p : Tp) (k : Kf) (y : Tx) : List RS := [⟨.slice (some ⟨p.gv, 0, none⟩) 8 p.cv, 8, ivs y.x.V, 3, 1⟩, ⟨.slice p.a1 p.n1 p.c1, p.n1, ivs y.x.S, 3, 1⟩, ⟨.slice p.a2 p.n2 p.c2, p.n2, ivs y.x.U, 3, 1⟩,
  ⟨.slice p.a3 p.n3 p.c3, p.n3, microsC y.M, 98, 3⟩, ⟨.slice p.a4 p.n4 p.c4, p.n4, ivs k.D, 3, 1⟩, ⟨.slice p.a5 p.n5 p.c5, p.n5, ivs y.L, 3, 1⟩]
/-- The block 'g' holds the state 'y'. -/
structure TnAt (B g : Nat) (p : Tp) (k : Kf) (y : Tx) (w : World) : Prop where
  box : Box g (tpC p k) 159 w
  rows : RsAt B g (tpR p k y) w
abbrev tnB (g : Nat) (p : Tp) (k : Kf) (y : Tx) : List (Option Nat) := blks g (tpR p k y)
/-- The call returns nothing; the state has become 'y''; only its blocks and new ones are written. -/
def TnOut (B g : Nat) (p : Tp) (k : Kf) (y y' : Tx) (w : World) (e : Ending) (w' : World) : Prop :=
  e = .returned (.tuple #[]) ∧ ∃ p', TnAt B g p' k y' w' ∧ Mv (tnB g p k y) w (tnB g p' k y') w'
/-- The readings are there. -/
def KfAt (k : Kf) (w : World) : Prop := Row w k.ar k.nr k.R ∧ (k.nr : Int) ≤ 1048576 ∧ (0 ≤ k.z ∧ k.z ≤ 1000000)
theorem TnAt.below {B g : Nat} {p : Tp} {k : Kf} {y : Tx} {w w' : World} (h : TnAt B g p k y w) (hb : Below w.heap.size w w') : TnAt B g p k y w' := ⟨h.box.below hb, h.rows.below hb⟩
theorem TnAt.low {B g : Nat} {p : Tp} {k : Kf} {y : Tx} {w : World} (h : TnAt B g p k y w) : B ≤ w.heap.size := Nat.le_of_lt (Nat.lt_of_le_of_lt h.rows.low h.rows.lt)
theorem infoMic : (Tryz.prog.info? 98).map (fun i => (i.zero, i.size, i.bytes)) = some (some (.agg #[.int .i64 0, .int .i64 0, .int .i64 0]), 3, 24) := by kernel_rfl
theorem microsC_snoc (M : List Mic) (m : Mic) : microsC M ++ [.int .i64 m.c, .int .i64 m.a, .int .i64 m.v] = microsC (M ++ [m]) := by simp [microsC, gcs, microC]
/-- One step more. -/
theorem TnAt.step {B g : Nat} {gv cv : Nat} {a1 : Option Addr} {n1 c1 : Nat} {a2 : Option Addr} {n2 c2 : Nat} {a3 : Option Addr} {n3 c3 : Nat} {a4 : Option Addr} {n4 c4 : Nat} {a5 : Option Addr} {n5 c5 : Nat} {k : Kf} {y : Tx} {w w' : World} (h : TnAt B g ⟨gv, cv, a1, n1, c1, a2, n2, c2, a3, n3, c3, a4, n4, c4, a5, n5, c5⟩ k y w)
    {m : Mic} {v : Value} {t : TypeId} (ho : w'.ownsRow B 98 3 v (n3 + 1) (microsC y.M ++ [.int .i64 m.c, .int .i64 m.a, .int .i64 m.v])) (hg : (w.alloc (.cells #[.int .i64 m.c, .int .i64 m.a, .int .i64 m.v] t)).grownBy w' (Value.slice a3 n3 c3).ownBlock)
    (hat : v.ownBlock = (Value.slice a3 n3 c3).ownBlock ∨ v.ownBlock = some (w.alloc (.cells #[.int .i64 m.c, .int .i64 m.a, .int .i64 m.v] t)).heap.size) :
    ∃ a' c', v = .slice a' (n3 + 1) c' ∧ (w'.cell? ⟨g, 7, none⟩ = some (.slice a3 n3 c3) ∧ w'.frozen? ⟨g, 7, none⟩ = false) ∧ TnOut B g ⟨gv, cv, a1, n1, c1, a2, n2, c2, a3, n3, c3, a4, n4, c4, a5, n5, c5⟩ k y ⟨y.x, y.M ++ [m], y.L⟩ w (.returned (.tuple #[])) (w'.setCell ⟨g, 7, none⟩ (.slice a' (n3 + 1) c')) := by
  rw [microsC_snoc] at ho
  obtain ⟨g4, c', rfl, _, _⟩ := ho.form (by omega)
  have hg' : w.grownBy w' (Value.slice a3 n3 c3).ownBlock := grown_trans (World.grownBy_alloc w _ _) hg
  have hat' : (Value.slice (some ⟨g4, 0, none⟩) (n3 + 1) c').ownBlock = (Value.slice a3 n3 c3).ownBlock ∨ ∀ b, (Value.slice (some ⟨g4, 0, none⟩) (n3 + 1) c').ownBlock = some b → w.heap.size ≤ b := hat.imp id (fun e b hb => by
    rw [e] at hb
    have : (w.alloc (.cells #[.int .i64 m.c, .int .i64 m.a, .int .i64 m.v] t)).heap.size = b := Option.some.inj hb
    simp at this; omega)
  obtain ⟨hr, hbx, hmv, hx⟩ := h.rows.app h.box (i := 3) rfl hg' (r' := ⟨.slice (some ⟨g4, 0, none⟩) (n3 + 1) c', n3 + 1, microsC (y.M ++ [m]), 98, 3⟩) ho hat' 7 (.slice (some ⟨g4, 0, none⟩) (n3 + 1) c')
  exact ⟨some ⟨g4, 0, none⟩, c', rfl, ⟨hx.cell 7, hx.frozen 7⟩, rfl, ⟨gv, cv, a1, n1, c1, a2, n2, c2, some ⟨g4, 0, none⟩, n3 + 1, c', a4, n4, c4, a5, n5, c5⟩, ⟨hbx, hr⟩, hmv⟩
set_option maxHeartbeats 2000000 in
set_option maxRecDepth 100000 in
theorem spec_step (B g : Nat) (p : Tp) (k : Kf) (y : Tx) (w : World) (h : TnAt B g p k y w) (hM : y.M.length ≤ 100000) (c : Int) :
    Calls Tryz.prog 132 #[.pointer (some ⟨g, 0, none⟩), .int .i64 c] w (TnOut B g p k y ⟨y.x, y.M ++ [⟨c, -1, 0⟩], y.L⟩ w) := by
  obtain ⟨i0, hi, hz0, hz1, hz2⟩ := info_parts infoMic
  obtain ⟨gv, cv, a1, n1, c1, a2, n2, c2, a3, n3, c3, a4, n4, c4, a5, n5, c5⟩ := p
  have H := Lib.hid h
  have c7 : w.cell? ⟨g, 7, none⟩ = some (.slice a3 n3 c3) := h.box.cell 7
  have hB : B ≤ w.heap.size := h.low
  have ho3 : w.ownsRow B 98 3 (.slice a3 n3 c3) n3 (microsC y.M) := h.rows.own 3 _ rfl
  have hn3 : n3 ≤ 100000 := by have := ho3.1; rw [microsC_len] at this; omega
  have HO := Lib.hid ho3
  clear h ho3
  go_enter Tryz.func132, Tryz.ntmps132
  go_wp2_with (at_builtin; refine wpList_append_own_at _ rfl _ _ 52 rfl B 98 i0 (.agg #[.int .i64 0, .int .i64 0, .int .i64 0]) 3 24 Tryz.underlying52 hi hz0 hz1 hz2 rfl (by decide) _ n3 _ rfl (HO.out.kept (World.grownBy_alloc w _ none) (by cases a3 <;> simp [Value.ownBlock])) ⟨w.heap.size, 0, none⟩ 1 1 [.int .i64 c, .int .i64 (-1), .int .i64 0] rfl rfl (World.news_of_block (cs := #[.int .i64 c, .int .i64 (-1), .int .i64 0]) (t := 98) (fr := (0, 0)) (heap_alloc_new w _)) (by simp [Value.oneCell']) (by unfold maxLen; omega) (by omega) (by simp; omega) ?_; intro v4 w4 hown4 hgrow4 _ hat4; refine Hid.out ?_)
  obtain ⟨a', c', rfl, ⟨d7, f7⟩, hout⟩ := H.out.step (m := ⟨c, -1, 0⟩) hown4 hgrow4 hat4
  have HF := Lib.hid hout
  clear hown4 hgrow4 hat4 hout c7
  refine Lib.hid ?_
  go_wp2
  go_end0
  exact HF.out
set_option maxHeartbeats 2000000 in
set_option maxRecDepth 100000 in
theorem spec_wr (B g : Nat) (p : Tp) (k : Kf) (y : Tx) (w : World) (h : TnAt B g p k y w) (hM : y.M.length ≤ 100000) (a v : Int) :
    Calls Tryz.prog 133 #[.pointer (some ⟨g, 0, none⟩), .int .i64 a, .int .i64 v] w (TnOut B g p k y ⟨y.x, y.M ++ [wrM a v], y.L⟩ w) := by
  obtain ⟨i0, hi, hz0, hz1, hz2⟩ := info_parts infoMic
  obtain ⟨gv, cv, a1, n1, c1, a2, n2, c2, a3, n3, c3, a4, n4, c4, a5, n5, c5⟩ := p
  have H := Lib.hid h
  have c7 : w.cell? ⟨g, 7, none⟩ = some (.slice a3 n3 c3) := h.box.cell 7
  have hB : B ≤ w.heap.size := h.low
  have ho3 : w.ownsRow B 98 3 (.slice a3 n3 c3) n3 (microsC y.M) := h.rows.own 3 _ rfl
  have hn3 : n3 ≤ 100000 := by have := ho3.1; rw [microsC_len] at this; omega
  have HO := Lib.hid ho3
  clear h ho3
  go_enter Tryz.func133, Tryz.ntmps133
  go_wp2_with (at_builtin; refine wpList_append_own_at _ rfl _ _ 52 rfl B 98 i0 (.agg #[.int .i64 0, .int .i64 0, .int .i64 0]) 3 24 Tryz.underlying52 hi hz0 hz1 hz2 rfl (by decide) _ n3 _ rfl (HO.out.kept (World.grownBy_alloc w _ none) (by cases a3 <;> simp [Value.ownBlock])) ⟨w.heap.size, 0, none⟩ 1 1 [.int .i64 3, .int .i64 a, .int .i64 v] rfl rfl (World.news_of_block (cs := #[.int .i64 3, .int .i64 a, .int .i64 v]) (t := 98) (fr := (0, 0)) (heap_alloc_new w _)) (by simp [Value.oneCell']) (by unfold maxLen; omega) (by omega) (by simp; omega) ?_; intro v4 w4 hown4 hgrow4 _ hat4; refine Hid.out ?_)
  obtain ⟨a', c', rfl, ⟨d7, f7⟩, hout⟩ := H.out.step (m := wrM a v) hown4 hgrow4 hat4
  have HF := Lib.hid hout
  clear hown4 hgrow4 hat4 hout c7
  refine Lib.hid ?_
  go_wp2
  go_end0
  exact HF.out
/-- One sensed value more. -/
theorem TnAt.sense {B g : Nat} {gv cv : Nat} {a1 : Option Addr} {n1 c1 : Nat} {a2 : Option Addr} {n2 c2 : Nat} {a3 : Option Addr} {n3 c3 : Nat} {a4 : Option Addr} {n4 c4 : Nat} {a5 : Option Addr} {n5 c5 : Nat} {k : Kf} {y : Tx} {w w1 w' : World} (h : TnAt B g ⟨gv, cv, a1, n1, c1, a2, n2, c2, a3, n3, c3, a4, n4, c4, a5, n5, c5⟩ k y w) (h1 : Below w.heap.size w w1) (h1s : w1.heap.size = w.heap.size)
    {q : Int} {v : Value} {o : Obj} (ho : w'.ownsRow B 3 1 v (n2 + 1) (ivs y.x.U ++ [.int .i64 q])) (hg : (w1.alloc o).grownBy w' (Value.slice a2 n2 c2).ownBlock)
    (hat : v.ownBlock = (Value.slice a2 n2 c2).ownBlock ∨ v.ownBlock = some (w1.alloc o).heap.size) :
    ∃ a' c', v = .slice a' (n2 + 1) c' ∧ (w'.cell? ⟨g, 2, none⟩ = some (.slice a2 n2 c2) ∧ w'.frozen? ⟨g, 2, none⟩ = false) ∧
      ∃ p', TnAt B g p' k ⟨⟨y.x.V, y.x.S, y.x.U ++ [q]⟩, y.M, y.L⟩ (w'.setCell ⟨g, 2, none⟩ (.slice a' (n2 + 1) c')) ∧
        Mv (tnB g ⟨gv, cv, a1, n1, c1, a2, n2, c2, a3, n3, c3, a4, n4, c4, a5, n5, c5⟩ k y) w (tnB g p' k ⟨⟨y.x.V, y.x.S, y.x.U ++ [q]⟩, y.M, y.L⟩) (w'.setCell ⟨g, 2, none⟩ (.slice a' (n2 + 1) c')) := by
  rw [ivs_snoc] at ho
  obtain ⟨g4, c', rfl, _, _⟩ := ho.form (by omega)
  have hg' : w.grownBy w' (Value.slice a2 n2 c2).ownBlock := grown_trans (grown_below h1 _) (grown_trans (World.grownBy_alloc w1 _ _) hg)
  have hat' : (Value.slice (some ⟨g4, 0, none⟩) (n2 + 1) c').ownBlock = (Value.slice a2 n2 c2).ownBlock ∨ ∀ b, (Value.slice (some ⟨g4, 0, none⟩) (n2 + 1) c').ownBlock = some b → w.heap.size ≤ b := hat.imp id (fun e b hb => by
    rw [e] at hb
    have : (w1.alloc o).heap.size = b := Option.some.inj hb
    simp at this; omega)
  obtain ⟨hr, hbx, hmv, hx⟩ := h.rows.app h.box (i := 2) rfl hg' (r' := ⟨.slice (some ⟨g4, 0, none⟩) (n2 + 1) c', n2 + 1, ivs (y.x.U ++ [q]), 3, 1⟩) ho hat' 2 (.slice (some ⟨g4, 0, none⟩) (n2 + 1) c')
  exact ⟨some ⟨g4, 0, none⟩, c', rfl, ⟨hx.cell 2, hx.frozen 2⟩, ⟨gv, cv, a1, n1, c1, some ⟨g4, 0, none⟩, n2 + 1, c', a3, n3, c3, a4, n4, c4, a5, n5, c5⟩, ⟨hbx, hr⟩, hmv⟩
def SnOut (B g : Nat) (p : Tp) (k : Kf) (y y' : Tx) (v : Int) (w : World) (e : Ending) (w' : World) : Prop :=
  e = .returned (.int .i64 v) ∧ ∃ p', TnAt B g p' k y' w' ∧ Mv (tnB g p k y) w (tnB g p' k y') w'
set_option maxHeartbeats 4000000 in
set_option maxRecDepth 100000 in
theorem spec_sns (B g : Nat) (p : Tp) (k : Kf) (y : Tx) (w : World) (h : TnAt B g p k y w) (hk : KfAt k w) (hU : y.x.U.length ≤ 100000) (q v : Int) (hv : liveSrc k.R k.z q y.x.U.length = v) :
    Calls Tryz.prog 177 #[.pointer (some ⟨g, 0, none⟩), .int .i64 q] w (SnOut B g p k y ⟨⟨y.x.V, y.x.S, y.x.U ++ [v]⟩, y.M, y.L⟩ v w) := by
  obtain ⟨i0, hi, hz0, hz1, hz2⟩ := info_parts row.infoInt
  obtain ⟨gv, cv, a1, n1, c1, a2, n2, c2, a3, n3, c3, a4, n4, c4, a5, n5, c5⟩ := p
  obtain ⟨ar, nr, cr, R, z, tk, tl, D⟩ := k
  have H := Lib.hid h
  have c2' : w.cell? ⟨g, 2, none⟩ = some (.slice a2 n2 c2) := h.box.cell 2
  have c3' : w.cell? ⟨g, 3, none⟩ = some (.slice none 0 0) := h.box.cell 3
  have c4' : w.cell? ⟨g, 4, none⟩ = some (.slice ar nr cr) := h.box.cell 4
  have c5' : w.cell? ⟨g, 5, none⟩ = some (.int .i64 z) := h.box.cell 5
  have c6' : w.cell? ⟨g, 6, none⟩ = some (.bool true) := h.box.cell 6
  have hB : B ≤ w.heap.size := h.low
  have ho2 : w.ownsRow B 3 1 (.slice a2 n2 c2) n2 (ivs y.x.U) := h.rows.own 2 _ rfl
  have hn2' : n2 = y.x.U.length := (own_len ho2).symm
  have hn2 : n2 ≤ 100000 := by omega
  have HO := Lib.hid ho2
  have hz := hk.2.2
  dsimp only at hz hv
  have hn0 : 0 ≤ z + n2 ∧ z + n2 ≤ 2000000 := by omega
  have hv2 : readS R q (z + n2) = v := by rw [← hv, hn2']; rfl
  have HQ := Lib.hid (readsensor_q w ar nr cr R hk.2.1 hk.1 q (z + n2) v hv2)
  clear h ho2 hk hv hv2 hz hn2'
  go_enter Tryz.func177, Tryz.ntmps177
  go_wp2
  go_quiet ((first | (go_at_call 215; with_reducible exact Calls.quiet_of_same (HQ.out _))))
  go_wp2_with (at_builtin; refine wpList_append_own_at _ rfl _ _ 27 rfl B 3 i0 (.int .i64 0) 1 8 Tryz.underlying27 hi hz0 hz1 hz2 rfl (by decide) _ _ _ rfl ((HO.out.kept (grown_below (below_drewN (Below.refl _ w) _) none) (by cases a2 <;> simp [Value.ownBlock])).alloc _) ⟨w.heap.size, 0, none⟩ 1 1 [.int .i64 v] rfl rfl (World.news_of_block (cs := #[.int .i64 v]) (t := 3) (fr := (0, 0)) (heap_alloc_new (w.drewN _) _)) (by simp [Value.oneCell']) (by unfold maxLen; omega) (by omega) (by simp; omega) ?_; intro v4 w4 hown4 hgrow4 _ hat4; refine Hid.out ?_)
  obtain ⟨a', c', rfl, ⟨d2, f2⟩, hout⟩ := H.out.sense (below_drewN (Below.refl _ w) _) rfl hown4 hgrow4 hat4
  have HF := Lib.hid hout
  clear hown4 hgrow4 hat4 hout c2' c3' c4' c5' c6'
  refine Lib.hid ?_
  go_wp2
  go_ret
  exact ⟨rfl, HF.out⟩
end Go.Proofs.YtmgeecdgebemdaaGreatDoor.trc
