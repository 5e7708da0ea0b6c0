/- Several texts in one: TrcM BlkE BlkC. -/
import Derived.Test.YtcmhiadaebpgmaaGreatDoorGSig9
import Derived.Test.YtcmhiadaebpgmaaGreatDoorGSig10
import Derived.Test.YtcmhiadaebpgmaaGreatDoorGSig11
import Derived.Test.YtcmhiadaebpgmaaGreatDoorGSig7
import Derived.Test.YtcmhiadaebpgmaaGreatDoorGSig3
import Derived.Test.YtcmhiadaebpgmaaGreatDoorGSig2

/- Chapter 14 of the model: the state of an execution with its steps in memory; l14Step, l14Write, l12Sense within it, the costs, a variable in a list. -/
namespace Go.Proofs.YtcmhiadaebpgmaaGreatDoor.trc
open Go Go.ChangeShapes Go.WideShapes Go.ChangeAt Go.RowKit Go.Proofs.YtcmhiadaebpgmaaGreatDoor.row Go.Proofs.YtcmhiadaebpgmaaGreatDoor.val Go.Proofs.YtcmhiadaebpgmaaGreatDoor.expr Go.Proofs.YtcmhiadaebpgmaaGreatDoor.stm Go.Proofs.YtcmhiadaebpgmaaGreatDoor.blk Go.Proofs.YtcmhiadaebpgmaaGreatDoor.prg Go.Proofs.YtcmhiadaebpgmaaGreatDoor.exe Go.Proofs.YtcmhiadaebpgmaaGreatDoor.grow Go.Proofs.YtcmhiadaebpgmaaGreatDoor.rss
set_option maxRecDepth 100000 in
theorem spec_has (w : World) (a : Option Addr) (n cap : Nat) (L : List Int) (q : Int) (r : Bool) (hn : (n : Int) ≤ 1048576) (h : Row w a n L) (hr : decide (q ∈ L) = r) :
    Calls Tryz.prog 154 #[.slice a n cap, .int .i64 q] w (RetB w r) := by
  subst hr
  have HL := Lib.hid h.1
  have HC : Hid (∀ k, k < n → ∃ (b off : Nat) (x : Int), a = some ⟨b, off, none⟩ ∧ L[k]? = some x ∧ w.cell? ⟨b, off + k, none⟩ = some (.int .i64 x)) := fun k hk => by
    obtain ⟨b, off, x, e, _, hx, hc⟩ := h.2 k hk
    exact ⟨b, off, x, e, hx, hc⟩
  clear h
  go_enter Tryz.func154, Tryz.ntmps154
  go_wp2
  go_loop [5] (fun i => ∃ k : Nat, k ≤ n ∧ i = .int .i64 k ∧ Hid (¬ q ∈ L.take k)) (fun i => n - (intOf i).toNat)
  case atStart => exact ⟨0, Nat.zero_le _, rfl, by simp [Hid]⟩
  case round =>
    obtain ⟨k, hk, rfl, hA⟩ := hrel
    by_cases hlt : k < n
    · obtain ⟨b, off, x, rfl, hx, hc⟩ := HC.out k hlt
      have hI : (k : Int) < n := by omega
      by_cases hq : x = q
      · subst hq
        have HF : Hid (decide (x ∈ L) = true) := by
          show _ = _
          rw [decide_eq_true_eq]; exact List.mem_of_getElem? hx
        clear hx
        go_wp2
        go_ret
        exact ⟨by rw [HF.out]; rfl, rfl⟩
      · have hqb : (x == q) = false := by simpa using hq
        have HA2 : Hid (¬ q ∈ L.take (k + 1)) := by
          show ¬ _
          rw [List.take_add_one, hx, List.mem_append]
          rintro (h | h)
          · exact hA.out h
          · simp at h; exact hq h.symm
        clear hx hq
        go_wp2
        go_round
        case rel => exact ⟨k + 1, by omega, by go_num, HA2⟩
        case measure => simp [intOf]; omega
    · have hkn : k = n := by omega
      subst hkn
      have HF : Hid (decide (q ∈ L) = false) := by
        show _ = _
        rw [decide_eq_false_iff_not]
        have := hA.out
        rwa [List.take_of_length_le (by have := HL.out; omega)] at this
      go_wp2
      go_ret
      exact ⟨by rw [HF.out]; rfl, rfl⟩
set_option maxRecDepth 100000 in
theorem spec_kindcost' (s : Go.Proofs.YtcmhiadaebpgmaaGreatDoor.stm.St) (w : World) : Calls Tryz.prog 155 #[stV s] w (BelI w (kindT s.k)) := by
  obtain ⟨k, v, n, o, a, b⟩ := s
  rcases kinds k with rfl | rfl | rfl | rfl | rfl | rfl | ⟨h1, h2, h3, h4, h5, h6⟩
  all_goals
    try have HV := Lib.hid (show kindT k = 0 by simp only [beq_eq_false_iff_ne] at h1 h2 h3 h4 h5 h6; unfold kindT; rw [if_neg h1, if_neg h2, if_neg h3, if_neg h4, if_neg h5])
    go_enter Tryz.func155, Tryz.ntmps155
    go_wp2
    go_ret
    first
      | exact ⟨rfl, below_new w _⟩
      | exact ⟨ret_int HV.out.symm, below_new w _⟩
/-- Where the rows of the state lie. -/
structure Tp where
  (gv cv : Nat) (a1 : Option Addr) (n1 c1 : Nat) (a2 : Option Addr) (n2 c2 : Nat) (a3 : Option Addr) (n3 c3 : Nat) (a4 : Option Addr) (n4 c4 : Nat) (a5 : Option Addr) (n5 c5 : Nat)
/-- What an execution is given: the readings, the number of the first one, the task, the tail, the variables that must be logged. -/
structure Kf where
  (ar : Option Addr) (nr cr : Nat) (R : List Int) (z tk tl : Int) (D : List Int)
def tpC (p : Tp) (k : Kf) : Array Value := #[.slice (some ⟨p.gv, 0, none⟩) 8 p.cv, .slice p.a1 p.n1 p.c1, .slice p.a2 p.n2 p.c2, .slice none 0 0, .slice k.ar k.nr k.cr, .int .i64 k.z, .bool true, .slice p.a3 p.n3 p.c3, .slice p.a4 p.n4 p.c4, .slice p.a5 p.n5 p.c5, .int .i64 k.tk, .int .i64 k.tl]
def tpR (p : Tp) (k : Kf) (y : Tx) : List RS := [⟨.slice (some ⟨p.gv, 0, none⟩) 8 p.cv, 8, ivs y.x.V, 3, 1⟩, ⟨.slice p.a1 p.n1 p.c1, p.n1, ivs y.x.S, 3, 1⟩, ⟨.slice p.a2 p.n2 p.c2, p.n2, ivs y.x.U, 3, 1⟩,
  ⟨.slice p.a3 p.n3 p.c3, p.n3, microsC y.M, 72, 3⟩, ⟨.slice p.a4 p.n4 p.c4, p.n4, ivs k.D, 3, 1⟩, ⟨.slice p.a5 p.n5 p.c5, p.n5, ivs y.L, 3, 1⟩]
/-- The block 'g' holds the state 'y'. -/
structure TnAt (B g : Nat) (p : Tp) (k : Kf) (y : Tx) (w : World) : Prop where
  box : Box g (tpC p k) 158 w
  rows : RsAt B g (tpR p k y) w
abbrev tnB (g : Nat) (p : Tp) (k : Kf) (y : Tx) : List (Option Nat) := blks g (tpR p k y)
/-- The call returns nothing; the state has become 'y''; only its blocks and new ones are written. -/
def TnOut (B g : Nat) (p : Tp) (k : Kf) (y y' : Tx) (w : World) (e : Ending) (w' : World) : Prop :=
  e = .returned (.tuple #[]) ∧ ∃ p', TnAt B g p' k y' w' ∧ Mv (tnB g p k y) w (tnB g p' k y') w'
/-- The readings are there. -/
def KfAt (k : Kf) (w : World) : Prop := Row w k.ar k.nr k.R ∧ (k.nr : Int) ≤ 1048576 ∧ (0 ≤ k.z ∧ k.z ≤ 1000000)
theorem TnAt.below {B g : Nat} {p : Tp} {k : Kf} {y : Tx} {w w' : World} (h : TnAt B g p k y w) (hb : Below w.heap.size w w') : TnAt B g p k y w' := ⟨h.box.below hb, h.rows.below hb⟩
theorem TnAt.low {B g : Nat} {p : Tp} {k : Kf} {y : Tx} {w : World} (h : TnAt B g p k y w) : B ≤ w.heap.size := Nat.le_of_lt (Nat.lt_of_le_of_lt h.rows.low h.rows.lt)
theorem infoMic : (Tryz.prog.info? 72).map (fun i => (i.zero, i.size, i.bytes)) = some (some (.agg #[.int .i64 0, .int .i64 0, .int .i64 0]), 3, 24) := by kernel_rfl
theorem microsC_snoc (M : List Mic) (m : Mic) : microsC M ++ [.int .i64 m.c, .int .i64 m.a, .int .i64 m.v] = microsC (M ++ [m]) := by simp [microsC, gcs, microC]
/-- One step more. -/
theorem TnAt.step {B g : Nat} {gv cv : Nat} {a1 : Option Addr} {n1 c1 : Nat} {a2 : Option Addr} {n2 c2 : Nat} {a3 : Option Addr} {n3 c3 : Nat} {a4 : Option Addr} {n4 c4 : Nat} {a5 : Option Addr} {n5 c5 : Nat} {k : Kf} {y : Tx} {w w' : World} (h : TnAt B g ⟨gv, cv, a1, n1, c1, a2, n2, c2, a3, n3, c3, a4, n4, c4, a5, n5, c5⟩ k y w)
    {m : Mic} {v : Value} {t : TypeId} (ho : w'.ownsRow B 72 3 v (n3 + 1) (microsC y.M ++ [.int .i64 m.c, .int .i64 m.a, .int .i64 m.v])) (hg : (w.alloc (.cells #[.int .i64 m.c, .int .i64 m.a, .int .i64 m.v] t)).grownBy w' (Value.slice a3 n3 c3).ownBlock)
    (hat : v.ownBlock = (Value.slice a3 n3 c3).ownBlock ∨ v.ownBlock = some (w.alloc (.cells #[.int .i64 m.c, .int .i64 m.a, .int .i64 m.v] t)).heap.size) :
    ∃ a' c', v = .slice a' (n3 + 1) c' ∧ (w'.cell? ⟨g, 7, none⟩ = some (.slice a3 n3 c3) ∧ w'.frozen? ⟨g, 7, none⟩ = false) ∧ TnOut B g ⟨gv, cv, a1, n1, c1, a2, n2, c2, a3, n3, c3, a4, n4, c4, a5, n5, c5⟩ k y ⟨y.x, y.M ++ [m], y.L⟩ w (.returned (.tuple #[])) (w'.setCell ⟨g, 7, none⟩ (.slice a' (n3 + 1) c')) := by
  rw [microsC_snoc] at ho
  obtain ⟨g4, c', rfl, _, _⟩ := ho.form (by omega)
  have hg' : w.grownBy w' (Value.slice a3 n3 c3).ownBlock := grown_trans (World.grownBy_alloc w _ _) hg
  have hat' : (Value.slice (some ⟨g4, 0, none⟩) (n3 + 1) c').ownBlock = (Value.slice a3 n3 c3).ownBlock ∨ ∀ b, (Value.slice (some ⟨g4, 0, none⟩) (n3 + 1) c').ownBlock = some b → w.heap.size ≤ b := hat.imp id (fun e b hb => by
    rw [e] at hb
    have : (w.alloc (.cells #[.int .i64 m.c, .int .i64 m.a, .int .i64 m.v] t)).heap.size = b := Option.some.inj hb
    simp at this; omega)
  obtain ⟨hr, hbx, hmv, hx⟩ := h.rows.app h.box (i := 3) rfl hg' (r' := ⟨.slice (some ⟨g4, 0, none⟩) (n3 + 1) c', n3 + 1, microsC (y.M ++ [m]), 72, 3⟩) ho hat' 7 (.slice (some ⟨g4, 0, none⟩) (n3 + 1) c')
  exact ⟨some ⟨g4, 0, none⟩, c', rfl, ⟨hx.cell 7, hx.frozen 7⟩, rfl, ⟨gv, cv, a1, n1, c1, a2, n2, c2, some ⟨g4, 0, none⟩, n3 + 1, c', a4, n4, c4, a5, n5, c5⟩, ⟨hbx, hr⟩, hmv⟩
set_option maxHeartbeats 2000000 in
set_option maxRecDepth 100000 in
theorem spec_step (B g : Nat) (p : Tp) (k : Kf) (y : Tx) (w : World) (h : TnAt B g p k y w) (hM : y.M.length ≤ 100000) (c : Int) :
    Calls Tryz.prog 109 #[.pointer (some ⟨g, 0, none⟩), .int .i64 c] w (TnOut B g p k y ⟨y.x, y.M ++ [⟨c, -1, 0⟩], y.L⟩ w) := by
  obtain ⟨i0, hi, hz0, hz1, hz2⟩ := info_parts infoMic
  obtain ⟨gv, cv, a1, n1, c1, a2, n2, c2, a3, n3, c3, a4, n4, c4, a5, n5, c5⟩ := p
  have H := Lib.hid h
  have c7 : w.cell? ⟨g, 7, none⟩ = some (.slice a3 n3 c3) := h.box.cell 7
  have hB : B ≤ w.heap.size := h.low
  have ho3 : w.ownsRow B 72 3 (.slice a3 n3 c3) n3 (microsC y.M) := h.rows.own 3 _ rfl
  have hn3 : n3 ≤ 100000 := by have := ho3.1; rw [microsC_len] at this; omega
  have HO := Lib.hid ho3
  clear h ho3
  go_enter Tryz.func109, Tryz.ntmps109
  go_wp2_with (at_builtin; refine wpList_append_own_at _ rfl _ _ 31 rfl B 72 i0 (.agg #[.int .i64 0, .int .i64 0, .int .i64 0]) 3 24 Tryz.underlying31 hi hz0 hz1 hz2 rfl (by decide) _ n3 _ rfl (HO.out.kept (World.grownBy_alloc w _ none) (by cases a3 <;> simp [Value.ownBlock])) ⟨w.heap.size, 0, none⟩ 1 1 [.int .i64 c, .int .i64 (-1), .int .i64 0] rfl rfl (World.news_of_block (cs := #[.int .i64 c, .int .i64 (-1), .int .i64 0]) (t := 72) (fr := (0, 0)) (heap_alloc_new w _)) (by simp [Value.oneCell']) (by unfold maxLen; omega) (by omega) (by simp; omega) ?_; intro v4 w4 hown4 hgrow4 _ hat4; refine Hid.out ?_)
  obtain ⟨a', c', rfl, ⟨d7, f7⟩, hout⟩ := H.out.step (m := ⟨c, -1, 0⟩) hown4 hgrow4 hat4
  have HF := Lib.hid hout
  clear hown4 hgrow4 hat4 hout c7
  refine Lib.hid ?_
  go_wp2
  go_end0
  exact HF.out
set_option maxHeartbeats 2000000 in
set_option maxRecDepth 100000 in
theorem spec_wr (B g : Nat) (p : Tp) (k : Kf) (y : Tx) (w : World) (h : TnAt B g p k y w) (hM : y.M.length ≤ 100000) (a v : Int) :
    Calls Tryz.prog 110 #[.pointer (some ⟨g, 0, none⟩), .int .i64 a, .int .i64 v] w (TnOut B g p k y ⟨y.x, y.M ++ [wrM a v], y.L⟩ w) := by
  obtain ⟨i0, hi, hz0, hz1, hz2⟩ := info_parts infoMic
  obtain ⟨gv, cv, a1, n1, c1, a2, n2, c2, a3, n3, c3, a4, n4, c4, a5, n5, c5⟩ := p
  have H := Lib.hid h
  have c7 : w.cell? ⟨g, 7, none⟩ = some (.slice a3 n3 c3) := h.box.cell 7
  have hB : B ≤ w.heap.size := h.low
  have ho3 : w.ownsRow B 72 3 (.slice a3 n3 c3) n3 (microsC y.M) := h.rows.own 3 _ rfl
  have hn3 : n3 ≤ 100000 := by have := ho3.1; rw [microsC_len] at this; omega
  have HO := Lib.hid ho3
  clear h ho3
  go_enter Tryz.func110, Tryz.ntmps110
  go_wp2_with (at_builtin; refine wpList_append_own_at _ rfl _ _ 31 rfl B 72 i0 (.agg #[.int .i64 0, .int .i64 0, .int .i64 0]) 3 24 Tryz.underlying31 hi hz0 hz1 hz2 rfl (by decide) _ n3 _ rfl (HO.out.kept (World.grownBy_alloc w _ none) (by cases a3 <;> simp [Value.ownBlock])) ⟨w.heap.size, 0, none⟩ 1 1 [.int .i64 3, .int .i64 a, .int .i64 v] rfl rfl (World.news_of_block (cs := #[.int .i64 3, .int .i64 a, .int .i64 v]) (t := 72) (fr := (0, 0)) (heap_alloc_new w _)) (by simp [Value.oneCell']) (by unfold maxLen; omega) (by omega) (by simp; omega) ?_; intro v4 w4 hown4 hgrow4 _ hat4; refine Hid.out ?_)
  obtain ⟨a', c', rfl, ⟨d7, f7⟩, hout⟩ := H.out.step (m := wrM a v) hown4 hgrow4 hat4
  have HF := Lib.hid hout
  clear hown4 hgrow4 hat4 hout c7
  refine Lib.hid ?_
  go_wp2
  go_end0
  exact HF.out
/-- One sensed value more. -/
theorem TnAt.sense {B g : Nat} {gv cv : Nat} {a1 : Option Addr} {n1 c1 : Nat} {a2 : Option Addr} {n2 c2 : Nat} {a3 : Option Addr} {n3 c3 : Nat} {a4 : Option Addr} {n4 c4 : Nat} {a5 : Option Addr} {n5 c5 : Nat} {k : Kf} {y : Tx} {w w1 w' : World} (h : TnAt B g ⟨gv, cv, a1, n1, c1, a2, n2, c2, a3, n3, c3, a4, n4, c4, a5, n5, c5⟩ k y w) (h1 : Below w.heap.size w w1) (h1s : w1.heap.size = w.heap.size)
    {q : Int} {v : Value} {o : Obj} (ho : w'.ownsRow B 3 1 v (n2 + 1) (ivs y.x.U ++ [.int .i64 q])) (hg : (w1.alloc o).grownBy w' (Value.slice a2 n2 c2).ownBlock)
    (hat : v.ownBlock = (Value.slice a2 n2 c2).ownBlock ∨ v.ownBlock = some (w1.alloc o).heap.size) :
    ∃ a' c', v = .slice a' (n2 + 1) c' ∧ (w'.cell? ⟨g, 2, none⟩ = some (.slice a2 n2 c2) ∧ w'.frozen? ⟨g, 2, none⟩ = false) ∧
      ∃ p', TnAt B g p' k ⟨⟨y.x.V, y.x.S, y.x.U ++ [q]⟩, y.M, y.L⟩ (w'.setCell ⟨g, 2, none⟩ (.slice a' (n2 + 1) c')) ∧
        Mv (tnB g ⟨gv, cv, a1, n1, c1, a2, n2, c2, a3, n3, c3, a4, n4, c4, a5, n5, c5⟩ k y) w (tnB g p' k ⟨⟨y.x.V, y.x.S, y.x.U ++ [q]⟩, y.M, y.L⟩) (w'.setCell ⟨g, 2, none⟩ (.slice a' (n2 + 1) c')) := by
  rw [ivs_snoc] at ho
  obtain ⟨g4, c', rfl, _, _⟩ := ho.form (by omega)
  have hg' : w.grownBy w' (Value.slice a2 n2 c2).ownBlock := grown_trans (grown_below h1 _) (grown_trans (World.grownBy_alloc w1 _ _) hg)
  have hat' : (Value.slice (some ⟨g4, 0, none⟩) (n2 + 1) c').ownBlock = (Value.slice a2 n2 c2).ownBlock ∨ ∀ b, (Value.slice (some ⟨g4, 0, none⟩) (n2 + 1) c').ownBlock = some b → w.heap.size ≤ b := hat.imp id (fun e b hb => by
    rw [e] at hb
    have : (w1.alloc o).heap.size = b := Option.some.inj hb
    simp at this; omega)
  obtain ⟨hr, hbx, hmv, hx⟩ := h.rows.app h.box (i := 2) rfl hg' (r' := ⟨.slice (some ⟨g4, 0, none⟩) (n2 + 1) c', n2 + 1, ivs (y.x.U ++ [q]), 3, 1⟩) ho hat' 2 (.slice (some ⟨g4, 0, none⟩) (n2 + 1) c')
  exact ⟨some ⟨g4, 0, none⟩, c', rfl, ⟨hx.cell 2, hx.frozen 2⟩, ⟨gv, cv, a1, n1, c1, some ⟨g4, 0, none⟩, n2 + 1, c', a3, n3, c3, a4, n4, c4, a5, n5, c5⟩, ⟨hbx, hr⟩, hmv⟩
def SnOut (B g : Nat) (p : Tp) (k : Kf) (y y' : Tx) (v : Int) (w : World) (e : Ending) (w' : World) : Prop :=
  e = .returned (.int .i64 v) ∧ ∃ p', TnAt B g p' k y' w' ∧ Mv (tnB g p k y) w (tnB g p' k y') w'
set_option maxHeartbeats 4000000 in
set_option maxRecDepth 100000 in
theorem spec_sns (B g : Nat) (p : Tp) (k : Kf) (y : Tx) (w : World) (h : TnAt B g p k y w) (hk : KfAt k w) (hU : y.x.U.length ≤ 100000) (q v : Int) (hv : liveSrc k.R k.z q y.x.U.length = v) :
    Calls Tryz.prog 146 #[.pointer (some ⟨g, 0, none⟩), .int .i64 q] w (SnOut B g p k y ⟨⟨y.x.V, y.x.S, y.x.U ++ [v]⟩, y.M, y.L⟩ v w) := by
  obtain ⟨i0, hi, hz0, hz1, hz2⟩ := info_parts row.infoInt
  obtain ⟨gv, cv, a1, n1, c1, a2, n2, c2, a3, n3, c3, a4, n4, c4, a5, n5, c5⟩ := p
  obtain ⟨ar, nr, cr, R, z, tk, tl, D⟩ := k
  have H := Lib.hid h
  have c2' : w.cell? ⟨g, 2, none⟩ = some (.slice a2 n2 c2) := h.box.cell 2
  have c3' : w.cell? ⟨g, 3, none⟩ = some (.slice none 0 0) := h.box.cell 3
  have c4' : w.cell? ⟨g, 4, none⟩ = some (.slice ar nr cr) := h.box.cell 4
  have c5' : w.cell? ⟨g, 5, none⟩ = some (.int .i64 z) := h.box.cell 5
  have c6' : w.cell? ⟨g, 6, none⟩ = some (.bool true) := h.box.cell 6
  have hB : B ≤ w.heap.size := h.low
  have ho2 : w.ownsRow B 3 1 (.slice a2 n2 c2) n2 (ivs y.x.U) := h.rows.own 2 _ rfl
  have hn2' : n2 = y.x.U.length := (own_len ho2).symm
  have hn2 : n2 ≤ 100000 := by omega
  have HO := Lib.hid ho2
  have hz := hk.2.2
  dsimp only at hz hv
  have hn0 : 0 ≤ z + n2 ∧ z + n2 ≤ 2000000 := by omega
  have hv2 : readS R q (z + n2) = v := by rw [← hv, hn2']; rfl
  have HQ := Lib.hid (readsensor_q w ar nr cr R hk.2.1 hk.1 q (z + n2) v hv2)
  clear h ho2 hk hv hv2 hz hn2'
  go_enter Tryz.func146, Tryz.ntmps146
  go_wp2
  go_quiet ((first | (go_at_call 189; with_reducible exact Calls.quiet_of_same (HQ.out _))))
  go_wp2_with (at_builtin; refine wpList_append_own_at _ rfl _ _ 27 rfl B 3 i0 (.int .i64 0) 1 8 Tryz.underlying27 hi hz0 hz1 hz2 rfl (by decide) _ _ _ rfl ((HO.out.kept (grown_below (below_drewN (Below.refl _ w) _) none) (by cases a2 <;> simp [Value.ownBlock])).alloc _) ⟨w.heap.size, 0, none⟩ 1 1 [.int .i64 v] rfl rfl (World.news_of_block (cs := #[.int .i64 v]) (t := 3) (fr := (0, 0)) (heap_alloc_new (w.drewN _) _)) (by simp [Value.oneCell']) (by unfold maxLen; omega) (by omega) (by simp; omega) ?_; intro v4 w4 hown4 hgrow4 _ hat4; refine Hid.out ?_)
  obtain ⟨a', c', rfl, ⟨d2, f2⟩, hout⟩ := H.out.sense (below_drewN (Below.refl _ w) _) rfl hown4 hgrow4 hat4
  have HF := Lib.hid hout
  clear hown4 hgrow4 hat4 hout c2' c3' c4' c5' c6'
  refine Lib.hid ?_
  go_wp2
  go_ret
  exact ⟨rfl, HF.out⟩
end Go.Proofs.YtcmhiadaebpgmaaGreatDoor.trc

/- Chapter 5's model: what opens, the matching end, EndOf, DepthOf: what the plain relations say; nothing that was there is written. -/
namespace Go.Proofs.YtcmhiadaebpgmaaGreatDoor.blk
open Go Go.ChangeShapes Go.WideShapes Go.ChangeAt Go.RowKit Go.Proofs.YtcmhiadaebpgmaaGreatDoor.row Go.Proofs.YtcmhiadaebpgmaaGreatDoor.val Go.Proofs.YtcmhiadaebpgmaaGreatDoor.expr Go.Proofs.YtcmhiadaebpgmaaGreatDoor.stm

theorem spec_opens (s : Go.Proofs.YtcmhiadaebpgmaaGreatDoor.stm.St) (r : Bool) (hr : opn s = r) (w : World) : Calls Tryz.prog 190 #[stV s] w (BelB w r) := by
  subst hr
  by_cases h4 : s.k = 4
  · have HE := Lib.hid (show opn s = true by unfold opn; rw [h4]; rfl)
    have hq : (s.k == 4) = true := by rw [h4]; rfl
    clear h4
    go_enter Tryz.func190, Tryz.ntmps190
    go_wp2
    go_ret
    exact ⟨by rw [HE.out]; rfl, below_new w _⟩
  · have hq : (s.k == 4) = false := by rw [beq_eq_false_iff_ne]; exact h4
    by_cases h5 : s.k = 5
    · have HE := Lib.hid (show opn s = true by unfold opn; rw [h5]; rfl)
      have hq5 : (s.k == 5) = true := by rw [h5]; rfl
      clear h4 h5
      go_enter Tryz.func190, Tryz.ntmps190
      go_wp2
      go_ret
      exact ⟨by rw [HE.out]; rfl, below_new w _⟩
    · have hq5 : (s.k == 5) = false := by rw [beq_eq_false_iff_ne]; exact h5
      have HE := Lib.hid (show opn s = false by unfold opn; rw [hq, hq5]; rfl)
      clear h4 h5
      go_enter Tryz.func190, Tryz.ntmps190
      go_wp2
      go_ret
      exact ⟨by rw [HE.out]; rfl, below_new w _⟩
set_option maxHeartbeats 4000000 in
set_option maxRecDepth 100000 in
theorem spec_end (a : Option Addr) (n cap : Nat) (L : List Go.Proofs.YtcmhiadaebpgmaaGreatDoor.stm.St) (w : World) (h : StRow w a n L) (hb : IsBlk L) (i e : Nat) (he : IsEnd L i e) (X : Int) (hX : X = e) :
    Calls Tryz.prog 147 #[.slice a n cap, .int .i64 i] w (BelI w X) := by
  have HL := Lib.hid h
  have HB := Lib.hid hb
  have HE := Lib.hid he
  have hie := he.1
  have hel : e < n := by have := he.2.1; rw [h.1] at this; exact this
  have hn24 : n ≤ 24 := by have := hb.2.2; rw [h.1] at this; exact this
  have HX := Lib.hid hX
  clear h hb he hX
  go_enter Tryz.func147, Tryz.ntmps147
  go_wp2
  go_loopw [5, 6] (fun o k' wr => ∃ (k : Nat) (x : Int), i ≤ k ∧ k ≤ e ∧ k' = .int .i64 k ∧ o = .int .i64 x ∧ -3 ≤ x ∧ x ≤ 3 ∧ Hid (x = hAt L k - hAt L i) ∧ Below w.heap.size w wr) (fun _ k' _ => e + 1 - (intOf k').toNat)
  case atStart => exact ⟨i, 0, Nat.le_refl _, by omega, rfl, rfl, by omega, by omega, show (0 : Int) = hAt L i - hAt L i by omega, Below.refl _ _⟩
  case round =>
    obtain ⟨k, x, hik, hke, rfl, rfl, hx0, hx3, hH, hbel⟩ := hrel
    obtain ⟨b, off, s, rfl, hlb, hs, hrg⟩ := (HL.out.below hbel).2 k (by omega)
    have HS := Lib.hid (And.intro hrg (And.intro hs hbel))
    have hI : (k : Int) < n := by omega
    have hnx := hAt_succ hs
    have hbd := blk_bounds HB.out (k + 1)
    have hbi := blk_bounds HB.out i
    obtain ⟨d, hd⟩ : ∃ d, dlt s = d := ⟨_, rfl⟩
    rw [hd] at hnx
    have hHo := hH.out
    have hend : k = e → s.k = 6 ∧ x + d = 0 := fun hk => by
      subst hk
      obtain ⟨t, ht, h6⟩ := HE.out.kind
      rw [hs] at ht; cases ht
      exact ⟨h6, by have := HE.out.2.2.1; omega⟩
    have hmid : k < e → 0 < x + d := fun hk => by have := HE.out.2.2.2 (k + 1) (by omega) (by omega); omega
    have HH := Lib.hid (show x + d = hAt L (k + 1) - hAt L i by omega)
    have hxd : -3 ≤ x + d ∧ x + d ≤ 3 := by omega
    clear hrg hs hbel hnx hbd hbi hHo
    rcases (show (opn s = true ∧ s.k ≠ 6 ∧ d = 1) ∨ (opn s = false ∧ s.k = 6 ∧ d = -1) ∨ (opn s = false ∧ s.k ≠ 6 ∧ d = 0) by rw [← hd]; exact dlt_cases s) with ⟨ho, h6, rfl⟩ | ⟨ho, h6, rfl⟩ | ⟨ho, h6, rfl⟩
    · have hlt : k < e := by
        rcases Nat.lt_or_ge k e with h | h
        · exact h
        · exact absurd (hend (by omega)).1 h6
      have hq6 : (s.k == 6) = false := by rw [beq_eq_false_iff_ne]; exact h6
      have HO := Lib.hid ho
      clear ho h6 hd hend hmid
      go_wp2_with (first
        | (refine wpList_load_mid rfl 85 _ rfl b (off + k * 6) rfl (stC s) _ HS.out.1 Tryz.underlying85 rfl (by kernel_rfl) ?_)
        | (go_at_call 190; refine (spec_opens s true HO.out _).mono ?_; rintro e w2 ⟨rfl, hb2⟩; refine Hid.out ?_))
      have hc2 := (hb2.cell (p := ⟨b, off + k * 6, none⟩) hlb).trans (range6 HS.out.1).1
      have HB2 := Lib.hid (below_then HS.out.2.2 hb2)
      clear hb2
      refine Lib.hid ?_
      go_wp2
      go_roundw
      case rel => exact ⟨k + 1, x + 1, by omega, by omega, by go_num, rfl, by omega, by omega, HH, HB2.out⟩
      case measure => simp [intOf]; omega
    · have hq6 : (s.k == 6) = true := by rw [h6]; rfl
      have HO := Lib.hid ho
      by_cases hk : k = e
      · have hz := (hend hk).2
        have hxe : x = 1 := by omega
        have HXK := Lib.hid (show X = (k : Int) by rw [HX.out, hk])
        subst hxe
        clear ho h6 hd hend hmid hz hk
        go_wp2_with (first
          | (refine wpList_load_mid rfl 85 _ rfl b (off + k * 6) rfl (stC s) _ HS.out.1 Tryz.underlying85 rfl (by kernel_rfl) ?_)
          | (go_at_call 190; refine (spec_opens s false HO.out _).mono ?_; rintro e w2 ⟨rfl, hb2⟩; refine Hid.out ?_))
        have hc2 := (hb2.cell (p := ⟨b, off + k * 6, none⟩) hlb).trans (range6 HS.out.1).1
        have HB2 := Lib.hid (below_then HS.out.2.2 hb2)
        clear hb2
        refine Lib.hid ?_
        go_wp2
        go_ret
        exact ⟨by rw [HXK.out]; rfl, HB2.out⟩
      · have hm := hmid (by omega)
        have hz : (x - 1 == 0) = false := by rw [beq_eq_false_iff_ne]; omega
        clear ho h6 hd hend hmid
        go_wp2_with (first
          | (refine wpList_load_mid rfl 85 _ rfl b (off + k * 6) rfl (stC s) _ HS.out.1 Tryz.underlying85 rfl (by kernel_rfl) ?_)
          | (go_at_call 190; refine (spec_opens s false HO.out _).mono ?_; rintro e w2 ⟨rfl, hb2⟩; refine Hid.out ?_))
        have hc2 := (hb2.cell (p := ⟨b, off + k * 6, none⟩) hlb).trans (range6 HS.out.1).1
        have HB2 := Lib.hid (below_then HS.out.2.2 hb2)
        clear hb2
        refine Lib.hid ?_
        go_wp2
        go_roundw
        case rel => exact ⟨k + 1, x - 1, by omega, by omega, by go_num, rfl, by omega, by omega, HH, HB2.out⟩
        case measure => simp [intOf]; omega
    · have hlt : k < e := by
        rcases Nat.lt_or_ge k e with h | h
        · exact h
        · exact absurd (hend (by omega)).1 h6
      have hq6 : (s.k == 6) = false := by rw [beq_eq_false_iff_ne]; exact h6
      have HO := Lib.hid ho
      have HH2 := Lib.hid (show x = hAt L (k + 1) - hAt L i by have := HH.out; omega)
      clear ho h6 hd hend hmid
      go_wp2_with (first
        | (refine wpList_load_mid rfl 85 _ rfl b (off + k * 6) rfl (stC s) _ HS.out.1 Tryz.underlying85 rfl (by kernel_rfl) ?_)
        | (go_at_call 190; refine (spec_opens s false HO.out _).mono ?_; rintro e w2 ⟨rfl, hb2⟩; refine Hid.out ?_))
      have hc2 := (hb2.cell (p := ⟨b, off + k * 6, none⟩) hlb).trans (range6 HS.out.1).1
      have HB2 := Lib.hid (below_then HS.out.2.2 hb2)
      clear hb2
      refine Lib.hid ?_
      go_wp2
      go_roundw
      case rel => exact ⟨k + 1, x, by omega, by omega, by go_num, rfl, by omega, by omega, HH2, HB2.out⟩
      case measure => simp [intOf]; omega
theorem endIs_not {L : List Go.Proofs.YtcmhiadaebpgmaaGreatDoor.stm.St} {i x : Int} (h : EndIs L i x) (hn : ¬ IsBlk L ∨ i < 0 ∨ (L.length : Int) ≤ i) : x = -1 := by
  rcases h with ⟨j, e, rfl, hb, he, rfl⟩ | ⟨rfl, _⟩
  · rcases hn with hn | hn | hn
    · exact absurd hb hn
    · omega
    · have := he.1; have := he.2.1; omega
  · rfl
theorem endIs_flat {L : List Go.Proofs.YtcmhiadaebpgmaaGreatDoor.stm.St} {j : Nat} {x : Int} {s : Go.Proofs.YtcmhiadaebpgmaaGreatDoor.stm.St} (h : EndIs L j x) (hs : L[j]? = some s) (ho : opn s = false) : x = -1 := by
  rcases h with ⟨j', e, hj, hb, he, rfl⟩ | ⟨rfl, _⟩
  · obtain rfl : j = j' := by omega
    obtain ⟨t, ht, hot⟩ := he.opens
    rw [hs] at ht; cases ht; rw [ho] at hot; cases hot
  · rfl
theorem endIs_yes {L : List Go.Proofs.YtcmhiadaebpgmaaGreatDoor.stm.St} {j e : Nat} {x : Int} (h : EndIs L j x) (hb : IsBlk L) (he : IsEnd L j e) : x = e := h.unique (.inl ⟨j, e, rfl, hb, he, rfl⟩)
end Go.Proofs.YtcmhiadaebpgmaaGreatDoor.blk

/- Parts of a block: a stretch at one height is a valid block of its own; what runs in the part runs in the whole. Plain mathematics. -/
namespace Go.Proofs.YtcmhiadaebpgmaaGreatDoor.blk
open Go Go.ChangeShapes Go.WideShapes Go.ChangeAt Go.RowKit Go.Proofs.YtcmhiadaebpgmaaGreatDoor.row Go.Proofs.YtcmhiadaebpgmaaGreatDoor.stm

/-- The part of 'm' statements from 'c' on. -/
def part (L : List Go.Proofs.YtcmhiadaebpgmaaGreatDoor.stm.St) (c m : Nat) : List Go.Proofs.YtcmhiadaebpgmaaGreatDoor.stm.St := (L.drop c).take m
theorem part_len {L : List Go.Proofs.YtcmhiadaebpgmaaGreatDoor.stm.St} {c m : Nat} (h : c + m ≤ L.length) : (part L c m).length = m := by
  unfold part; rw [List.length_take, List.length_drop]; omega
theorem part_at {L : List Go.Proofs.YtcmhiadaebpgmaaGreatDoor.stm.St} {c m j : Nat} (h : j < m) : (part L c m)[j]? = L[c + j]? := by
  unfold part; rw [List.getElem?_take, if_pos h, List.getElem?_drop]
theorem part_ht {L : List Go.Proofs.YtcmhiadaebpgmaaGreatDoor.stm.St} {c m : Nat} (h : c + m ≤ L.length) : ∀ t, t ≤ m → hAt (part L c m) t = hAt L (c + t) - hAt L c := by
  intro t
  induction t with
  | zero => intro _; rw [hAt_zero, Nat.add_zero]; omega
  | succ t ih =>
    intro ht
    obtain ⟨s, hs⟩ := at_lt (show c + t < L.length by omega)
    have h1 := hAt_succ hs
    have h2 := hAt_succ (show (part L c m)[t]? = some s by rw [part_at (by omega)]; exact hs)
    rw [h2, ih (by omega), show c + (t + 1) = c + t + 1 by omega, h1]; omega
theorem part_end {L : List Go.Proofs.YtcmhiadaebpgmaaGreatDoor.stm.St} {c m i e : Nat} (h : c + m ≤ L.length) (hE : IsEnd (part L c m) i e) : IsEnd L (c + i) (c + e) := by
  obtain ⟨h1, h2, h3, h4⟩ := hE
  rw [part_len h] at h2
  have k1 := part_ht h (e + 1) (by omega)
  have k2 := part_ht h i (by omega)
  refine ⟨by omega, by omega, by rw [show c + e + 1 = c + (e + 1) by omega]; omega, fun j hj hje => ?_⟩
  obtain ⟨t, rfl⟩ : ∃ t, j = c + t := ⟨j - c, by omega⟩
  have := h4 t (by omega) (by omega)
  have := part_ht h t (by omega)
  omega
theorem part_runs {L : List Go.Proofs.YtcmhiadaebpgmaaGreatDoor.stm.St} {c m a b : Nat} {x : Int} (h : c + m ≤ L.length) (hr : Runs (part L c m) a b x) : b ≤ m → Runs L (c + a) (c + b) x := by
  induction hr with
  | nil a => intro _; exact .nil _
  | one a b x s hs ho h6 hr ih =>
    intro hb
    have hl := hr.le
    refine .one _ _ _ s (by rw [← part_at (show a < m by omega)]; exact hs) ho h6 ?_
    have := ih hb
    rw [show c + (a + 1) = c + a + 1 by omega] at this; exact this
  | nest a e b x y s hs he hbb hr ih1 ih2 =>
    intro hb
    have hl := hr.le
    have hae := he.1
    have h1 := ih1 (by omega)
    have h2 := ih2 hb
    rw [show c + (a + 1) = c + a + 1 by omega] at h1
    rw [show c + (e + 1) = c + e + 1 by omega] at h2
    exact .nest _ (c + e) _ _ _ s (by rw [← part_at (show a < m by omega)]; exact hs) (part_end h he) h1 h2
theorem part_blk {L : List Go.Proofs.YtcmhiadaebpgmaaGreatDoor.stm.St} {c m : Nat} (hb : IsBlk L) (hF : Flat L c (c + m)) : IsBlk (part L c m) := by
  obtain ⟨_, h2, h3, h4⟩ := hF
  have hl := part_len h2
  refine ⟨fun j s hj hs => ?_, ?_, by rw [hl]; have := hb.2.2; omega⟩
  · rw [hl] at hj
    have hs' : L[c + j]? = some s := by rw [← part_at hj]; exact hs
    have k1 := part_ht h2 (j + 1) (by omega)
    have k2 := h4 (c + (j + 1)) (by omega) (by omega)
    have k3 := (blk_bounds hb (c + (j + 1))).2
    have k4 := (blk_bounds hb c).1
    exact ⟨blk_stOk hb hs', by omega, by omega⟩
  · rw [hl, part_ht h2 m (Nat.le_refl _)]; omega
/-- The body of a statement that opens, at the head of a block. -/
theorem body_blk {L : List Go.Proofs.YtcmhiadaebpgmaaGreatDoor.stm.St} (hb : IsBlk L) {e : Nat} (he : IsEnd L 0 e) : IsBlk (part L 1 (e - 1)) := by
  have := flat_body he
  have h0 := he.1
  rw [show e = 1 + (e - 1) by omega] at this
  exact part_blk hb this
/-- What stands behind a place at height 0. -/
theorem rest_blk {L : List Go.Proofs.YtcmhiadaebpgmaaGreatDoor.stm.St} (hb : IsBlk L) {c : Nat} (hc : c ≤ L.length) (h0 : hAt L c = 0) : IsBlk (part L c (L.length - c)) := by
  refine part_blk hb ⟨by omega, by omega, ?_, fun t _ _ => by rw [h0]; exact (blk_bounds hb t).1⟩
  rw [show c + (L.length - c) = L.length by omega, hb.2.1, h0]
/-- A block that begins with a statement that neither opens nor ends. -/
theorem runs_flat {L : List Go.Proofs.YtcmhiadaebpgmaaGreatDoor.stm.St} {s : Go.Proofs.YtcmhiadaebpgmaaGreatDoor.stm.St} {y : Int} (hl : 1 ≤ L.length) (hs : L[0]? = some s) (ho : opn s = false) (h6 : s.k ≠ 6) (h : Runs (part L 1 (L.length - 1)) 0 (part L 1 (L.length - 1)).length y) : Runs L 0 L.length (1 + y) := by
  have hp : 1 + (L.length - 1) ≤ L.length := by omega
  rw [part_len hp] at h
  have h1 := part_runs hp h (Nat.le_refl _)
  rw [Nat.add_zero, show 1 + (L.length - 1) = L.length by omega] at h1
  exact .one 0 _ y s hs ho h6 h1
/-- A block that begins with a statement that opens. -/
theorem runs_nest {L : List Go.Proofs.YtcmhiadaebpgmaaGreatDoor.stm.St} {s : Go.Proofs.YtcmhiadaebpgmaaGreatDoor.stm.St} {e : Nat} {x y : Int} (hs : L[0]? = some s) (he : IsEnd L 0 e) (hx : Runs (part L 1 (e - 1)) 0 (part L 1 (e - 1)).length x) (h : Runs (part L (e + 1) (L.length - (e + 1))) 0 (part L (e + 1) (L.length - (e + 1))).length y) :
    Runs L 0 L.length (max 1 s.n * x + y) := by
  have h0 := he.1
  have h1 := he.2.1
  have hp : 1 + (e - 1) ≤ L.length := by omega
  have hq : (e + 1) + (L.length - (e + 1)) ≤ L.length := by omega
  rw [part_len hp] at hx
  rw [part_len hq] at h
  have k1 := part_runs hp hx (Nat.le_refl _)
  have k2 := part_runs hq h (Nat.le_refl _)
  rw [Nat.add_zero, show 1 + (e - 1) = e by omega] at k1
  rw [Nat.add_zero, show (e + 1) + (L.length - (e + 1)) = L.length by omega] at k2
  exact .nest 0 e _ x y s hs he k1 k2
/-- How often the body of a valid statement that opens runs. -/
theorem n_if {s : Go.Proofs.YtcmhiadaebpgmaaGreatDoor.stm.St} (h : stOk s = true) (h4 : s.k = 4) : max 1 s.n = 1 := by
  unfold stOk at h
  rw [if_neg (by omega), if_neg (by omega), if_neg (by omega), if_pos h4] at h
  simp at h; omega
theorem n_loop {s : Go.Proofs.YtcmhiadaebpgmaaGreatDoor.stm.St} (h : stOk s = true) (h5 : s.k = 5) : max 1 s.n = s.n := by
  unfold stOk at h
  rw [if_neg (by omega), if_neg (by omega), if_neg (by omega), if_neg (by omega), if_pos h5] at h
  simp at h; omega
/-- A part of a slice. -/
theorem StRow.cut {w : World} {a A : Option Addr} {n : Nat} {L : List Go.Proofs.YtcmhiadaebpgmaaGreatDoor.stm.St} (h : StRow w a n L) (c m : Nat) (hcm : c + m ≤ n) (hA : ∀ b off, a = some ⟨b, off, none⟩ → 0 < m → A = some ⟨b, off + c * 6, none⟩) : StRow w A m (part L c m) :=
  ⟨part_len (by rw [h.1]; exact hcm), fun k hk => by
    obtain ⟨b, off, s, ha, hlt, hs, hr⟩ := h.2 (c + k) (by omega)
    refine ⟨b, off + c * 6, s, hA b off ha (by omega), hlt, by rw [part_at hk]; exact hs, ?_⟩
    rw [show off + c * 6 + k * 6 = off + (c + k) * 6 by omega]; exact hr⟩
theorem own_le {w : World} {base n cap : Nat} {a : Option Addr} {t : TypeId} {z : Nat} {xs : List Value} (h : w.ownsRow base t z (.slice a n cap) n xs) : n ≤ cap := by
  rcases h.2 with ⟨hv, h0⟩ | ⟨g, c, cur, hv, _, _, hle, _⟩
  · omega
  · simp only [Value.slice.injEq] at hv; omega
end Go.Proofs.YtcmhiadaebpgmaaGreatDoor.blk
