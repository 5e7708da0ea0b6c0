/- Several texts in one: VLogI VJrnA. -/
import Derived.Test.YtmgeecdgebemdaaGreatDoorGSigV32
import Derived.Deep.RegionHeld3
import Derived.Test.YtmgeecdgebemdaaGreatDoorGSigV40
import Derived.Test.YtmgeecdgebemdaaGreatDoorGSigV26
import Derived.Test.YtmgeecdgebemdaaGreatDoorGSigV23
import Derived.Test.YtmgeecdgebemdaaGreatDoorGSigV31

/- The program's without, MustLog, NeedsLog, IsRestartable, LogRoom: what the plain relations say; nothing that was there is written. -/
namespace Go.Proofs.YtmgeecdgebemdaaGreatDoor.sets
open Go Go.ChangeShapes Go.WideShapes Go.ChangeAt Go.RowKit Go.Proofs.YtmgeecdgebemdaaGreatDoor.row Go.Proofs.YtmgeecdgebemdaaGreatDoor.val Go.Proofs.YtmgeecdgebemdaaGreatDoor.stm Go.Proofs.YtmgeecdgebemdaaGreatDoor.blk Go.Proofs.YtmgeecdgebemdaaGreatDoor.expr Go.Proofs.YtmgeecdgebemdaaGreatDoor.prg
theorem below_grow1 {w wr w4 : World} {g m c n : Nat} {xs : List Value} {x : Value} {ty e : TypeId} {s : Nat} (hb : Below w.heap.size w wr) (ho : wr.ownsRow w.heap.size e s (.slice (some ⟨g, 0, none⟩) m c) n xs) (hg : (wr.alloc (.cells #[x] ty)).grownBy w4 (Value.slice (some ⟨g, 0, none⟩) m c).ownBlock) : Below w.heap.size w w4 :=
  (below_then hb (below_new wr _)).grown hg (by have := hb.size; simp; omega) (fun j hj => (ho.lt j hj).1)
set_option maxHeartbeats 8000000 in
set_option maxRecDepth 100000 in
theorem impl_without (a : Option Addr) (na ca : Nat) (L : List Int) (ab : Option Addr) (nb cb : Nat) (B : List Int) (hna : (na : Int) ≤ 1048576) (hnb : (nb : Int) ≤ 1048576) (w : World) (hL : Row w a na L) (hB : Row w ab nb B) :
    Calls Tryz.prog 104 #[.slice a na ca, .slice ab nb cb] w (NewInts w (L.filter (fun x => !decide (x ∈ B)))) := by
  obtain ⟨i0, hi, hz0, hz1, hz2⟩ := info_parts infoInt
  have HL := Lib.hid hL
  have HB := Lib.hid hB
  have hlen := hL.1
  clear hL hB
  go_enter Tryz.func104, Tryz.ntmps104
  go_wp2
  go_loopw [5, 7, 11] (fun v _ i wr => ∃ (k n g c : Nat), k ≤ na ∧ i = .int .i64 k ∧ v = .slice (some ⟨g, 0, none⟩) n c ∧ Hid (wr.ownsRow w.heap.size 3 1 (.slice (some ⟨g, 0, none⟩) n c) n (ivs ((L.take k).filter (fun x => !decide (x ∈ B))))) ∧ Hid (Below w.heap.size w wr)) (fun _ _ i _ => na - (intOf i).toNat)
  case atStart => exact ⟨0, 0, w.heap.size, 0, Nat.zero_le _, rfl, rfl, World.ownsRow_made w #[] 0 (Nat.le_refl _) (by decide) rfl, below_new w _⟩
  case round =>
    obtain ⟨k, n, g, c, hk, rfl, rfl, HO, HR⟩ := hrel
    have hnl : n ≤ na := by have h1 := own_len HO.out; have h2 := tf_len L k (fun x => !decide (x ∈ B)); omega
    by_cases hlt : k < na
    · have hI : (k : Int) < na := by omega
      have HRB := Lib.hid (HB.out.below HR.out)
      obtain ⟨b, off, x, rfl, hlb, hx, hc⟩ := (HL.out.below HR.out).2 k hlt
      have hws := HR.out.size
      cases hr : decide (x ∈ B)
      · have HP := Lib.hid hr
        clear hr
        have HG := Lib.hid (tf_yes (p := fun x => !decide (x ∈ B)) hx (by simp [HP.out]))
        clear hx
        go_wp2_with (first
          | (go_at_call 156; (with_reducible refine (contains_any wr ab nb cb B x false (by omega) HRB.out HP.out).mono ?_); rintro e wr ⟨rfl, rfl⟩)
          | (at_builtin; refine wpList_append_own_at _ rfl _ _ 27 rfl w.heap.size 3 i0 (.int .i64 0) 1 8 Tryz.underlying27 hi hz0 hz1 hz2 rfl (by decide) _ _ _ rfl (HO.out.alloc _) ⟨wr.heap.size, 0, none⟩ 1 1 [.int .i64 x] rfl rfl (World.news_of_block (cs := #[.int .i64 x]) (t := 3) (fr := (0, 0)) (heap_alloc_new wr _)) (by simp [Value.oneCell']) (by unfold maxLen; omega) (by omega) (by simp; omega) ?_; intro v4 w4 hown4 hgrow4 _ hat4; refine Hid.out ?_))
        rw [ivs_snoc, ← HG.out] at hown4
        have hb4 := below_grow1 HR.out HO.out hgrow4
        obtain ⟨g4, cp4, rfl, hg4, _⟩ := hown4.form (by omega)
        have HO4 := Lib.hid hown4
        have HR4 := Lib.hid hb4
        clear hown4 hgrow4 hat4 hb4 hc
        refine Lib.hid ?_
        go_wp2
        go_roundw
        case rel => exact ⟨k + 1, n + 1, g4, cp4, by omega, by go_num, rfl, HO4, HR4⟩
        case measure => simp [intOf]; omega
      · have HP := Lib.hid hr
        clear hr
        have HG := Lib.hid (tf_no (p := fun x => !decide (x ∈ B)) hx (by simp [HP.out]))
        rw [← HG.out] at HO
        clear hx
        go_wp2_with (first
          | (go_at_call 156; (with_reducible refine (contains_any wr ab nb cb B x true (by omega) HRB.out HP.out).mono ?_); rintro e wr ⟨rfl, rfl⟩))
        go_roundw
        case rel => exact ⟨k + 1, n, g, c, by omega, by go_num, rfl, HO, HR⟩
        case measure => simp [intOf]; omega
    · obtain rfl : k = na := by omega
      have hI : ¬ (k : Int) < k := by omega
      go_wp2
      go_ret
      refine ⟨_, _, _, rfl, ?_, HR.out⟩
      have h9 := HO.out
      rw [List.take_of_length_le (by omega)] at h9
      exact h9
theorem kept4 {w w' : World} {a : Nat} {x0 x1 x2 x3 : Value} (hb : Below w.heap.size w w') (ha : a < w.heap.size)
    (h : w.cell? ⟨a, 0, none⟩ = some x0 ∧ w.cell? ⟨a, 1, none⟩ = some x1 ∧ w.cell? ⟨a, 2, none⟩ = some x2 ∧ w.cell? ⟨a, 3, none⟩ = some x3) :
    w'.cell? ⟨a, 0, none⟩ = some x0 ∧ w'.cell? ⟨a, 1, none⟩ = some x1 ∧ w'.cell? ⟨a, 2, none⟩ = some x2 ∧ w'.cell? ⟨a, 3, none⟩ = some x3 := by
  have e : ∀ (o : Nat), w'.cell? ⟨a, o, none⟩ = w.cell? ⟨a, o, none⟩ := fun o => hb.cell (p := ⟨a, o, none⟩) ha
  rw [e 0, e 1, e 2, e 3]
  exact h
theorem filter_len8 (f : Nat → Bool) (p : Int → Bool) : ((lst f 8).filter p).length ≤ 8 := Nat.le_trans (List.length_filter_le _ _) (lst_len f 8)
set_option maxHeartbeats 8000000 in
set_option maxRecDepth 100000 in
theorem impl_mustlog (ab : Option Addr) (nb cb : Nat) (t : Tk) (hn : (nb : Int) ≤ 1048576) (hcap : nb ≤ cb) (w : World) (h : StRow w ab nb t.b) (f : Nat → Bool) (hf : Is f (LogP t)) :
    Calls Tryz.prog 79 #[tkV ab nb cb t] w (NewInts w (lst f 8)) := by
  obtain ⟨r, hr⟩ := tsk_dec t
  have HTO := Lib.hid (show ∀ w', StRow w' ab nb t.b → Calls Tryz.prog 136 #[tkV ab nb cb t] w' (BelB w' r) from fun w' h' => impl_taskok ab nb cb t hn w' h' r hr)
  have hlen : t.b.length = nb := h.1
  obtain ⟨W, hW⟩ : ∃ W, w.alloc (.cells #[.slice ab nb cb, .int .i64 t.o, .int .i64 t.x, .int .i64 t.y] 96) = W := ⟨_, rfl⟩
  have hbx : Box w.heap.size #[.slice ab nb cb, .int .i64 t.o, .int .i64 t.x, .int .i64 t.y] 96 W := by rw [← hW]; exact Box.new _ _ _
  have hBW : Below w.heap.size w W := by rw [← hW]; exact below_new _ _
  have H := Lib.hid (And.intro hbx (And.intro hBW (h.below hBW)))
  clear h hbx hBW
  have HF := Lib.hid hf
  clear hf
  cases r
  · have HFL := Lib.hid (show lst f 8 = [] from log_none (fun h => by have := hr.2 h; cases this) HF.out)
    clear hr
    go_enter Tryz.func79, Tryz.ntmps79
    go_wp2_with (first
      | (refine wpList_load_row rfl 96 _ rfl w.heap.size rfl _ _ _ _ H.out.1 Tryz.underlying96 rfl (by kernel_rfl) ?_)
      | (go_at_call 136; (with_reducible refine (HTO.out _ H.out.2.2).mono ?_); rintro e w2 ⟨rfl, hb2⟩))
    go_ret
    exact ⟨none, 0, 0, rfl, by rw [HFL.out]; exact World.ownsRow_nil _ _ _ _, below_then H.out.2.1 hb2⟩
  · have HT := Lib.hid (hr.1 rfl)
    obtain ⟨fm, hfm⟩ := is_ex (fun v => IsBlk t.b ∧ MayTo t.b nb v)
    obtain ⟨fu, hfu⟩ := is_ex (fun v => IsBlk t.b ∧ WAt t.b nb v)
    obtain ⟨ff, hff⟩ := is_ex (FirstP t)
    obtain ⟨K, hK⟩ : ∃ K, (lst fu 8).filter (fun y => !decide (y ∈ lst ff 8)) = K := ⟨_, rfl⟩
    have hK8 : K.length ≤ 8 := by rw [← hK]; exact filter_len8 _ _
    have HLF := Lib.hid (show (lst fm 8).filter (fun x => !decide (x ∈ K)) = lst f 8 from by rw [← hK]; exact log_prog HT.out (by rw [hlen]; exact hfm) (by rw [hlen]; exact hfu) hff HF.out)
    have HFM := Lib.hid (And.intro hfm (And.intro hfu hff))
    have HWI := Lib.hid (show ∀ (w' : World) (a1 : Option Addr) (m1 k1 : Nat) (a2 : Option Addr) (m2 k2 : Nat), (m1 : Int) ≤ 1048576 → (m2 : Int) ≤ 1048576 → Row w' a1 m1 (lst fu 8) → Row w' a2 m2 (lst ff 8) → Calls Tryz.prog 104 #[.slice a1 m1 k1, .slice a2 m2 k2] w' (NewInts w' K) from fun w' a1 m1 k1 a2 m2 k2 q1 q2 q3 q4 => by rw [← hK]; exact impl_without a1 m1 k1 _ a2 m2 k2 _ q1 q2 w' q3 q4)
    clear hr hfm hfu hff hK
    go_enter Tryz.func79, Tryz.ntmps79
    go_wp2_with (first
      | (refine wpList_load_row rfl 96 _ rfl w.heap.size rfl _ _ _ _ H.out.1 Tryz.underlying96 rfl (by kernel_rfl) ?_)
      | (go_at_call 136; (with_reducible refine (HTO.out _ H.out.2.2).mono ?_); rintro e w2 ⟨rfl, hb2⟩; refine Hid.out ?_))
    have H2 := Lib.hid (And.intro (H.out.1.below hb2) (And.intro (below_then H.out.2.1 hb2) (H.out.2.2.below hb2)))
    clear hb2 hW
    have HD := Lib.hid (show Below w2.heap.size w2 w2.drew from Below.drew (Below.refl _ w2))
    have HBX := Lib.hid (H2.out.1.below HD.out)
    have c8 : w2.drew.cell? ⟨w.heap.size, 0, none⟩ = some (.slice ab nb cb) ∧ w2.drew.cell? ⟨w.heap.size, 1, none⟩ = some (.int .i64 t.o) ∧ w2.drew.cell? ⟨w.heap.size, 2, none⟩ = some (.int .i64 t.x) ∧ w2.drew.cell? ⟨w.heap.size, 3, none⟩ = some (.int .i64 t.y) := ⟨HBX.out.cell 0, HBX.out.cell 1, HBX.out.cell 2, HBX.out.cell 3⟩
    have l8 : w.heap.size < w2.drew.heap.size := HBX.out.lt
    have HSR := Lib.hid (H2.out.2.2.below HD.out)
    refine Lib.hid ?_
    go_wp2
    go_region_held3 (fun w' => w'.cell? ⟨w.heap.size, 0, none⟩ = some (.slice ab nb cb) ∧ w'.cell? ⟨w.heap.size, 1, none⟩ = some (.int .i64 t.o) ∧ w'.cell? ⟨w.heap.size, 2, none⟩ = some (.int .i64 t.x) ∧ w'.cell? ⟨w.heap.size, 3, none⟩ = some (.int .i64 t.y))
      (first
        | (with_reducible exact c8)
        | (with_reducible exact kept4 hb5 (Nat.lt_of_lt_of_le l8 (Nat.le_trans hb3.size hb4.size)) (kept4 hb4 (Nat.lt_of_lt_of_le l8 hb3.size) (kept4 hb3 l8 c8)))
        | (with_reducible exact kept4 hb4 (Nat.lt_of_lt_of_le l8 hb3.size) (kept4 hb3 l8 c8))
        | (with_reducible exact kept4 hb3 l8 c8))
      (first
        | (go_at_call 137; (with_reducible refine (impl_mustwrite ab nb cb t.b hn hcap _ HSR.out fu HFM.out.2.1).mono ?_); rintro e w3 ⟨a3, n3, c3, rfl, ho3, hb3⟩; have hn3 : (n3 : Int) ≤ 8 := by (have h1 := own_len ho3; have h2 := lst_len fu 8; omega))
        | (go_at_call 138; (with_reducible refine (impl_mayread ab nb cb t hn _ (HSR.out.below hb3) ff HFM.out.2.2).mono ?_); rintro e w4 ⟨a4, n4, c4, rfl, ho4, hb4⟩; have hn4 : (n4 : Int) ≤ 8 := by (have h1 := own_len ho4; have h2 := lst_len ff 8; omega))
        | (go_at_call 104; (with_reducible refine (HWI.out _ a3 n3 c3 a4 n4 c4 (by omega) (by omega) ((Row.of_own ho3).below hb4) (Row.of_own ho4)).mono ?_); rintro e w5 ⟨a5, n5, c5, rfl, ho5, hb5⟩))
    all_goals
      have hn5 : (n5 : Int) ≤ 8 := by have h1 := own_len ho5; omega
      have hb25 := below_then HD.out (below_then hb3 (below_then hb4 hb5))
      have H5 := Lib.hid (And.intro (H2.out.1.below hb25) (And.intro (below_then H2.out.2.1 hb25) (And.intro (H2.out.2.2.below hb25) (Row.of_own ho5))))
      have d0 : w5.cell? ⟨w.heap.size, 0, none⟩ = some (.slice ab nb cb) := H5.out.1.cell 0
      clear hb25 hb3 hb4 hb5 ho3 ho4 ho5 c8 l8
      refine Lib.hid ?_
      go_wp2_with (go_at_call 105; (with_reducible refine (impl_maywrite ab nb cb t.b hn hcap _ H5.out.2.2.1 fm HFM.out.1).mono ?_); rintro e w6 ⟨a6, n6, c6, rfl, ho6, hb6⟩; refine Hid.out ?_)
      have hn6 : (n6 : Int) ≤ 8 := by have h1 := own_len ho6; have h2 := lst_len fm 8; omega
      have H6 := Lib.hid (And.intro (below_then H5.out.2.1 hb6) (And.intro (Row.of_own ho6) (H5.out.2.2.2.below hb6)))
      clear hb6 ho6 d0
      refine Lib.hid ?_
      go_wp2_with (go_at_call 104; (with_reducible refine (impl_without a6 n6 c6 _ a5 n5 c5 _ (by omega) (by omega) _ H6.out.2.1 H6.out.2.2).mono ?_); rintro e w7 ⟨a7, n7, c7, rfl, ho7, hb7⟩)
      go_ret
      exact ⟨_, _, _, rfl, by rw [← HLF.out]; exact ho7.mono H6.out.1.size, below_then H6.out.1 hb7⟩
end Go.Proofs.YtmgeecdgebemdaaGreatDoor.sets

/- Chapter 14 of the program: the journal and the steps of a trace in memory; what they make of what they are told. -/
namespace Go.Proofs.YtmgeecdgebemdaaGreatDoor.trc
open Go Go.ChangeShapes Go.WideShapes Go.ChangeAt Go.RowKit Go.Proofs.YtmgeecdgebemdaaGreatDoor.row Go.Proofs.YtmgeecdgebemdaaGreatDoor.val Go.Proofs.YtmgeecdgebemdaaGreatDoor.expr Go.Proofs.YtmgeecdgebemdaaGreatDoor.stm Go.Proofs.YtmgeecdgebemdaaGreatDoor.blk Go.Proofs.YtmgeecdgebemdaaGreatDoor.prg Go.Proofs.YtmgeecdgebemdaaGreatDoor.exe Go.Proofs.YtmgeecdgebemdaaGreatDoor.grow Go.Proofs.YtmgeecdgebemdaaGreatDoor.rss Go.Proofs.YtmgeecdgebemdaaGreatDoor.ctl Go.Proofs.YtmgeecdgebemdaaGreatDoor.sets Go.Proofs.YtmgeecdgebemdaaGreatDoor.wrt Go.Proofs.YtmgeecdgebemdaaGreatDoor.mem
/-- The steps so far and the variables that have been logged. -/
structure Tt where
  (M : List Mic) (L : List Int)
def addV (D : List Int) (tk tl : Int) (s : Sm) (x : Sx) (v : Int) (L : List Int) : List Mic :=
  if s.k = 1 then asgM D tk tl x.V s.v v L else if s.k = 2 then asgM D tk tl x.V s.v v L
  else if s.k = 3 then (if tl + x.S.length < 24 then [wrM (25 + (tl + x.S.length)) v] else []) else []
theorem addV_len (D : List Int) (tk tl : Int) (s : Sm) (x : Sx) (v : Int) (L : List Int) : (addV D tk tl s x v L).length ≤ 4 := by
  unfold addV
  split
  · exact asgM_len ..
  split
  · exact asgM_len ..
  split
  · split <;> simp
  · simp
/-- A trace as an observer. -/
abbrev traceO (D : List Int) (tk tl : Int) : Obm :=
  ⟨Tt, fun t x s v => ⟨t.M ++ (stepM s.k :: addV D tk tl s x v t.L), addL D s t.L⟩, fun t => t.M.length, fun t x s v => by
    have := addV_len D tk tl s x v t.L
    simp only [List.length_append, List.length_cons]; omega, fun t => by omega⟩
def txOf (z : Sx × Tt) : Tx := ⟨z.1, z.2.M, z.2.L⟩
section
variable {src : Int → Nat → Int} {D : List Int} {tk tl : Int}
theorem addV_is (s : Sm) (x : Sx) (M : List Mic) (L : List Int) : addV D tk tl s x (valS src s x) L = addM src D tk tl s ⟨x, M, L⟩ := by
  unfold addV addM
  by_cases h1 : s.k = 1
  · rw [if_pos h1, if_pos h1, valS_eval (.inl h1)]
  · rw [if_neg h1, if_neg h1]
    by_cases h2 : s.k = 2
    · rw [if_pos h2, if_pos h2, valS_src h2]
    · rw [if_neg h2, if_neg h2]
      by_cases h3 : s.k = 3
      · rw [if_pos h3, if_pos h3, valS_eval (.inr h3)]
      · rw [if_neg h3, if_neg h3]
theorem txOf_step (s : Sm) (z : Sx × Tt) : txOf (stepZ src (traceO D tk tl) s z) = tstep src D tk tl s (txOf z) := by
  obtain ⟨x, M, L⟩ := z
  show (⟨step1 src s x, M ++ (stepM s.k :: addV D tk tl s x (valS src s x) L), addL D s L⟩ : Tx) = ⟨step1 src s x, M ++ (stepM s.k :: addM src D tk tl s ⟨x, M, L⟩), addL D s L⟩
  rw [addV_is s x M L]
theorem txOf_tell {s : Sm} (h : s.k = 4 ∨ s.k = 5) (z : Sx × Tt) : txOf (tellZ src (traceO D tk tl) s z) = ⟨z.1, z.2.M ++ [stepM s.k], z.2.L⟩ := by
  obtain ⟨x, M, L⟩ := z
  show (⟨x, M ++ (stepM s.k :: addV D tk tl s x (valS src s x) L), addL D s L⟩ : Tx) = ⟨x, M ++ [stepM s.k], L⟩
  have e1 : addV D tk tl s x (valS src s x) L = [] := by unfold addV; rw [if_neg (by omega), if_neg (by omega), if_neg (by omega)]
  have e2 : addL D s L = L := by unfold addL; rw [if_neg (by omega)]
  rw [e1, e2]
theorem txOf_rep {b : Fst} (h : ∀ z, txOf (execZ src (traceO D tk tl) b z) = texec src D tk tl b (txOf z)) : ∀ (n : Nat) (z : Sx × Tt), txOf (repZ (traceO D tk tl) (execZ src (traceO D tk tl) b) n z) = trep (texec src D tk tl b) n (txOf z)
  | 0, _ => rfl
  | n + 1, z => by rw [repZ_succ, txOf_rep h n, h, trep_succ]
/-- Told its statements, the observer has the steps of the execution. -/
theorem txOf_exec : ∀ (T : Fst) (_ : AllS One Nst T) (z : Sx × Tt), txOf (execZ src (traceO D tk tl) T z) = texec src D tk tl T (txOf z)
  | .nil, _, _ => rfl
  | .one s r, hv, z => by
    simp only [execZ, texec]
    rw [txOf_exec r hv.2, txOf_step]
  | .nest s b r, hv, z => by
    simp only [execZ, texec]
    rw [txOf_exec r hv.2.2, txOf_rep (fun y => txOf_exec b hv.2.1 y), txOf_tell hv.1.2]
    rfl
end
/-- The variables that must be logged and have not been. -/
def uns (D L : List Int) : List Int := D.filter fun k => !decide (k ∈ L)
theorem uns_mem {D L : List Int} {k : Int} : k ∈ uns D L ↔ k ∈ D ∧ k ∉ L := by simp [uns]
theorem uns_snoc (D L : List Int) (k : Int) : (uns D L).filter (fun x => !decide (x ∈ [k])) = uns D (L ++ [k]) := by
  unfold uns
  rw [List.filter_filter]
  refine List.filter_congr fun x _ => ?_
  by_cases h1 : x = k <;> by_cases h2 : x ∈ L <;> simp [h1, h2]
theorem uns_nil (D : List Int) : uns D [] = D := by simp [uns]
theorem uns_len (D L : List Int) : (uns D L).length ≤ D.length := List.length_filter_le _ _
/-- The writes of an assignment; what a statement adds to the writes. -/
def asgP (D : List Int) (tk tl old k q : Int) (L : List Int) : List Wt :=
  if k ∈ D ∧ k ∉ L then [⟨9 + 2 * L.length, k⟩, ⟨10 + 2 * L.length, old⟩, ⟨8, packV tk (L.length + 1) tl⟩, ⟨k, q⟩] else [⟨k, q⟩]
theorem asgP_M (D : List Int) (tk tl : Int) (V : List Int) (k q : Int) (L : List Int) : asgM D tk tl V k q L = (asgP D tk tl (V.getD k.toNat 0) k q L).map fun p => wrM p.p p.v := by
  unfold asgM asgP
  split <;> rfl
def addP (D : List Int) (tk tl : Int) (s : Sm) (x : Sx) (v : Int) (L : List Int) : List Wt :=
  if s.k = 1 ∨ s.k = 2 then asgP D tk tl (x.V.getD s.v.toNat 0) s.v v L else if s.k = 3 then (if tl + x.S.length < 24 then [⟨25 + (tl + x.S.length), v⟩] else []) else []
theorem addP_M (D : List Int) (tk tl : Int) (s : Sm) (x : Sx) (v : Int) (L : List Int) : addV D tk tl s x v L = (addP D tk tl s x v L).map fun p => wrM p.p p.v := by
  unfold addV addP
  by_cases h1 : s.k = 1
  · rw [if_pos h1, if_pos (.inl h1), asgP_M]
  · rw [if_neg h1]
    by_cases h2 : s.k = 2
    · rw [if_pos h2, if_pos (.inr h2), asgP_M]
    · have h12 : ¬ (s.k = 1 ∨ s.k = 2) := fun e => e.elim h1 h2
      rw [if_neg h2, if_neg h12]
      by_cases h3 : s.k = 3
      · rw [if_pos h3, if_pos h3]
        split <;> rfl
      · rw [if_neg h3, if_neg h3]; rfl
theorem addP_len (D : List Int) (tk tl : Int) (s : Sm) (x : Sx) (v : Int) (L : List Int) : (addP D tk tl s x v L).length ≤ 4 := by
  have h := addV_len D tk tl s x v L
  rw [addP_M, List.length_map] at h
  exact h
/-- A part of what is held has moved. -/
theorem mv_part {l l' : List (Option Nat)} {w w' : World} (h : Mv l w l' w') (p q : List (Option Nat)) : Mv (p ++ l ++ q) w (p ++ l' ++ q) w' := by
  have key : ∀ (A : List (Option Nat)) (x : Option Nat), (∃ i : Nat, A[i]? = some x) ↔ x ∈ A := fun A x => List.mem_iff_getElem?.symm
  refine ⟨h.os, h.tape, h.output, h.size, fun b hb hn => h.block b hb (fun j e => ?_), fun j b e hb => ?_⟩
  · have h1 : some b ∈ p ++ l ++ q := by
      have := (key l (some b)).1 ⟨j, e⟩
      simp [this]
    obtain ⟨i, hi⟩ := (key _ _).2 h1
    exact hn i hi
  · have h1 : some b ∈ p ++ l' ++ q := (key _ _).1 ⟨j, e⟩
    rw [List.mem_append, List.mem_append] at h1
    refine (key _ _).2 ?_
    rcases h1 with (h1 | h1) | h1
    · simp [h1]
    · obtain ⟨i, hi⟩ := (key _ _).2 h1
      obtain ⟨i', hi'⟩ := h.sub i b hi hb
      have := (key _ _).1 ⟨i', hi'⟩
      simp [this]
    · simp [h1]
theorem dj_mem {l k : List (Option Nat)} : Dj l k ↔ ∀ b, some b ∈ l → some b ∉ k := by
  constructor
  · intro h b h1 h2
    obtain ⟨i, hi⟩ := List.mem_iff_getElem?.1 h1
    obtain ⟨j, hj⟩ := List.mem_iff_getElem?.1 h2
    exact h i j b hi hj
  · intro h i j b hi hj
    exact h b (List.mem_iff_getElem?.2 ⟨i, hi⟩) (List.mem_iff_getElem?.2 ⟨j, hj⟩)
abbrev jnC (tk n tl : Int) (a : Option Addr) (m c : Nat) : Array Value := #[.int .i64 tk, .int .i64 n, .int .i64 tl, .slice a m c]
abbrev jnL (a : Option Addr) (m c : Nat) (U : List Int) : List RS := [⟨.slice a m c, m, ivs U, 3, 1⟩]
abbrev jnB (gj : Nat) (a : Option Addr) (m c : Nat) : List (Option Nat) := [some gj, (Value.slice a m c).ownBlock]
/-- The journal: the variables of 'L' have been logged. -/
structure JnAt (B gj : Nat) (a : Option Addr) (m c : Nat) (D : List Int) (tk tl : Int) (L : List Int) (w : World) : Prop where
  box : Box gj (jnC tk L.length tl a m c) 105 w
  rows : RsAt B gj (jnL a m c (uns D L)) w
abbrev stL (a : Option Addr) (m c : Nat) (M : List Mic) : List RS := [⟨.slice a m c, m, microsC M, 98, 3⟩]
/-- The variable that holds the steps. -/
structure StAt (B gs : Nat) (a : Option Addr) (m c : Nat) (M : List Mic) (w : World) : Prop where
  box : Box gs #[.slice a m c] 52 w
  rows : RsAt B gs (stL a m c M) w
theorem StAt.below {B gs : Nat} {a : Option Addr} {m c : Nat} {M : List Mic} {w w' : World} (h : StAt B gs a m c M w) (hb : Below w.heap.size w w') : StAt B gs a m c M w' := ⟨h.box.below hb, h.rows.below hb⟩
theorem JnAt.below {B gj : Nat} {a : Option Addr} {m c : Nat} {D : List Int} {tk tl : Int} {L : List Int} {w w' : World} (h : JnAt B gj a m c D tk tl L w) (hb : Below w.heap.size w w') : JnAt B gj a m c D tk tl L w' := ⟨h.box.below hb, h.rows.below hb⟩
theorem StAt.len {B gs : Nat} {a : Option Addr} {m c : Nat} {M : List Mic} {w : World} (h : StAt B gs a m c M w) : M.length = m := by
  have h1 := (h.rows.own 0 _ rfl).1
  rw [microsC_len] at h1
  dsimp only at h1; omega
theorem JnAt.len {B gj : Nat} {a : Option Addr} {m c : Nat} {D : List Int} {tk tl : Int} {L : List Int} {w : World} (h : JnAt B gj a m c D tk tl L w) : (uns D L).length = m := own_len (h.rows.own 0 _ rfl)
theorem StAt.low {B gs : Nat} {a : Option Addr} {m c : Nat} {M : List Mic} {w : World} (h : StAt B gs a m c M w) : B ≤ w.heap.size := Nat.le_trans h.rows.low (Nat.le_of_lt h.rows.lt)
theorem JnAt.low {B gj : Nat} {a : Option Addr} {m c : Nat} {D : List Int} {tk tl : Int} {L : List Int} {w : World} (h : JnAt B gj a m c D tk tl L w) : B ≤ w.heap.size := Nat.le_trans h.rows.low (Nat.le_of_lt h.rows.lt)
/-- One step more. -/
theorem StAt.step {B gs : Nat} {a : Option Addr} {m c : Nat} {M : List Mic} {w w' : World} (h : StAt B gs a m c M w) {x : Mic} {v : Value} {o : Obj}
    (ho : w'.ownsRow B 98 3 v (m + 1) (microsC M ++ [.int .i64 x.c, .int .i64 x.a, .int .i64 x.v])) (hg : (w.alloc o).grownBy w' (Value.slice a m c).ownBlock)
    (hat : v.ownBlock = (Value.slice a m c).ownBlock ∨ v.ownBlock = some (w.alloc o).heap.size) :
    ∃ g' c', v = .slice (some ⟨g', 0, none⟩) (m + 1) c' ∧ Box gs #[.slice a m c] 52 w' ∧ StAt B gs (some ⟨g', 0, none⟩) (m + 1) c' (M ++ [x]) (w'.setCell ⟨gs, 0, none⟩ (.slice (some ⟨g', 0, none⟩) (m + 1) c')) ∧
      Mv (jnB gs a m c) w (jnB gs (some ⟨g', 0, none⟩) (m + 1) c') (w'.setCell ⟨gs, 0, none⟩ (.slice (some ⟨g', 0, none⟩) (m + 1) c')) := by
  rw [microsC_snoc] at ho
  obtain ⟨g', c', rfl, _, _⟩ := ho.form (by omega)
  have hg' : w.grownBy w' (Value.slice a m c).ownBlock := grown_trans (World.grownBy_alloc w _ _) hg
  have hat' : (Value.slice (some ⟨g', 0, none⟩) (m + 1) c').ownBlock = (Value.slice a m c).ownBlock ∨ ∀ b, (Value.slice (some ⟨g', 0, none⟩) (m + 1) c').ownBlock = some b → w.heap.size ≤ b := hat.imp id (fun e b hb => by
    rw [e] at hb
    have : (w.alloc o).heap.size = b := Option.some.inj hb
    simp at this; omega)
  obtain ⟨hr, hbx, hmv, hx⟩ := h.rows.app h.box (i := 0) rfl hg' (r' := ⟨.slice (some ⟨g', 0, none⟩) (m + 1) c', m + 1, microsC (M ++ [x]), 98, 3⟩) ho hat' 0 (.slice (some ⟨g', 0, none⟩) (m + 1) c')
  exact ⟨g', c', rfl, hx, ⟨hbx, hr⟩, hmv⟩
set_option maxHeartbeats 4000000 in
set_option maxRecDepth 100000 in
/-- A log entry: three writes; the journal counts it. -/
theorem impl_entry (gj : Nat) (tk n tl : Int) (a : Option Addr) (m c : Nat) (hn : 0 ≤ n ∧ n ≤ 8) (k old : Int) (w : World) (h : Box gj (jnC tk n tl a m c) 105 w) :
    Calls Tryz.prog 187 #[.pointer (some ⟨gj, 0, none⟩), .int .i64 k, .int .i64 old] w
      (fun e w' => ∃ b, e = .returned (.slice (some ⟨b, 0, none⟩) 3 3) ∧ w.heap.size ≤ b ∧ Box b (writesC [⟨9 + 2 * n, k⟩, ⟨10 + 2 * n, old⟩, ⟨8, packV tk (n + 1) tl⟩]).toArray 100 w' ∧ Below w.heap.size (w.setCell ⟨gj, 1, none⟩ (.int .i64 (n + 1))) w') := by
  obtain ⟨q, hq⟩ : ∃ q, packV tk (n + 1) tl = q := ⟨_, rfl⟩
  obtain ⟨p0, hp0⟩ : ∃ p0, 9 + 2 * n = p0 := ⟨_, rfl⟩
  obtain ⟨p1, hp1⟩ : ∃ p1, p0 + 1 = p1 := ⟨_, rfl⟩
  obtain ⟨n1, hn1⟩ : ∃ n1, n + 1 = n1 := ⟨_, rfl⟩
  obtain ⟨n2, hn2⟩ : ∃ n2, 2 * n = n2 := ⟨_, rfl⟩
  have e1 : IntKind.i64.wrap (2 * n) = n2 := by rw [IntWalk.i64_in _ (by omega)]; exact hn2
  have e2 : IntKind.i64.wrap (9 + n2) = p0 := by rw [IntWalk.i64_in _ (by omega)]; omega
  have e3 : IntKind.i64.wrap (p0 + 1) = p1 := by rw [IntWalk.i64_in _ (by omega)]; exact hp1
  have e4 : IntKind.i64.wrap (n + 1) = n1 := by rw [IntWalk.i64_in _ (by omega)]; exact hn1
  have c0 := h.cell 0
  have c1 := h.cell 1
  have c2 := h.cell 2
  have f1 := h.frozen 1
  have HV := Lib.hid (show (writesC [⟨9 + 2 * n, k⟩, ⟨10 + 2 * n, old⟩, ⟨8, packV tk n1 tl⟩]).toArray = #[.int .i64 p0, .int .i64 k, .int .i64 p1, .int .i64 old, .int .i64 8, .int .i64 q] by
    rw [← hn1, hq, hp0, show 10 + 2 * n = p1 by omega]; rfl)
  have HPK := Lib.hid (show ∀ w', Calls Tryz.prog 118 #[.int .i64 tk, .int .i64 n1, .int .i64 tl] w' (Ret w' q) from fun w' => by rw [← hq, ← hn1]; exact impl_pack tk _ tl w')
  obtain ⟨W, hW⟩ : ∃ W, w.setCell ⟨gj, 1, none⟩ (.int .i64 n1) = W := ⟨_, rfl⟩
  have hx := h.set 1 (.int .i64 n1)
  rw [hW] at hx
  have d0 : W.drew.cell? ⟨gj, 0, none⟩ = some (.int .i64 tk) := hx.cell 0
  have d1 : W.drew.cell? ⟨gj, 1, none⟩ = some (.int .i64 n1) := hx.cell 1
  have d2 : W.drew.cell? ⟨gj, 2, none⟩ = some (.int .i64 tl) := hx.cell 2
  have HW := Lib.hid hW
  have hws : W.heap.size = w.heap.size := by rw [← hW]; simp
  rw [hn1]
  clear hq hp0 hp1 hn1 hn2 hn h hx hW
  go_enter Tryz.func187, Tryz.ntmps187
  go_wp2
  rw [HW.out]
  go_region_law (first
    | (go_simp; go_at_call 118; (with_reducible refine (HPK.out _).mono ?_); rintro e w3 ⟨rfl, rfl⟩))
  all_goals
    go_wp2
    go_ret
    rw [HV.out, HW.out]
    have h9 := Box.new W #[.int .i64 p0, .int .i64 k, .int .i64 p1, .int .i64 old, .int .i64 8, .int .i64 q] 100
    have h8 := below_new W (.cells #[.int .i64 p0, .int .i64 k, .int .i64 p1, .int .i64 old, .int .i64 8, .int .i64 q] 100)
    rw [hws] at h9 h8
    exact ⟨w.heap.size, rfl, Nat.le_refl _, h9, h8.drew⟩
end Go.Proofs.YtmgeecdgebemdaaGreatDoor.trc
