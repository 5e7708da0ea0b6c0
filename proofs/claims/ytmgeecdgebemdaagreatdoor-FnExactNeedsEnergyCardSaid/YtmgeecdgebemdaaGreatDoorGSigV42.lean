/- Several texts in one: VJrnB. -/
import Derived.Test.YtmgeecdgebemdaaGreatDoorGSigV41
import Derived.Deep.RegionLaw
import Derived.Deep.RegionHeld3

/- Chapter 14 of the program: the writes of a statement, the steps of a trace, the last write; nothing else that was there is written. -/
namespace Go.Proofs.YtmgeecdgebemdaaGreatDoor.trc
open Go Go.ChangeShapes Go.WideShapes Go.ChangeAt Go.RowKit Go.Proofs.YtmgeecdgebemdaaGreatDoor.row Go.Proofs.YtmgeecdgebemdaaGreatDoor.val Go.Proofs.YtmgeecdgebemdaaGreatDoor.expr Go.Proofs.YtmgeecdgebemdaaGreatDoor.stm Go.Proofs.YtmgeecdgebemdaaGreatDoor.blk Go.Proofs.YtmgeecdgebemdaaGreatDoor.prg Go.Proofs.YtmgeecdgebemdaaGreatDoor.exe Go.Proofs.YtmgeecdgebemdaaGreatDoor.grow Go.Proofs.YtmgeecdgebemdaaGreatDoor.rss Go.Proofs.YtmgeecdgebemdaaGreatDoor.ctl Go.Proofs.YtmgeecdgebemdaaGreatDoor.sets Go.Proofs.YtmgeecdgebemdaaGreatDoor.wrt Go.Proofs.YtmgeecdgebemdaaGreatDoor.mem
/-- The journal after 'L2'; a row of writes in new memory. -/
def AsgOut (B gj : Nat) (a : Option Addr) (m c : Nat) (D : List Int) (tk tl : Int) (L2 : List Int) (Q : List Wt) (w : World) (e : Ending) (w' : World) : Prop :=
  ∃ al nl cl a' m' c', e = .returned (.slice al nl cl) ∧ w'.ownsRow w.heap.size 100 2 (.slice al nl cl) nl (writesC Q) ∧ JnAt B gj a' m' c' D tk tl L2 w' ∧ Mv (jnB gj a m c) w (jnB gj a' m' c') w'
theorem GRowI.of_new (w : World) (k : Int) : Row (w.alloc (.cells #[.int .i64 k] 3)) (some ⟨w.heap.size, 0, none⟩) 1 [k] := by
  have hx := Box.new w #[.int .i64 k] 3
  refine ⟨rfl, fun j hj => ?_⟩
  obtain rfl : j = 0 := by omega
  exact ⟨w.heap.size, 0, k, rfl, hx.lt, rfl, hx.cell 0⟩
theorem writesC_one (L : List Wt) (p v : Int) : writesC L ++ [.int .i64 p, .int .i64 v] = writesC (L ++ [⟨p, v⟩]) := by simp [writesC, gcs, writeC]
theorem mv_grown {l l' : List (Option Nat)} {w w1 w' : World} {r : Option Nat} (h : Mv l w l' w1) (hg : w1.grownBy w' r) (hr : ∀ b, r = some b → w.heap.size ≤ b) : Mv l w l' w' :=
  ⟨hg.os.trans h.os, hg.tape.trans h.tape, hg.output.trans h.output, Nat.le_trans h.size hg.size, fun b hb hn => (hg.block b (Nat.lt_of_lt_of_le hb h.size) (fun e => by have := hr b e.symm; omega)).trans (h.block b hb hn), h.sub⟩
theorem jn_grown {B gj : Nat} {a : Option Addr} {m c : Nat} {D : List Int} {tk tl : Int} {L : List Int} {w w' : World} {r : Option Nat} (h : JnAt B gj a m c D tk tl L w) (hg : w.grownBy w' r) (h1 : some gj ≠ r) (h2 : (Value.slice a m c).ownBlock = none ∨ (Value.slice a m c).ownBlock ≠ r) : JnAt B gj a m c D tk tl L w' :=
  ⟨h.box.grown hg h1, h.rows.low, Nat.lt_of_lt_of_le h.rows.lt hg.size, fun j q hq => by
    match j, hq with
    | 0, hq => cases hq; exact (h.rows.own 0 _ rfl).kept hg h2
    | j + 1, hq => simp at hq, h.rows.sep⟩
theorem below_then' {w w1 w2 : World} (h : Below w.heap.size w w1) (h2 : Below w1.heap.size w1 w2) : Below w.heap.size w w2 := h.trans (h2.mono h.size)
set_option maxHeartbeats 8000000 in
set_option maxRecDepth 100000 in
theorem impl_assignment (B gj : Nat) (a : Option Addr) (m c : Nat) (D : List Int) (tk tl : Int) (L : List Int) (w : World) (h : JnAt B gj a m c D tk tl L w) (hD : Vrs D) (hDl : D.length ≤ 8) (hL : LogInv D L) (k old q : Int) :
    Calls Tryz.prog 143 #[.pointer (some ⟨gj, 0, none⟩), .int .i64 k, .int .i64 old, .int .i64 q] w (AsgOut B gj a m c D tk tl (asgL D k L) (asgP D tk tl old k q L) w) := by
  obtain ⟨i0, hi, hz0, hz1, hz2⟩ := info_parts infoWrite
  obtain ⟨W, hW⟩ : ∃ W, w.alloc (.cells #[] 100) = W := ⟨_, rfl⟩
  have hbW : Below w.heap.size w W := by rw [← hW]; exact below_new w _
  have hWs : W.heap.size = w.heap.size + 1 := by rw [← hW]; simp
  have hm := h.len
  have hu8 := uns_len D L
  have hm8 : m ≤ 8 := by omega
  have hB := h.low
  have hJ := h.below hbW
  have c3 : W.cell? ⟨gj, 3, none⟩ = some (.slice a m c) := hJ.box.cell 3
  have hrow : Row W a m (uns D L) := Row.of_own (hJ.rows.own 0 _ rfl)
  cases hk : decide (k ∈ uns D L)
  · have HK := Lib.hid hk
    have hno : ¬ (k ∈ D ∧ k ∉ L) := by rw [← uns_mem]; simpa using hk
    have HE := Lib.hid (show asgP D tk tl old k q L = [⟨k, q⟩] ∧ asgL D k L = L from ⟨by unfold asgP; rw [if_neg hno], by unfold asgL; rw [if_neg hno]⟩)
    have hOW : W.ownsRow w.heap.size 100 2 (.slice (some ⟨w.heap.size, 0, none⟩) 0 0) 0 (writesC []) := by rw [← hW]; exact World.ownsRow_made w #[] 0 (Nat.le_refl _) (by decide) rfl
    have H0 := Lib.hid (And.intro h (And.intro hbW (And.intro hOW hrow)))
    have hle := hbW.size
    clear hk hno hJ hOW hrow h hbW hm hu8 hD hDl hL hWs
    rw [HE.out.1, HE.out.2]
    go_enter Tryz.func143, Tryz.ntmps143
    go_wp2_with (first
      | (go_at_call 186; (with_reducible refine (impl_hasvar _ a m c (uns D L) k false (by omega) H0.out.2.2.2 HK.out).mono ?_); rintro e w2 ⟨rfl, rfl⟩)
      | (at_builtin; refine wpList_append_own_at _ rfl _ _ 63 rfl w.heap.size 100 i0 (.agg #[.int .i64 0, .int .i64 0]) 2 16 Tryz.underlying63 hi hz0 hz1 hz2 rfl (by decide) _ _ _ rfl (H0.out.2.2.1.alloc _) ⟨W.heap.size, 0, none⟩ 1 1 [.int .i64 k, .int .i64 q] rfl rfl (World.news_of_block (cs := #[.int .i64 k, .int .i64 q]) (t := 100) (fr := (0, 0)) (heap_alloc_new W _)) (by simp [Value.oneCell']) (by unfold maxLen; omega) (by omega) (by simp; omega) ?_; intro v7 w7 hown7 hgrow7 _ hat7; refine Hid.out ?_))
    have hb7 : Below w.heap.size w w7 := (H0.out.2.1.alloc (by omega) _).grown hgrow7 (by show w.heap.size ≤ (W.alloc _).heap.size; simp; omega) (fun j hj => (H0.out.2.2.1.lt j hj).1)
    obtain ⟨g7, c7, rfl, hg7, _⟩ := hown7.form (by omega)
    have H7 := Lib.hid (And.intro hown7 (And.intro (H0.out.1.below hb7) (Mv.of_below (jnB gj a m c) hb7)))
    clear hown7 hgrow7 hat7 hb7 c3
    refine Lib.hid ?_
    go_wp2
    go_ret
    exact ⟨_, _, _, _, _, _, rfl, by have h9 := H7.out.1; rw [writesC_one] at h9; exact h9, H7.out.2.1, H7.out.2.2⟩
  · have HK := Lib.hid hk
    have hyes : k ∈ D ∧ k ∉ L := by rw [← uns_mem]; simpa using hk
    have HE := Lib.hid (show asgP D tk tl old k q L = [⟨9 + 2 * L.length, k⟩, ⟨10 + 2 * L.length, old⟩, ⟨8, packV tk (L.length + 1) tl⟩] ++ [⟨k, q⟩] ∧ asgL D k L = L ++ [k] from ⟨by unfold asgP; rw [if_pos hyes]; rfl, by unfold asgL; rw [if_pos hyes]⟩)
    have hl7 := hL.lt hD hyes
    have hgjl : gj < w.heap.size := h.rows.lt
    have H0 := Lib.hid (And.intro h (And.intro hbW (And.intro hJ hrow)))
    have HU := Lib.hid (uns_snoc D L k)
    have hal : ∀ b, (Value.slice a m c).ownBlock = some b → b < w.heap.size := fun b hb => ((h.rows.own 0 _ rfl).lt b hb).2
    have HAL := Lib.hid hal
    obtain ⟨N, hN⟩ : ∃ N : Int, (L.length : Int) = N := ⟨_, rfl⟩
    have HN := Lib.hid hN
    have HEN := Lib.hid (show ∀ w', Box gj (jnC tk N tl a m c) 105 w' → Calls Tryz.prog 187 #[.pointer (some ⟨gj, 0, none⟩), .int .i64 k, .int .i64 old] w' (fun e w2 => ∃ b, e = .returned (.slice (some ⟨b, 0, none⟩) 3 3) ∧ w'.heap.size ≤ b ∧ Box b (writesC [⟨9 + 2 * N, k⟩, ⟨10 + 2 * N, old⟩, ⟨8, packV tk (N + 1) tl⟩]).toArray 100 w2 ∧ Below w'.heap.size (w'.setCell ⟨gj, 1, none⟩ (.int .i64 (N + 1))) w2) from fun w' hx => impl_entry gj tk N tl a m c (by omega) k old w' hx)
    have HXJ := Lib.hid (show Box gj (jnC tk N tl a m c) 105 W by rw [← hN]; exact hJ.box)
    clear hk hyes hJ hrow h hbW hm hu8 hD hDl hL hl7 hal hN
    rw [HE.out.1, HE.out.2, HN.out]
    go_enter Tryz.func143, Tryz.ntmps143
    go_wp2_with (first
      | (go_at_call 186; (with_reducible refine (impl_hasvar _ a m c (uns D L) k true (by omega) H0.out.2.2.2 HK.out).mono ?_); rintro e w2 ⟨rfl, rfl⟩)
      | (go_at_call 187; (with_reducible refine (HEN.out _ HXJ.out).mono ?_); rintro e w3 ⟨b, rfl, hb, hxb, hb3⟩; refine Hid.out ?_))
    have hgs := grown_setCell W gj 1 (.int .i64 (N + 1))
    have hss : (W.setCell ⟨gj, 1, none⟩ (.int .i64 (N + 1))).heap.size = W.heap.size := by simp
    have hb3' : Below (W.setCell ⟨gj, 1, none⟩ (.int .i64 (N + 1))).heap.size (W.setCell ⟨gj, 1, none⟩ (.int .i64 (N + 1))) w3 := by rw [hss]; exact hb3
    have hx3 : Box gj (jnC tk (N + 1) tl a m c) 105 w3 := (HXJ.out.set 1 (.int .i64 (N + 1))).below hb3'
    have hr3 : RsAt B gj (jnL a m c (uns D L)) w3 := (H0.out.2.2.1.rows.put hgs).below hb3'
    have hm3 : Mv (jnB gj a m c) w (jnB gj a m c) w3 := ((Mv.of_below _ H0.out.2.1).trans (Mv.of_grown (i := 0) rfl hgs (x := some gj) (.inl rfl))).trans (Mv.of_below _ hb3')
    have hs3 := hm3.size
    have d3 : w3.cell? ⟨gj, 3, none⟩ = some (.slice a m c) := hx3.cell 3
    have hlb : b < w3.heap.size := hxb.lt
    obtain ⟨W4, hW4⟩ : ∃ W4, w3.alloc (.cells #[.int .i64 k] 3) = W4 := ⟨_, rfl⟩
    have hb4 : Below w3.heap.size w3 W4 := by rw [← hW4]; exact below_new w3 _
    have hk4 : Row W4 (some ⟨w3.heap.size, 0, none⟩) 1 [k] := by rw [← hW4]; exact GRowI.of_new w3 k
    have HW4 := Lib.hid hW4
    have H4 := Lib.hid (And.intro (hx3.below hb4) (And.intro (hr3.below hb4) (And.intro (hm3.trans (Mv.of_below _ hb4)) (And.intro (hxb.below hb4) hk4))))
    have hs4 := hb4.size
    clear hgs hss hb3' hb3 hx3 hr3 hm3 hxb hb4 hk4 hW4
    refine Lib.hid ?_
    go_wp2_with (go_at_call 104; rw [HW4.out]; (with_reducible refine (impl_without a m c (uns D L) (some ⟨w3.heap.size, 0, none⟩) 1 1 [k] (by omega) (by decide) W4 (Row.of_own (H4.out.2.1.own 0 _ rfl)) H4.out.2.2.2.2).mono ?_); rintro e w5 ⟨a5, m5, c5, rfl, ho5, hb5⟩; refine Hid.out ?_)
    rw [HU.out] at ho5
    obtain ⟨hr6, hx6, hm6, hx5⟩ := H4.out.2.1.app H4.out.1 (i := 0) rfl (grown_below hb5 _) (r' := ⟨.slice a5 m5 c5, m5, ivs (uns D (L ++ [k])), 3, 1⟩) (ho5.mono (by omega)) (.inr (fun b' hb' => (ho5.lt b' hb').1)) 3 (.slice a5 m5 c5)
    have e3 : w5.cell? ⟨gj, 3, none⟩ = some (.slice a m c) := hx5.cell 3
    have f3 : w5.frozen? ⟨gj, 3, none⟩ = false := hx5.frozen 3
    have hbg : b ≠ gj := by omega
    have hxb6 : Box b (writesC [⟨9 + 2 * N, k⟩, ⟨10 + 2 * N, old⟩, ⟨8, packV tk (N + 1) tl⟩]).toArray 100 (w5.setCell ⟨gj, 3, none⟩ (.slice a5 m5 c5)) := (H4.out.2.2.2.1.below hb5).grown (grown_setCell w5 gj 3 _) (fun e => hbg (Option.some.inj e))
    have hs5 := hb5.size
    have hab : (Value.slice a5 m5 c5).ownBlock = none ∨ (Value.slice a5 m5 c5).ownBlock ≠ some b := by
      cases hq9 : (Value.slice a5 m5 c5).ownBlock with
      | none => exact .inl rfl
      | some b' => exact .inr (fun e => by have h9 := (ho5.lt b' hq9).1; have h8 := Option.some.inj e; omega)
    obtain ⟨W6, hW6⟩ : ∃ W6, w5.setCell ⟨gj, 3, none⟩ (.slice a5 m5 c5) = W6 := ⟨_, rfl⟩
    rw [hW6] at hr6 hx6 hm6 hxb6
    have hO6 : W6.ownsRow w.heap.size 100 2 (.slice (some ⟨b, 0, none⟩) 3 3) 3 (writesC [⟨9 + 2 * N, k⟩, ⟨10 + 2 * N, old⟩, ⟨8, packV tk (N + 1) tl⟩]) := ⟨rfl, .inr ⟨b, 3, _, rfl, by omega, hxb6, Nat.le_refl _, by decide, rfl, by simp [writesC, gcs, writeC]⟩⟩
    have hJ6 : JnAt B gj a5 m5 c5 D tk tl (L ++ [k]) W6 := ⟨by have h9 := hx6; rw [List.length_append, List.length_singleton, Int.natCast_add, HN.out]; exact h9, hr6⟩
    have hM6 := H4.out.2.2.1.trans hm6
    have hs6 := hM6.size
    have HO6 := Lib.hid hO6
    have H6 := Lib.hid (And.intro hJ6 (And.intro hM6 hab))
    clear hr6 hx6 hm6 hx5 hxb6 hO6 hJ6 hM6 hab ho5 hb5
    refine Lib.hid ?_
    go_wp2_with (at_builtin; refine wpList_append_own_at _ rfl _ _ 63 rfl w.heap.size 100 i0 (.agg #[.int .i64 0, .int .i64 0]) 2 16 Tryz.underlying63 hi hz0 hz1 hz2 rfl (by decide) _ _ _ rfl (HO6.out.alloc _) ⟨W6.heap.size, 0, none⟩ 1 1 [.int .i64 k, .int .i64 q] rfl rfl (World.news_of_block (cs := #[.int .i64 k, .int .i64 q]) (t := 100) (fr := (0, 0)) (heap_alloc_new W6 _)) (by simp [Value.oneCell']) (by unfold maxLen; omega) (by omega) (by simp; omega) ?_; intro v7 w7 hown7 hgrow7 _ hat7; refine Hid.out ?_)
    obtain ⟨g7, c7, rfl, hg7, _⟩ := hown7.form (by omega)
    have hg76 : W6.grownBy w7 (some b) := grown_trans (World.grownBy_alloc W6 _ _) hgrow7
    have hJ7 := jn_grown H6.out.1 hg76 (fun e => hbg (Option.some.inj e).symm) H6.out.2.2
    have hM7 := mv_grown H6.out.2.1 hg76 (fun b' e => by cases e; omega)
    have H7 := Lib.hid (And.intro hown7 (And.intro hJ7 hM7))
    clear hown7 hgrow7 hat7 hg76 hJ7 hM7 e3 f3 d3 hW6
    refine Lib.hid ?_
    go_wp2
    go_ret
    exact ⟨_, _, _, _, _, _, rfl, by have h9 := H7.out.1; rw [writesC_one] at h9; exact h9, H7.out.2.1, H7.out.2.2⟩
set_option maxHeartbeats 4000000 in
set_option maxRecDepth 100000 in
theorem impl_sending (B gj : Nat) (a : Option Addr) (m c : Nat) (D : List Int) (tk tl : Int) (L : List Int) (w : World) (h : JnAt B gj a m c D tk tl L w) (htl : 0 ≤ tl ∧ tl ≤ 24) (n : Nat) (hn : n ≤ 100000) (q : Int) :
    Calls Tryz.prog 144 #[.pointer (some ⟨gj, 0, none⟩), .int .i64 n, .int .i64 q] w (AsgOut B gj a m c D tk tl L (if tl + n < 24 then [⟨25 + (tl + n), q⟩] else []) w) := by
  have c2 : w.cell? ⟨gj, 2, none⟩ = some (.int .i64 tl) := h.box.cell 2
  obtain ⟨p, hp⟩ : ∃ p, tl + n = p := ⟨_, rfl⟩
  have e1 : IntKind.i64.wrap (tl + n) = p := by rw [IntWalk.i64_in _ (by omega)]; exact hp
  have hp0 : 0 ≤ p ∧ p ≤ 200000 := by omega
  have H := Lib.hid h
  rw [hp]
  clear h hp htl
  by_cases h24 : 24 ≤ p
  · have hd : ¬ p < 24 := by omega
    rw [if_neg hd]
    go_enter Tryz.func144, Tryz.ntmps144
    go_wp2
    go_ret
    exact ⟨_, _, _, _, _, _, rfl, World.ownsRow_nil _ _ _ _, H.out, Mv.refl _ _⟩
  · have hd : p < 24 := by omega
    rw [if_pos hd]
    obtain ⟨p2, hp2⟩ : ∃ p2, 25 + p = p2 := ⟨_, rfl⟩
    have e2 : IntKind.i64.wrap (25 + p) = p2 := by rw [IntWalk.i64_in _ (by omega)]; exact hp2
    rw [hp2]
    clear hp2
    go_enter Tryz.func144, Tryz.ntmps144
    go_wp2
    go_ret
    exact ⟨_, _, _, _, _, _, rfl, ⟨rfl, .inr ⟨w.heap.size, 1, _, rfl, Nat.le_refl _, heap_alloc_new w _, Nat.le_refl _, by decide, rfl, rfl⟩⟩, H.out.below (below_new w _), Mv.of_below _ (below_new w _)⟩
set_option maxHeartbeats 4000000 in
set_option maxRecDepth 100000 in
theorem impl_commit (gj : Nat) (tk n tl : Int) (a : Option Addr) (m c : Nat) (htl : 0 ≤ tl ∧ tl ≤ 24) (nx : Int) (q : Nat) (hq : q ≤ 100000) (X : Int) (hX : packV nx 0 (min 24 (tl + q)) = X) (w : World) (h : Box gj (jnC tk n tl a m c) 105 w) :
    Calls Tryz.prog 85 #[.pointer (some ⟨gj, 0, none⟩), .int .i64 nx, .int .i64 q] w (fun e w' => e = .returned (writeV ⟨8, X⟩) ∧ Below w.heap.size w w') := by
  obtain ⟨W, hW⟩ : ∃ W, w.alloc (.cells #[.int .i64 0, .int .i64 0] 100) = W := ⟨_, rfl⟩
  have hbW : Below w.heap.size w W := by rw [← hW]; exact below_new w _
  have hxW : Box w.heap.size #[.int .i64 0, .int .i64 0] 100 W := by rw [← hW]; exact Box.new w _ _
  have c2 : W.cell? ⟨gj, 2, none⟩ = some (.int .i64 tl) := (h.below hbW).cell 2
  obtain ⟨p, hp⟩ : ∃ p, tl + q = p := ⟨_, rfl⟩
  have e1 : IntKind.i64.wrap (tl + q) = p := by rw [IntWalk.i64_in _ (by omega)]; exact hp
  rw [hp] at hX
  have hpk : ∀ (z : Int), z = min 24 p → ∀ w', Calls Tryz.prog 118 #[.int .i64 nx, .int .i64 0, .int .i64 z] w' (Ret w' X) := fun z hz w' => by rw [← hX, ← hz]; exact impl_pack nx 0 z w'
  have H0 := Lib.hid (And.intro hxW hbW)
  clear h hbW hxW hp hX htl
  have HPK := Lib.hid (hpk (min p 24) (Int.min_comm _ _))
  clear hpk
  go_enter Tryz.func85, Tryz.ntmps85
  go_wp2_with (first
    | (go_at_call 118; (with_reducible refine (HPK.out _).mono ?_); rintro e w3 ⟨rfl, rfl⟩)
    | ((refine wpList_store_box rfl 100 _ _ rfl w.heap.size _ _ H0.out.1 #[.int .i64 8, .int .i64 X] rfl rfl rfl (by kernel_rfl) (by simp [Value.oneCell']) ?_); intro w5 hx5 hg5; refine Hid.out ?_))
  have H5 := Lib.hid (And.intro hx5 (H0.out.2.grown hg5 H0.out.2.size (fun j hj => by cases hj; exact Nat.le_refl _)))
  clear hx5 hg5
  refine Lib.hid ?_
  go_wp2
  refine bodyPost_ret (v := .agg #[.int .i64 8, .int .i64 X]) (results_cell_row rfl _ _ w.heap.size _ _ _ _ rfl H5.out.1 Tryz.underlying100 rfl (by kernel_rfl)) rfl ⟨rfl, H5.out.2⟩
end Go.Proofs.YtmgeecdgebemdaaGreatDoor.trc
