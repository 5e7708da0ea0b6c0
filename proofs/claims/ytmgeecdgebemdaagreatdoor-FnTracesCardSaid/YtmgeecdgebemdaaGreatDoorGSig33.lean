/- Several texts in one: JrnB Wst JrnC. -/
import Derived.Test.YtmgeecdgebemdaaGreatDoorGSig32
import Derived.Deep.RegionLaw
import Derived.Deep.RegionHeld3
import Derived.Test.YtmgeecdgebemdaaGreatDoorGSig4
import Derived.Test.YtmgeecdgebemdaaGreatDoorGSig1

/- Chapter 14 of the program: the writes of a statement, the steps of a trace, the last write; nothing else that was there is written. -/
namespace Go.Proofs.YtmgeecdgebemdaaGreatDoor.trc
open Go Go.ChangeShapes Go.WideShapes Go.ChangeAt Go.RowKit Go.Proofs.YtmgeecdgebemdaaGreatDoor.row Go.Proofs.YtmgeecdgebemdaaGreatDoor.val Go.Proofs.YtmgeecdgebemdaaGreatDoor.expr Go.Proofs.YtmgeecdgebemdaaGreatDoor.stm Go.Proofs.YtmgeecdgebemdaaGreatDoor.blk Go.Proofs.YtmgeecdgebemdaaGreatDoor.prg Go.Proofs.YtmgeecdgebemdaaGreatDoor.exe Go.Proofs.YtmgeecdgebemdaaGreatDoor.grow Go.Proofs.YtmgeecdgebemdaaGreatDoor.rss Go.Proofs.YtmgeecdgebemdaaGreatDoor.ctl Go.Proofs.YtmgeecdgebemdaaGreatDoor.sets Go.Proofs.YtmgeecdgebemdaaGreatDoor.wrt Go.Proofs.YtmgeecdgebemdaaGreatDoor.mem
/-- The journal after 'L2'; a row of writes in new memory. -/
def AsgOut (B gj : Nat) (a : Option Addr) (m c : Nat) (D : List Int) (tk tl : Int) (L2 : List Int) (Q : List Wt) (w : World) (e : Ending) (w' : World) : Prop :=
  ∃ al nl cl a' m' c', e = .returned (.slice al nl cl) ∧ w'.ownsRow w.heap.size 100 2 (.slice al nl cl) nl (writesC Q) ∧ JnAt B gj a' m' c' D tk tl L2 w' ∧ Mv (jnB gj a m c) w (jnB gj a' m' c') w'
theorem GRowI.of_new (w : World) (k : Int) : Row (w.alloc (.cells #[.int .i64 k] 3)) (some ⟨w.heap.size, 0, none⟩) 1 [k] := by
  have hx := Box.new w #[.int .i64 k] 3
  refine ⟨rfl, fun j hj => ?_⟩
  obtain rfl : j = 0 := by omega
  exact ⟨w.heap.size, 0, k, rfl, hx.lt, rfl, hx.cell 0⟩
theorem writesC_one (L : List Wt) (p v : Int) : writesC L ++ [.int .i64 p, .int .i64 v] = writesC (L ++ [⟨p, v⟩]) := by simp [writesC, gcs, writeC]
theorem mv_grown {l l' : List (Option Nat)} {w w1 w' : World} {r : Option Nat} (h : Mv l w l' w1) (hg : w1.grownBy w' r) (hr : ∀ b, r = some b → w.heap.size ≤ b) : Mv l w l' w' :=
  ⟨hg.os.trans h.os, hg.tape.trans h.tape, hg.output.trans h.output, Nat.le_trans h.size hg.size, fun b hb hn => (hg.block b (Nat.lt_of_lt_of_le hb h.size) (fun e => by have := hr b e.symm; omega)).trans (h.block b hb hn), h.sub⟩
theorem jn_grown {B gj : Nat} {a : Option Addr} {m c : Nat} {D : List Int} {tk tl : Int} {L : List Int} {w w' : World} {r : Option Nat} (h : JnAt B gj a m c D tk tl L w) (hg : w.grownBy w' r) (h1 : some gj ≠ r) (h2 : (Value.slice a m c).ownBlock = none ∨ (Value.slice a m c).ownBlock ≠ r) : JnAt B gj a m c D tk tl L w' :=
  ⟨h.box.grown hg h1, h.rows.low, Nat.lt_of_lt_of_le h.rows.lt hg.size, fun j q hq => by
    match j, hq with
    | 0, hq => cases hq; exact (h.rows.own 0 _ rfl).kept hg h2
    | j + 1, hq => simp at hq, h.rows.sep⟩
theorem below_then' {w w1 w2 : World} (h : Below w.heap.size w w1) (h2 : Below w1.heap.size w1 w2) : Below w.heap.size w w2 := h.trans (h2.mono h.size)
set_option maxHeartbeats 8000000 in
set_option maxRecDepth 100000 in
theorem impl_assignment (B gj : Nat) (a : Option Addr) (m c : Nat) (D : List Int) (tk tl : Int) (L : List Int) (w : World) (h : JnAt B gj a m c D tk tl L w) (hD : Vrs D) (hDl : D.length ≤ 8) (hL : LogInv D L) (k old q : Int) :
    Calls Tryz.prog 143 #[.pointer (some ⟨gj, 0, none⟩), .int .i64 k, .int .i64 old, .int .i64 q] w (AsgOut B gj a m c D tk tl (asgL D k L) (asgP D tk tl old k q L) w) := by
  obtain ⟨i0, hi, hz0, hz1, hz2⟩ := info_parts infoWrite
  obtain ⟨W, hW⟩ : ∃ W, w.alloc (.cells #[] 100) = W := ⟨_, rfl⟩
  have hbW : Below w.heap.size w W := by rw [← hW]; exact below_new w _
  have hWs : W.heap.size = w.heap.size + 1 := by rw [← hW]; simp
  have hm := h.len
  have hu8 := uns_len D L
  have hm8 : m ≤ 8 := by omega
  have hB := h.low
  have hJ := h.below hbW
  have c3 : W.cell? ⟨gj, 3, none⟩ = some (.slice a m c) := hJ.box.cell 3
  have hrow : Row W a m (uns D L) := Row.of_own (hJ.rows.own 0 _ rfl)
  cases hk : decide (k ∈ uns D L)
  · have HK := Lib.hid hk
    have hno : ¬ (k ∈ D ∧ k ∉ L) := by rw [← uns_mem]; simpa using hk
    have HE := Lib.hid (show asgP D tk tl old k q L = [⟨k, q⟩] ∧ asgL D k L = L from ⟨by unfold asgP; rw [if_neg hno], by unfold asgL; rw [if_neg hno]⟩)
    have hOW : W.ownsRow w.heap.size 100 2 (.slice (some ⟨w.heap.size, 0, none⟩) 0 0) 0 (writesC []) := by rw [← hW]; exact World.ownsRow_made w #[] 0 (Nat.le_refl _) (by decide) rfl
    have H0 := Lib.hid (And.intro h (And.intro hbW (And.intro hOW hrow)))
    have hle := hbW.size
    clear hk hno hJ hOW hrow h hbW hm hu8 hD hDl hL hWs
    rw [HE.out.1, HE.out.2]
    go_enter Tryz.func143, Tryz.ntmps143
    go_wp2_with (first
      | (go_at_call 186; (with_reducible refine (impl_hasvar _ a m c (uns D L) k false (by omega) H0.out.2.2.2 HK.out).mono ?_); rintro e w2 ⟨rfl, rfl⟩)
      | (at_builtin; refine wpList_append_own_at _ rfl _ _ 63 rfl w.heap.size 100 i0 (.agg #[.int .i64 0, .int .i64 0]) 2 16 Tryz.underlying63 hi hz0 hz1 hz2 rfl (by decide) _ _ _ rfl (H0.out.2.2.1.alloc _) ⟨W.heap.size, 0, none⟩ 1 1 [.int .i64 k, .int .i64 q] rfl rfl (World.news_of_block (cs := #[.int .i64 k, .int .i64 q]) (t := 100) (fr := (0, 0)) (heap_alloc_new W _)) (by simp [Value.oneCell']) (by unfold maxLen; omega) (by omega) (by simp; omega) ?_; intro v7 w7 hown7 hgrow7 _ hat7; refine Hid.out ?_))
    have hb7 : Below w.heap.size w w7 := (H0.out.2.1.alloc (by omega) _).grown hgrow7 (by show w.heap.size ≤ (W.alloc _).heap.size; simp; omega) (fun j hj => (H0.out.2.2.1.lt j hj).1)
    obtain ⟨g7, c7, rfl, hg7, _⟩ := hown7.form (by omega)
    have H7 := Lib.hid (And.intro hown7 (And.intro (H0.out.1.below hb7) (Mv.of_below (jnB gj a m c) hb7)))
    clear hown7 hgrow7 hat7 hb7 c3
    refine Lib.hid ?_
    go_wp2
    go_ret
    exact ⟨_, _, _, _, _, _, rfl, by have h9 := H7.out.1; rw [writesC_one] at h9; exact h9, H7.out.2.1, H7.out.2.2⟩
  · have HK := Lib.hid hk
    have hyes : k ∈ D ∧ k ∉ L := by rw [← uns_mem]; simpa using hk
    have HE := Lib.hid (show asgP D tk tl old k q L = [⟨9 + 2 * L.length, k⟩, ⟨10 + 2 * L.length, old⟩, ⟨8, packV tk (L.length + 1) tl⟩] ++ [⟨k, q⟩] ∧ asgL D k L = L ++ [k] from ⟨by unfold asgP; rw [if_pos hyes]; rfl, by unfold asgL; rw [if_pos hyes]⟩)
    have hl7 := hL.lt hD hyes
    have hgjl : gj < w.heap.size := h.rows.lt
    have H0 := Lib.hid (And.intro h (And.intro hbW (And.intro hJ hrow)))
    have HU := Lib.hid (uns_snoc D L k)
    have hal : ∀ b, (Value.slice a m c).ownBlock = some b → b < w.heap.size := fun b hb => ((h.rows.own 0 _ rfl).lt b hb).2
    have HAL := Lib.hid hal
    obtain ⟨N, hN⟩ : ∃ N : Int, (L.length : Int) = N := ⟨_, rfl⟩
    have HN := Lib.hid hN
    have HEN := Lib.hid (show ∀ w', Box gj (jnC tk N tl a m c) 105 w' → Calls Tryz.prog 187 #[.pointer (some ⟨gj, 0, none⟩), .int .i64 k, .int .i64 old] w' (fun e w2 => ∃ b, e = .returned (.slice (some ⟨b, 0, none⟩) 3 3) ∧ w'.heap.size ≤ b ∧ Box b (writesC [⟨9 + 2 * N, k⟩, ⟨10 + 2 * N, old⟩, ⟨8, packV tk (N + 1) tl⟩]).toArray 100 w2 ∧ Below w'.heap.size (w'.setCell ⟨gj, 1, none⟩ (.int .i64 (N + 1))) w2) from fun w' hx => impl_entry gj tk N tl a m c (by omega) k old w' hx)
    have HXJ := Lib.hid (show Box gj (jnC tk N tl a m c) 105 W by rw [← hN]; exact hJ.box)
    clear hk hyes hJ hrow h hbW hm hu8 hD hDl hL hl7 hal hN
    rw [HE.out.1, HE.out.2, HN.out]
    go_enter Tryz.func143, Tryz.ntmps143
    go_wp2_with (first
      | (go_at_call 186; (with_reducible refine (impl_hasvar _ a m c (uns D L) k true (by omega) H0.out.2.2.2 HK.out).mono ?_); rintro e w2 ⟨rfl, rfl⟩)
      | (go_at_call 187; (with_reducible refine (HEN.out _ HXJ.out).mono ?_); rintro e w3 ⟨b, rfl, hb, hxb, hb3⟩; refine Hid.out ?_))
    have hgs := grown_setCell W gj 1 (.int .i64 (N + 1))
    have hss : (W.setCell ⟨gj, 1, none⟩ (.int .i64 (N + 1))).heap.size = W.heap.size := by simp
    have hb3' : Below (W.setCell ⟨gj, 1, none⟩ (.int .i64 (N + 1))).heap.size (W.setCell ⟨gj, 1, none⟩ (.int .i64 (N + 1))) w3 := by rw [hss]; exact hb3
    have hx3 : Box gj (jnC tk (N + 1) tl a m c) 105 w3 := (HXJ.out.set 1 (.int .i64 (N + 1))).below hb3'
    have hr3 : RsAt B gj (jnL a m c (uns D L)) w3 := (H0.out.2.2.1.rows.put hgs).below hb3'
    have hm3 : Mv (jnB gj a m c) w (jnB gj a m c) w3 := ((Mv.of_below _ H0.out.2.1).trans (Mv.of_grown (i := 0) rfl hgs (x := some gj) (.inl rfl))).trans (Mv.of_below _ hb3')
    have hs3 := hm3.size
    have d3 : w3.cell? ⟨gj, 3, none⟩ = some (.slice a m c) := hx3.cell 3
    have hlb : b < w3.heap.size := hxb.lt
    obtain ⟨W4, hW4⟩ : ∃ W4, w3.alloc (.cells #[.int .i64 k] 3) = W4 := ⟨_, rfl⟩
    have hb4 : Below w3.heap.size w3 W4 := by rw [← hW4]; exact below_new w3 _
    have hk4 : Row W4 (some ⟨w3.heap.size, 0, none⟩) 1 [k] := by rw [← hW4]; exact GRowI.of_new w3 k
    have HW4 := Lib.hid hW4
    have H4 := Lib.hid (And.intro (hx3.below hb4) (And.intro (hr3.below hb4) (And.intro (hm3.trans (Mv.of_below _ hb4)) (And.intro (hxb.below hb4) hk4))))
    have hs4 := hb4.size
    clear hgs hss hb3' hb3 hx3 hr3 hm3 hxb hb4 hk4 hW4
    refine Lib.hid ?_
    go_wp2_with (go_at_call 104; rw [HW4.out]; (with_reducible refine (impl_without a m c (uns D L) (some ⟨w3.heap.size, 0, none⟩) 1 1 [k] (by omega) (by decide) W4 (Row.of_own (H4.out.2.1.own 0 _ rfl)) H4.out.2.2.2.2).mono ?_); rintro e w5 ⟨a5, m5, c5, rfl, ho5, hb5⟩; refine Hid.out ?_)
    rw [HU.out] at ho5
    obtain ⟨hr6, hx6, hm6, hx5⟩ := H4.out.2.1.app H4.out.1 (i := 0) rfl (grown_below hb5 _) (r' := ⟨.slice a5 m5 c5, m5, ivs (uns D (L ++ [k])), 3, 1⟩) (ho5.mono (by omega)) (.inr (fun b' hb' => (ho5.lt b' hb').1)) 3 (.slice a5 m5 c5)
    have e3 : w5.cell? ⟨gj, 3, none⟩ = some (.slice a m c) := hx5.cell 3
    have f3 : w5.frozen? ⟨gj, 3, none⟩ = false := hx5.frozen 3
    have hbg : b ≠ gj := by omega
    have hxb6 : Box b (writesC [⟨9 + 2 * N, k⟩, ⟨10 + 2 * N, old⟩, ⟨8, packV tk (N + 1) tl⟩]).toArray 100 (w5.setCell ⟨gj, 3, none⟩ (.slice a5 m5 c5)) := (H4.out.2.2.2.1.below hb5).grown (grown_setCell w5 gj 3 _) (fun e => hbg (Option.some.inj e))
    have hs5 := hb5.size
    have hab : (Value.slice a5 m5 c5).ownBlock = none ∨ (Value.slice a5 m5 c5).ownBlock ≠ some b := by
      cases hq9 : (Value.slice a5 m5 c5).ownBlock with
      | none => exact .inl rfl
      | some b' => exact .inr (fun e => by have h9 := (ho5.lt b' hq9).1; have h8 := Option.some.inj e; omega)
    obtain ⟨W6, hW6⟩ : ∃ W6, w5.setCell ⟨gj, 3, none⟩ (.slice a5 m5 c5) = W6 := ⟨_, rfl⟩
    rw [hW6] at hr6 hx6 hm6 hxb6
    have hO6 : W6.ownsRow w.heap.size 100 2 (.slice (some ⟨b, 0, none⟩) 3 3) 3 (writesC [⟨9 + 2 * N, k⟩, ⟨10 + 2 * N, old⟩, ⟨8, packV tk (N + 1) tl⟩]) := ⟨rfl, .inr ⟨b, 3, _, rfl, by omega, hxb6, Nat.le_refl _, by decide, rfl, by simp [writesC, gcs, writeC]⟩⟩
    have hJ6 : JnAt B gj a5 m5 c5 D tk tl (L ++ [k]) W6 := ⟨by have h9 := hx6; rw [List.length_append, List.length_singleton, Int.natCast_add, HN.out]; exact h9, hr6⟩
    have hM6 := H4.out.2.2.1.trans hm6
    have hs6 := hM6.size
    have HO6 := Lib.hid hO6
    have H6 := Lib.hid (And.intro hJ6 (And.intro hM6 hab))
    clear hr6 hx6 hm6 hx5 hxb6 hO6 hJ6 hM6 hab ho5 hb5
    refine Lib.hid ?_
    go_wp2_with (at_builtin; refine wpList_append_own_at _ rfl _ _ 63 rfl w.heap.size 100 i0 (.agg #[.int .i64 0, .int .i64 0]) 2 16 Tryz.underlying63 hi hz0 hz1 hz2 rfl (by decide) _ _ _ rfl (HO6.out.alloc _) ⟨W6.heap.size, 0, none⟩ 1 1 [.int .i64 k, .int .i64 q] rfl rfl (World.news_of_block (cs := #[.int .i64 k, .int .i64 q]) (t := 100) (fr := (0, 0)) (heap_alloc_new W6 _)) (by simp [Value.oneCell']) (by unfold maxLen; omega) (by omega) (by simp; omega) ?_; intro v7 w7 hown7 hgrow7 _ hat7; refine Hid.out ?_)
    obtain ⟨g7, c7, rfl, hg7, _⟩ := hown7.form (by omega)
    have hg76 : W6.grownBy w7 (some b) := grown_trans (World.grownBy_alloc W6 _ _) hgrow7
    have hJ7 := jn_grown H6.out.1 hg76 (fun e => hbg (Option.some.inj e).symm) H6.out.2.2
    have hM7 := mv_grown H6.out.2.1 hg76 (fun b' e => by cases e; omega)
    have H7 := Lib.hid (And.intro hown7 (And.intro hJ7 hM7))
    clear hown7 hgrow7 hat7 hg76 hJ7 hM7 e3 f3 d3 hW6
    refine Lib.hid ?_
    go_wp2
    go_ret
    exact ⟨_, _, _, _, _, _, rfl, by have h9 := H7.out.1; rw [writesC_one] at h9; exact h9, H7.out.2.1, H7.out.2.2⟩
set_option maxHeartbeats 4000000 in
set_option maxRecDepth 100000 in
theorem impl_sending (B gj : Nat) (a : Option Addr) (m c : Nat) (D : List Int) (tk tl : Int) (L : List Int) (w : World) (h : JnAt B gj a m c D tk tl L w) (htl : 0 ≤ tl ∧ tl ≤ 24) (n : Nat) (hn : n ≤ 100000) (q : Int) :
    Calls Tryz.prog 144 #[.pointer (some ⟨gj, 0, none⟩), .int .i64 n, .int .i64 q] w (AsgOut B gj a m c D tk tl L (if tl + n < 24 then [⟨25 + (tl + n), q⟩] else []) w) := by
  have c2 : w.cell? ⟨gj, 2, none⟩ = some (.int .i64 tl) := h.box.cell 2
  obtain ⟨p, hp⟩ : ∃ p, tl + n = p := ⟨_, rfl⟩
  have e1 : IntKind.i64.wrap (tl + n) = p := by rw [IntWalk.i64_in _ (by omega)]; exact hp
  have hp0 : 0 ≤ p ∧ p ≤ 200000 := by omega
  have H := Lib.hid h
  rw [hp]
  clear h hp htl
  by_cases h24 : 24 ≤ p
  · have hd : ¬ p < 24 := by omega
    rw [if_neg hd]
    go_enter Tryz.func144, Tryz.ntmps144
    go_wp2
    go_ret
    exact ⟨_, _, _, _, _, _, rfl, World.ownsRow_nil _ _ _ _, H.out, Mv.refl _ _⟩
  · have hd : p < 24 := by omega
    rw [if_pos hd]
    obtain ⟨p2, hp2⟩ : ∃ p2, 25 + p = p2 := ⟨_, rfl⟩
    have e2 : IntKind.i64.wrap (25 + p) = p2 := by rw [IntWalk.i64_in _ (by omega)]; exact hp2
    rw [hp2]
    clear hp2
    go_enter Tryz.func144, Tryz.ntmps144
    go_wp2
    go_ret
    exact ⟨_, _, _, _, _, _, rfl, ⟨rfl, .inr ⟨w.heap.size, 1, _, rfl, Nat.le_refl _, heap_alloc_new w _, Nat.le_refl _, by decide, rfl, rfl⟩⟩, H.out.below (below_new w _), Mv.of_below _ (below_new w _)⟩
set_option maxHeartbeats 4000000 in
set_option maxRecDepth 100000 in
theorem impl_commit (gj : Nat) (tk n tl : Int) (a : Option Addr) (m c : Nat) (htl : 0 ≤ tl ∧ tl ≤ 24) (nx : Int) (q : Nat) (hq : q ≤ 100000) (X : Int) (hX : packV nx 0 (min 24 (tl + q)) = X) (w : World) (h : Box gj (jnC tk n tl a m c) 105 w) :
    Calls Tryz.prog 85 #[.pointer (some ⟨gj, 0, none⟩), .int .i64 nx, .int .i64 q] w (fun e w' => e = .returned (writeV ⟨8, X⟩) ∧ Below w.heap.size w w') := by
  obtain ⟨W, hW⟩ : ∃ W, w.alloc (.cells #[.int .i64 0, .int .i64 0] 100) = W := ⟨_, rfl⟩
  have hbW : Below w.heap.size w W := by rw [← hW]; exact below_new w _
  have hxW : Box w.heap.size #[.int .i64 0, .int .i64 0] 100 W := by rw [← hW]; exact Box.new w _ _
  have c2 : W.cell? ⟨gj, 2, none⟩ = some (.int .i64 tl) := (h.below hbW).cell 2
  obtain ⟨p, hp⟩ : ∃ p, tl + q = p := ⟨_, rfl⟩
  have e1 : IntKind.i64.wrap (tl + q) = p := by rw [IntWalk.i64_in _ (by omega)]; exact hp
  rw [hp] at hX
  have hpk : ∀ (z : Int), z = min 24 p → ∀ w', Calls Tryz.prog 118 #[.int .i64 nx, .int .i64 0, .int .i64 z] w' (Ret w' X) := fun z hz w' => by rw [← hX, ← hz]; exact impl_pack nx 0 z w'
  have H0 := Lib.hid (And.intro hxW hbW)
  clear h hbW hxW hp hX htl
  have HPK := Lib.hid (hpk (min p 24) (Int.min_comm _ _))
  clear hpk
  go_enter Tryz.func85, Tryz.ntmps85
  go_wp2_with (first
    | (go_at_call 118; (with_reducible refine (HPK.out _).mono ?_); rintro e w3 ⟨rfl, rfl⟩)
    | ((refine wpList_store_box rfl 100 _ _ rfl w.heap.size _ _ H0.out.1 #[.int .i64 8, .int .i64 X] rfl rfl rfl (by kernel_rfl) (by simp [Value.oneCell']) ?_); intro w5 hx5 hg5; refine Hid.out ?_))
  have H5 := Lib.hid (And.intro hx5 (H0.out.2.grown hg5 H0.out.2.size (fun j hj => by cases hj; exact Nat.le_refl _)))
  clear hx5 hg5
  refine Lib.hid ?_
  go_wp2
  refine bodyPost_ret (v := .agg #[.int .i64 8, .int .i64 X]) (results_cell_row rfl _ _ w.heap.size _ _ _ _ rfl H5.out.1 Tryz.underlying100 rfl (by kernel_rfl)) rfl ⟨rfl, H5.out.2⟩
end Go.Proofs.YtmgeecdgebemdaaGreatDoor.trc

/- The program's step of a write. -/
namespace Go.Proofs.YtmgeecdgebemdaaGreatDoor.trc
open Go Go.ChangeShapes Go.WideShapes Go.ChangeAt Go.RowKit Go.Proofs.YtmgeecdgebemdaaGreatDoor.row Go.Proofs.YtmgeecdgebemdaaGreatDoor.val Go.Proofs.YtmgeecdgebemdaaGreatDoor.expr
set_option maxHeartbeats 2000000 in
set_option maxRecDepth 100000 in
theorem impl_wstep (p v : Int) (w : World) : Calls Tryz.prog 78 #[.agg #[.int .i64 p, .int .i64 v]] w fun e w' => e = .returned (.agg #[.int .i64 3, .int .i64 p, .int .i64 v]) ∧ Below w.heap.size w w' := by
  obtain ⟨W, hW⟩ : ∃ W, (w.alloc (.cells #[.int .i64 p, .int .i64 v] 100)).alloc (.cells #[.int .i64 0, .int .i64 0, .int .i64 0] 98) = W := ⟨_, rfl⟩
  have hBW : Below w.heap.size w W := by rw [← hW]; exact below_then (below_new w _) (below_new _ _)
  have hx : Box w.heap.size #[.int .i64 p, .int .i64 v] 100 W := by rw [← hW]; exact (Box.new w _ _).alloc _
  have hy : Box (w.heap.size + 1) #[.int .i64 0, .int .i64 0, .int .i64 0] 98 W := by
    have h9 := Box.new (w.alloc (.cells #[.int .i64 p, .int .i64 v] 100)) #[.int .i64 0, .int .i64 0, .int .i64 0] 98
    rw [World.size_alloc] at h9
    rw [← hW]; exact h9
  have x0 : W.cell? ⟨w.heap.size, 0, none⟩ = some (.int .i64 p) := hx.cell 0
  have x1 : W.cell? ⟨w.heap.size, 1, none⟩ = some (.int .i64 v) := hx.cell 1
  have H0 := Lib.hid (And.intro hBW hy)
  clear hBW hx hy
  go_enter Tryz.func78, Tryz.ntmps78
  go_wp2_with (refine wpList_store_box rfl 98 _ _ rfl (w.heap.size + 1) _ _ H0.out.2 #[.int .i64 3, .int .i64 p, .int .i64 v] rfl rfl rfl (by kernel_rfl) (by simp [Value.oneCell']) ?_; intro w6 hx6 hg6)
  refine bodyPost_ret (v := .agg #[.int .i64 3, .int .i64 p, .int .i64 v]) (results_cell_row rfl _ _ (w.heap.size + 1) _ #[.int .i64 3, .int .i64 p, .int .i64 v] _ _ rfl hx6 Tryz.underlying98 rfl (by kernel_rfl)) rfl ?_
  exact ⟨rfl, H0.out.1.grown hg6 H0.out.1.size (fun k hk => by cases hk; omega)⟩
end Go.Proofs.YtmgeecdgebemdaaGreatDoor.trc

/- Chapter 14 of the program: the writes of a statement that is told, the steps that are added; nothing else that was there is written. -/
namespace Go.Proofs.YtmgeecdgebemdaaGreatDoor.trc
open Go Go.ChangeShapes Go.WideShapes Go.ChangeAt Go.RowKit Go.Proofs.YtmgeecdgebemdaaGreatDoor.row Go.Proofs.YtmgeecdgebemdaaGreatDoor.val Go.Proofs.YtmgeecdgebemdaaGreatDoor.expr Go.Proofs.YtmgeecdgebemdaaGreatDoor.stm Go.Proofs.YtmgeecdgebemdaaGreatDoor.blk Go.Proofs.YtmgeecdgebemdaaGreatDoor.prg Go.Proofs.YtmgeecdgebemdaaGreatDoor.exe Go.Proofs.YtmgeecdgebemdaaGreatDoor.grow Go.Proofs.YtmgeecdgebemdaaGreatDoor.rss Go.Proofs.YtmgeecdgebemdaaGreatDoor.ctl Go.Proofs.YtmgeecdgebemdaaGreatDoor.sets Go.Proofs.YtmgeecdgebemdaaGreatDoor.wrt Go.Proofs.YtmgeecdgebemdaaGreatDoor.mem
theorem wr_iff (s : Sm) : wr s ↔ (s.k = 1 ∨ s.k = 2) := Iff.rfl
set_option maxHeartbeats 8000000 in
set_option maxRecDepth 100000 in
/-- The writes of a statement that is told. -/
theorem impl_stmtwrites (B gj : Nat) (a : Option Addr) (m c : Nat) (D : List Int) (tk tl : Int) (L : List Int) (w : World) (h : JnAt B gj a m c D tk tl L w) (hD : Vrs D) (hDl : D.length ≤ 8) (hL : LogInv D L) (htl : 0 ≤ tl ∧ tl ≤ 24)
    (gv cv : Nat) (a1 : Option Addr) (n1 c1 : Nat) (a2 : Option Addr) (n2 c2 : Nat) (fk1 fk2 : Fn) (fc1 fc2 : Array Value) (x : Sx) (hV : Row w (some ⟨gv, 0, none⟩) 8 x.V) (hS : x.S.length = n1) (hn1 : n1 ≤ 100000) (s : Sm) (hs : stOk s = true) (v : Int) :
    Calls Tryz.prog 83 #[.pointer (some ⟨gj, 0, none⟩), .agg #[.slice (some ⟨gv, 0, none⟩) 8 cv, .slice a1 n1 c1, .slice a2 n2 c2, .func fk1 #[] fc1, .func fk2 #[] fc2], .agg (stmA s), .int .i64 v] w (AsgOut B gj a m c D tk tl (addL D s L) (addP D tk tl s x v L) w) := by
  obtain ⟨W, hW⟩ : ∃ W, (w.alloc (.cells #[.slice (some ⟨gv, 0, none⟩) 8 cv, .slice a1 n1 c1, .slice a2 n2 c2, .func fk1 #[] fc1, .func fk2 #[] fc2] 110)).alloc (.cells (stmA s) 112) = W := ⟨_, rfl⟩
  have hbW : Below w.heap.size w W := by rw [← hW]; exact below_then (below_new w _) (below_new _ _)
  have hx1 : Box w.heap.size #[.slice (some ⟨gv, 0, none⟩) 8 cv, .slice a1 n1 c1, .slice a2 n2 c2, .func fk1 #[] fc1, .func fk2 #[] fc2] 110 W := by rw [← hW]; exact (Box.new w _ _).alloc _
  have hx2 : Box (w.heap.size + 1) (stmA s) 112 W := by
    have h9 := Box.new (w.alloc (.cells #[.slice (some ⟨gv, 0, none⟩) 8 cv, .slice a1 n1 c1, .slice a2 n2 c2, .func fk1 #[] fc1, .func fk2 #[] fc2] 110)) (stmA s) 112
    rw [World.size_alloc] at h9
    rw [← hW]; exact h9
  obtain ⟨rw0, hrw⟩ : ∃ r : Bool, r = true ↔ wr s := by
    rcases Classical.em (wr s) with h | h
    · exact ⟨true, by simp [h]⟩
    · exact ⟨false, by simp [h]⟩
  have HWR := Lib.hid (show ∀ w', Calls Tryz.prog 142 #[.agg (stmA s)] w' (BelB w' rw0) from fun w' => impl_writes s rw0 hrw w')
  have H0 := Lib.hid (And.intro hx1 (And.intro hx2 (And.intro hbW (h.below hbW))))
  cases rw0
  · have hno : ¬ (s.k = 1 ∨ s.k = 2) := fun e => by have := hrw.2 e; cases this
    have HL2 := Lib.hid (show addL D s L = L by unfold addL; rw [if_neg hno])
    by_cases h3 : s.k = 3
    · obtain ⟨Q, hQ⟩ : ∃ Q : List Wt, (if tl + (n1 : Int) < 24 then [⟨25 + (tl + n1), v⟩] else []) = Q := ⟨_, rfl⟩
      have HP2 := Lib.hid (show addP D tk tl s x v L = Q by unfold addP; rw [if_neg hno, if_pos h3, hS, hQ])
      have HSE := Lib.hid (show ∀ w', JnAt B gj a m c D tk tl L w' → Calls Tryz.prog 144 #[.pointer (some ⟨gj, 0, none⟩), .int .i64 n1, .int .i64 v] w' (AsgOut B gj a m c D tk tl L Q w') from fun w' hj => by rw [← hQ]; exact impl_sending B gj a m c D tk tl L w' hj htl n1 hn1 v)
      have k0 : W.cell? ⟨w.heap.size + 1, 0, none⟩ = some (.int .i64 3) := by rw [← h3]; exact hx2.cell 0
      have HB0 := Lib.hid hbW
      clear hQ h hD hDl hL htl hV hS hn1 hs hbW hx1 hrw hno h3
      rw [HL2.out, HP2.out]
      go_enter Tryz.func83, Tryz.ntmps83
      go_wp2_with (first
        | (refine wpList_load_row rfl 112 _ rfl (w.heap.size + 1) rfl _ _ _ _ H0.out.2.1 Tryz.underlying112 rfl (by kernel_rfl) ?_)
        | (go_at_call 142; (with_reducible refine (HWR.out _).mono ?_); rintro e w2 ⟨rfl, hb2⟩; refine Hid.out ?_))
      have k02 : w2.cell? ⟨w.heap.size + 1, 0, none⟩ = some (.int .i64 3) := (hb2.cell (p := ⟨w.heap.size + 1, 0, none⟩) hx2.lt).trans k0
      have k12 : w2.cell? ⟨w.heap.size, 1, none⟩ = some (.slice a1 n1 c1) := (H0.out.1.below hb2).cell 1
      have H2 := Lib.hid (And.intro (H0.out.2.2.2.below hb2) (below_then' HB0.out hb2))
      clear hb2 k0
      refine Lib.hid ?_
      go_wp2_with (go_at_call 144; (with_reducible refine (HSE.out _ H2.out.1).mono ?_); rintro e w3 ⟨al, nl, cl, a', m', c', rfl, ho3, hj3, hm3⟩; refine Hid.out ?_)
      have H3 := Lib.hid (And.intro (ho3.mono H2.out.2.size) (And.intro hj3 ((Mv.of_below (jnB gj a m c) H2.out.2).trans hm3)))
      clear ho3 hj3 hm3
      refine Lib.hid ?_
      go_wp2
      go_ret
      exact ⟨_, _, _, _, _, _, rfl, H3.out⟩
    · have HP2 := Lib.hid (show addP D tk tl s x v L = [] by unfold addP; rw [if_neg hno, if_neg h3])
      have k0 : W.cell? ⟨w.heap.size + 1, 0, none⟩ = some (.int .i64 s.k) := hx2.cell 0
      have h3b : (s.k == 3) = false := by simpa using h3
      have HB0 := Lib.hid hbW
      clear h hD hDl hL htl hV hS hn1 hs hbW hx1 hrw hno h3
      rw [HL2.out, HP2.out]
      go_enter Tryz.func83, Tryz.ntmps83
      go_wp2_with (first
        | (refine wpList_load_row rfl 112 _ rfl (w.heap.size + 1) rfl _ _ _ _ H0.out.2.1 Tryz.underlying112 rfl (by kernel_rfl) ?_)
        | (go_at_call 142; (with_reducible refine (HWR.out _).mono ?_); rintro e w2 ⟨rfl, hb2⟩; refine Hid.out ?_))
      have k02 : w2.cell? ⟨w.heap.size + 1, 0, none⟩ = some (.int .i64 s.k) := (hb2.cell (p := ⟨w.heap.size + 1, 0, none⟩) hx2.lt).trans k0
      have H2 := Lib.hid (And.intro (H0.out.2.2.2.below hb2) (below_then' HB0.out hb2))
      clear hb2 k0
      refine Lib.hid ?_
      go_wp2
      go_ret
      exact ⟨_, _, _, _, _, _, rfl, World.ownsRow_nil _ _ _ _, H2.out.1, Mv.of_below _ H2.out.2⟩
  · have hyes : s.k = 1 ∨ s.k = 2 := hrw.1 rfl
    have HL2 := Lib.hid (show addL D s L = asgL D s.v L by unfold addL; rw [if_pos hyes])
    obtain ⟨u, hu, hu8⟩ : ∃ u : Nat, s.v = u ∧ u < 8 := by have := st_var hs hyes; exact ⟨s.v.toNat, by omega, by omega⟩
    obtain ⟨ow, how⟩ : ∃ ow, x.V.getD u 0 = ow := ⟨_, rfl⟩
    have HP2 := Lib.hid (show addP D tk tl s x v L = asgP D tk tl ow u v L by unfold addP; rw [if_pos hyes, hu, show ((u : Int)).toNat = u by omega, how])
    have HAS := Lib.hid (show ∀ w', JnAt B gj a m c D tk tl L w' → Calls Tryz.prog 143 #[.pointer (some ⟨gj, 0, none⟩), .int .i64 u, .int .i64 ow, .int .i64 v] w' (AsgOut B gj a m c D tk tl (asgL D u L) (asgP D tk tl ow u v L) w') from fun w' hj => impl_assignment B gj a m c D tk tl L w' hj hD hDl hL u ow v)
    obtain ⟨b, off, y, he, hbl, hy, hcy⟩ := hV.2 u hu8
    cases he
    obtain rfl : y = ow := by rw [← how, List.getD_eq_getElem?_getD, hy]; rfl
    have hv2 : Below w.heap.size w W := hbW
    have cv0 : W.cell? ⟨gv, 0 + u, none⟩ = some (.int .i64 y) := (hbW.cell (p := ⟨gv, 0 + u, none⟩) hbl).trans hcy
    rw [Nat.zero_add] at cv0
    have hu0 : (0 : Int) ≤ (u : Int) := by omega
    have hu9 : (u : Int) < 8 := by omega
    have hgvl : gv < W.heap.size := Nat.lt_of_lt_of_le hbl hbW.size
    have HB0 := Lib.hid hbW
    have HUE := Lib.hid hu
    clear h hD hDl hL htl hV hS hn1 hs hbW hx1 hrw hyes hy hcy hv2 how
    rw [HL2.out, HP2.out, hu]
    clear hu
    go_enter Tryz.func83, Tryz.ntmps83
    go_wp2_with (first
      | (refine wpList_load_row rfl 112 _ rfl (w.heap.size + 1) rfl _ _ _ _ H0.out.2.1 Tryz.underlying112 rfl (by kernel_rfl) ?_)
      | (go_at_call 142; (with_reducible refine (HWR.out _).mono ?_); rintro e w2 ⟨rfl, hb2⟩; refine Hid.out ?_))
    have k12 : w2.drew.cell? ⟨w.heap.size + 1, 1, none⟩ = some (.int .i64 (u : Int)) := by rw [← HUE.out]; exact (H0.out.2.1.below hb2).cell 1
    have k02 : w2.drew.cell? ⟨w.heap.size, 0, none⟩ = some (.slice (some ⟨gv, 0, none⟩) 8 cv) := (H0.out.1.below hb2).cell 0
    have kv2 : w2.drew.cell? ⟨gv, u, none⟩ = some (.int .i64 y) := (hb2.cell (p := ⟨gv, u, none⟩) hgvl).trans cv0
    have hbD := below_then hb2 (Below.drew (Below.refl _ w2))
    have H2 := Lib.hid (And.intro (H0.out.2.2.2.below hbD) (below_then' HB0.out hbD))
    clear hb2 hbD cv0
    refine Lib.hid ?_
    go_wp2
    go_region_law (first
      | (go_simp; go_at_call 143; (with_reducible refine (HAS.out _ H2.out.1).mono ?_); rintro e w3 ⟨al, nl, cl, a', m', c', rfl, ho3, hj3, hm3⟩))
    all_goals
      have H3 := Lib.hid (And.intro (ho3.mono H2.out.2.size) (And.intro hj3 ((Mv.of_below (jnB gj a m c) H2.out.2).trans hm3)))
      clear ho3 hj3 hm3
      refine Lib.hid ?_
      go_wp2
      go_ret
      exact ⟨_, _, _, _, _, _, rfl, H3.out⟩
theorem wrow_moved {w w' : World} {a : Option Addr} {n : Nat} {L : List Wt} (h : WriteRow w a n L) (hs : w.heap.size ≤ w'.heap.size) (hk : ∀ b off, a = some ⟨b, off, none⟩ → w'.heap[b]? = w.heap[b]?) : WriteRow w' a n L :=
  ⟨h.1, fun k hkn => by
    obtain ⟨b, off, s, rfl, hlt, hs', hr⟩ := h.2 k hkn
    exact ⟨b, off, s, rfl, Nat.lt_of_lt_of_le hlt hs, hs', fun j v hv => (World.cell?_of_block (a := ⟨b, off + k * 2 + j, none⟩) (hk b off rfl)).trans (hr j v hv)⟩⟩
def stepsOf (cost : Int) (L : List Wt) : List Mic := ⟨cost, -1, 0⟩ :: L.map fun p => wrM p.p p.v
theorem stepsOf_snoc {cost : Int} {L : List Wt} {k : Nat} {p : Wt} (h : L[k]? = some p) : stepsOf cost (L.take (k + 1)) = stepsOf cost (L.take k) ++ [wrM p.p p.v] := by
  unfold stepsOf
  rw [List.take_add_one, h]
  simp
/-- The steps are these now. -/
def AddOut (B gs : Nat) (a : Option Addr) (m c : Nat) (M : List Mic) (w : World) (e : Ending) (w' : World) : Prop :=
  e = .returned (.tuple #[]) ∧ ∃ g' c' m', StAt B gs (some ⟨g', 0, none⟩) m' c' M w' ∧ Mv (jnB gs a m c) w (jnB gs (some ⟨g', 0, none⟩) m' c') w'
set_option maxHeartbeats 8000000 in
set_option maxRecDepth 100000 in
/-- The steps of a statement are added: its own, and one for each write. -/
theorem impl_add (B gs : Nat) (a : Option Addr) (m c : Nat) (M : List Mic) (w : World) (h : StAt B gs a m c M w) (hM : M.length ≤ 90000) (cost : Int) (al : Option Addr) (nl cl : Nat) (L : List Wt) (hL : WriteRow w al nl L) (hl : nl ≤ 8) (hfar : ∀ b off, al = some ⟨b, off, none⟩ → ∀ j : Nat, (jnB gs a m c)[j]? ≠ some (some b)) :
    Calls Tryz.prog 77 #[.int .i64 cost, .slice al nl cl, .pointer (some ⟨gs, 0, none⟩)] w
      (AddOut B gs a m c (M ++ stepsOf cost L) w) := by
  obtain ⟨i0, hi, hz0, hz1, hz2⟩ := info_parts infoMic
  have hm := h.len
  have hm9 : m ≤ 90000 := by omega
  have hB := h.low
  have c0 : w.cell? ⟨gs, 0, none⟩ = some (.slice a m c) := h.box.cell 0
  have ho : w.ownsRow B 98 3 (.slice a m c) m (microsC M) := h.rows.own 0 _ rfl
  have HO := Lib.hid ho
  have H := Lib.hid (And.intro h (And.intro hL hfar))
  clear h hL hfar ho
  go_enter Tryz.func77, Tryz.ntmps77
  go_wp2_with (at_builtin; refine wpList_append_own_at _ rfl _ _ 52 rfl B 98 i0 (.agg #[.int .i64 0, .int .i64 0, .int .i64 0]) 3 24 Tryz.underlying52 hi hz0 hz1 hz2 rfl (by decide) _ m _ rfl (HO.out.kept (World.grownBy_alloc w _ none) (by cases a <;> simp [Value.ownBlock])) ⟨w.heap.size, 0, none⟩ 1 1 [.int .i64 cost, .int .i64 (-1), .int .i64 0] rfl rfl (World.news_of_block (cs := #[.int .i64 cost, .int .i64 (-1), .int .i64 0]) (t := 98) (fr := (0, 0)) (heap_alloc_new w _)) (by simp [Value.oneCell']) (by unfold maxLen; omega) (by omega) (by simp; omega) ?_; intro v4 w4 hown4 hgrow4 _ hat4; refine Hid.out ?_)
  obtain ⟨g4, c4, rfl, hx4, hs4, hm4⟩ := H.out.1.step (x := ⟨cost, -1, 0⟩) hown4 hgrow4 hat4
  have d0 : w4.cell? ⟨gs, 0, none⟩ = some (.slice a m c) := hx4.cell 0
  have f0 : w4.frozen? ⟨gs, 0, none⟩ = false := hx4.frozen 0
  obtain ⟨W5, hW5⟩ : ∃ W5, w4.setCell ⟨gs, 0, none⟩ (.slice (some ⟨g4, 0, none⟩) (m + 1) c4) = W5 := ⟨_, rfl⟩
  rw [hW5] at hs4 hm4
  have H5 := Lib.hid (show StAt B gs (some ⟨g4, 0, none⟩) (m + 1) c4 (M ++ stepsOf cost (L.take 0)) W5 ∧ Mv (jnB gs a m c) w (jnB gs (some ⟨g4, 0, none⟩) (m + 1) c4) W5 from ⟨hs4, hm4⟩)
  clear hown4 hgrow4 hat4 hx4 hs4 hm4 c0
  refine Lib.hid ?_
  go_wp2
  clear hW5 d0 f0
  go_loopw [6, 14] (fun _ i wr => ∃ (k g' c' : Nat), k ≤ nl ∧ i = .int .i64 k ∧ Hid (StAt B gs (some ⟨g', 0, none⟩) (m + 1 + k) c' (M ++ stepsOf cost (L.take k)) wr) ∧ Hid (Mv (jnB gs a m c) w (jnB gs (some ⟨g', 0, none⟩) (m + 1 + k) c') wr)) (fun _ i _ => nl - (intOf i).toNat)
  case atStart => exact ⟨0, g4, c4, Nat.zero_le _, rfl, H5.out.1, H5.out.2⟩
  case round =>
    obtain ⟨k, g', c', hk, rfl, HS, HM⟩ := hrel
    by_cases hlt : k < nl
    · have hI : (k : Int) < nl := by omega
      have hfar2 := H.out.2.2
      obtain ⟨b, off, p, rfl, hlb, hp, hr⟩ := (wrow_moved H.out.2.1 HM.out.size (fun b off e => HM.out.block b (by
        obtain ⟨b', off', _, e', hl', _⟩ := H.out.2.1.2 k hlt
        rw [e] at e'; cases e'; exact hl') (H.out.2.2 b off e))).2 k hlt
      have HP := Lib.hid (stepsOf_snoc (cost := cost) hp)
      obtain ⟨pp, pv⟩ := p
      have HR := Lib.hid hr
      have HOK := Lib.hid (show wr.ownsRow B 98 3 (.slice (some ⟨g', 0, none⟩) (m + 1 + k) c') (m + 1 + k) (microsC (M ++ stepsOf cost (L.take k))) from HS.out.rows.own 0 _ rfl)
      have c0 : wr.cell? ⟨gs, 0, none⟩ = some (.slice (some ⟨g', 0, none⟩) (m + 1 + k) c') := HS.out.box.cell 0
      have hgl : gs < wr.heap.size := HS.out.rows.lt
      have hBw := HS.out.low
      clear hr hp hfar2
      go_wp2_with (first
        | (refine wpList_load_mid rfl 100 _ rfl b (off + k * 2) rfl (writeC ⟨pp, pv⟩) _ HR.out Tryz.underlying100 rfl (by kernel_rfl) ?_)
        | (refine wpList_store_box rfl 100 _ _ rfl wr.heap.size _ _ (Box.new wr _ _) #[.int .i64 pp, .int .i64 pv] rfl rfl rfl (by kernel_rfl) (by simp [Value.oneCell']) ?_; intro w2 hx2 hg2; refine Hid.out ?_))
      have hb2 : Below wr.heap.size wr w2 := (below_new wr _).grown hg2 (by simp) (fun j hj => by cases hj; exact Nat.le_refl _)
      have hgl2 : gs < w2.heap.size := Nat.lt_of_lt_of_le hgl hb2.size
      have q0 : w2.drew.cell? ⟨wr.heap.size, 0, none⟩ = some (.int .i64 pp) := hx2.cell 0
      have q1 : w2.drew.cell? ⟨wr.heap.size, 1, none⟩ = some (.int .i64 pv) := hx2.cell 1
      have c2 : w2.drew.cell? ⟨gs, 0, none⟩ = some (.slice (some ⟨g', 0, none⟩) (m + 1 + k) c') := (hb2.cell (p := ⟨gs, 0, none⟩) hgl).trans c0
      have HS2 := Lib.hid (And.intro (HS.out.below hb2) (HM.out.trans (Mv.of_below _ hb2)))
      have HW := Lib.hid (show ∀ w', Calls Tryz.prog 78 #[.agg #[.int .i64 pp, .int .i64 pv]] w' (fun e w'' => e = .returned (.agg #[.int .i64 3, .int .i64 pp, .int .i64 pv]) ∧ Below w'.heap.size w' w'') from fun w' => impl_wstep pp pv w')
      have HK3 := Lib.hid (show ∀ w3, Below w2.drew.heap.size w2.drew w3 → w3.cell? ⟨gs, 0, none⟩ = some (.slice (some ⟨g', 0, none⟩) (m + 1 + k) c') ∧ (w3.alloc (.cells #[.int .i64 3, .int .i64 pp, .int .i64 pv] 98)).cell? ⟨gs, 0, none⟩ = some (.slice (some ⟨g', 0, none⟩) (m + 1 + k) c') from fun w3 hb => ⟨(hb.cell (p := ⟨gs, 0, none⟩) hgl2).trans c2, ((below_then hb (below_new w3 _)).cell (p := ⟨gs, 0, none⟩) hgl2).trans c2⟩)
      have HO3 := Lib.hid (show ∀ w3, Below w2.drew.heap.size w2.drew w3 → (w3.alloc (.cells #[.int .i64 3, .int .i64 pp, .int .i64 pv] 98)).ownsRow B 98 3 (.slice (some ⟨g', 0, none⟩) (m + 1 + k) c') (m + 1 + k) (microsC (M ++ stepsOf cost (L.take k))) from fun w3 hb => (((HS2.out.1.below (Below.drew (Below.refl _ w2))).below hb).rows.own 0 _ rfl).kept (World.grownBy_alloc w3 _ none) (.inr (by simp [Value.ownBlock])))
      have HBw := Lib.hid (show ∀ w3, Below w2.drew.heap.size w2.drew w3 → B ≤ (w3.alloc (.cells #[.int .i64 3, .int .i64 pp, .int .i64 pv] 98)).heap.size from fun w3 hb => Nat.le_trans (((HS2.out.1.below (Below.drew (Below.refl _ w2))).below hb).low) (below_new w3 _).size)
      have HN3 := Lib.hid (show ∀ w3, Below w2.drew.heap.size w2.drew w3 → ∀ (gN cN : Nat) (w6 : World), w6.ownsRow B 98 3 (.slice (some ⟨gN, 0, none⟩) (m + 1 + k + 1) cN) (m + 1 + k + 1) (microsC (M ++ stepsOf cost (L.take k)) ++ [.int .i64 3, .int .i64 pp, .int .i64 pv]) → (w3.alloc (.cells #[.int .i64 3, .int .i64 pp, .int .i64 pv] 98)).grownBy w6 (Value.slice (some ⟨g', 0, none⟩) (m + 1 + k) c').ownBlock → ((Value.slice (some ⟨g', 0, none⟩) (m + 1 + k) c').ownBlock = some gN ∨ gN = (w3.alloc (.cells #[.int .i64 3, .int .i64 pp, .int .i64 pv] 98)).heap.size) →
          w6.cell? ⟨gs, 0, none⟩ = some (.slice (some ⟨g', 0, none⟩) (m + 1 + k) c') ∧ w6.frozen? ⟨gs, 0, none⟩ = false ∧ StAt B gs (some ⟨gN, 0, none⟩) (m + 1 + (k + 1)) cN (M ++ stepsOf cost (L.take (k + 1))) (w6.setCell ⟨gs, 0, none⟩ (.slice (some ⟨gN, 0, none⟩) (m + 1 + k + 1) cN)) ∧ Mv (jnB gs a m c) w (jnB gs (some ⟨gN, 0, none⟩) (m + 1 + (k + 1)) cN) (w6.setCell ⟨gs, 0, none⟩ (.slice (some ⟨gN, 0, none⟩) (m + 1 + k + 1) cN)) from fun w3 hb gN cN w6 ho hg hat => by
        have hb9 := below_then (Below.drew (Below.refl _ w2)) hb
        obtain ⟨g6, c6, e6, hx6, hs6, hm6⟩ := (HS2.out.1.below hb9).step (x := wrM pp pv) ho hg (hat.imp (fun e => e.symm) (fun e => by rw [e]; rfl))
        cases e6
        rw [List.append_assoc, ← HP.out] at hs6
        exact ⟨hx6.cell 0, hx6.frozen 0, hs6, (HS2.out.2.trans (Mv.of_below _ hb9)).trans hm6⟩)
      have hlen6 : m + 1 + k + 1 ≤ maxLen := by unfold maxLen; omega
      have hbyt6 : (m + 1 + k + 1) * 24 ≤ 140737488355328 := by omega
      clear hx2 hg2 hb2 c0
      refine Lib.hid ?_
      go_wp2
      go_region_law (first
        | (go_simp; go_at_call 78; (with_reducible refine (HW.out _).mono ?_); rintro e w3 ⟨rfl, hb3⟩; obtain ⟨d3, d4⟩ := HK3.out w3 hb3)
        | (refine step_append_lies _ (by rfl) _ _ 52 (by rfl) B 98 i0 (.agg #[.int .i64 0, .int .i64 0, .int .i64 0]) 3 24 Tryz.underlying52 hi hz0 hz1 hz2 rfl (by decide) _ (m + 1 + k) _ (by rfl) (HO3.out w3 hb3) ⟨w3.heap.size, 0, none⟩ 1 1 [.int .i64 3, .int .i64 pp, .int .i64 pv] (by rfl) (by rfl) (World.news_of_block (cs := #[.int .i64 3, .int .i64 pp, .int .i64 pv]) (t := 98) (fr := (0, 0)) (heap_alloc_new w3 _)) (by simp [Value.oneCell']) (by decide) hlen6 hbyt6 (HBw.out w3 hb3) _ rfl ?_; intro g6 c6 w6 ho6 hg6 hat6 _; obtain ⟨d6, f6, hs6, hm6⟩ := HN3.out w3 hb3 g6 c6 w6 ho6 hg6 hat6))
      all_goals
        have H7 := Lib.hid (And.intro hs6 hm6)
        clear hs6 hm6 ho6 hg6 hat6 d3 d4 hb3 c2 q0 q1
        refine Lib.hid ?_
        go_wp2
        go_roundw
        case rel => exact ⟨k + 1, g6, c6, by omega, by go_num, H7.out.1, H7.out.2⟩
        case measure => simp [intOf]; omega
    · obtain rfl : k = nl := by omega
      have hI : ¬ (k : Int) < k := by omega
      have H9 := Lib.hid (show StAt B gs (some ⟨g', 0, none⟩) (m + 1 + k) c' (M ++ stepsOf cost L) wr by
        have h9 := HS.out
        rw [List.take_of_length_le (by have := H.out.2.1.1; omega)] at h9
        exact h9)
      go_wp2
      exact bodyPost_ret (results_none rfl _ _ _) rfl ⟨rfl, g', c', _, H9.out, HM.out⟩
end Go.Proofs.YtmgeecdgebemdaaGreatDoor.trc
