/- Several texts in one: TkC. -/
import Derived.Test.YtlicadaecfgklaaGHub22

/- The law's own copy of a program, the sizes and the comparison of lists of tasks and of programs; nothing that was there is written. -/
namespace Go.Proofs.Ytlicadaecfgklaa.prg
open Go Go.ChangeShapes Go.WideShapes Go.ChangeAt Go.RowKit Go.Proofs.Ytlicadaecfgklaa.row Go.Proofs.Ytlicadaecfgklaa.val Go.Proofs.Ytlicadaecfgklaa.expr Go.Proofs.Ytlicadaecfgklaa.stm Go.Proofs.Ytlicadaecfgklaa.blk

set_option maxHeartbeats 2000000 in
set_option maxRecDepth 100000 in
theorem toprogram_any (w : World) (a : Option Addr) (n cap : Nat) (P : List Tk) (hz : Sizes P) (h : TkRow w a n P) : Calls Try.prog 22 #[.agg #[.slice a n cap]] w (MadePrg w n P) := by
  obtain ⟨W, hW⟩ : ∃ W, W = ((w.alloc (.cells #[.slice a n cap] 33)).alloc (.cells #[.slice none 0 0] 38)).alloc (.cells #[.slice none 0 0] 38) := ⟨_, rfl⟩
  have hs : W.heap.size = w.heap.size + 3 := by rw [hW]; simp
  have e1 : ∀ x : Obj, (w.alloc x).heap.size = w.heap.size + 1 := fun x => by simp
  have e2 : ∀ x y : Obj, ((w.alloc x).alloc y).heap.size = w.heap.size + 2 := fun x y => by simp
  have b1 : Box (w.heap.size + 1) #[.slice none 0 0] 38 W := by
    have h9 := (Box.new (w.alloc (.cells #[.slice a n cap] 33)) #[.slice none 0 0] 38).alloc (.cells #[.slice none 0 0] 38)
    rw [e1] at h9; rw [hW]; exact h9
  have b2 : Box (w.heap.size + 2) #[.slice none 0 0] 38 W := by
    have h9 := Box.new ((w.alloc (.cells #[.slice a n cap] 33)).alloc (.cells #[.slice none 0 0] 38)) #[.slice none 0 0] 38
    rw [e2] at h9; rw [hW]; exact h9
  have hb : Below w.heap.size w W := by
    rw [hW]; exact (((Below.refl _ _).alloc (Nat.le_refl _) _).alloc (by simp) _).alloc (by simp; omega) _
  have H0 := Lib.hid (And.intro b1 (And.intro b2 (And.intro hb (h.below hb))))
  have HS := Lib.hid hs
  have HW := Lib.hid hW
  have HZ := Lib.hid hz
  clear b1 b2 hb hs hW e1 e2 h hz
  go_enter Try.func22, Try.ntmps22
  go_wp2_with (go_at_call 40; rw [← HW.out]; refine (totasks_any W a n cap P HZ.out H0.out.2.2.2).mono ?_; rintro e w1 ⟨a1, rfl, hT1, hb1⟩; refine Hid.out ?_)
  have b2 := H0.out.2.1.below hb1
  have c : w1.cell? ⟨w.heap.size + 2, 0, none⟩ = some (.slice none 0 0) := b2.cell 0
  have f : w1.frozen? ⟨w.heap.size + 2, 0, none⟩ = false := b2.frozen 0
  have H1 := Lib.hid (And.intro b2 (And.intro (H0.out.1.below hb1) (And.intro (H0.out.2.2.1.trans (hb1.mono (by have := HS.out; omega))) hT1)))
  have HS1 := Lib.hid hb1.size
  clear b2 hb1
  refine Lib.hid ?_
  go_wp2_with (first
    | (refine wpList_load_row rfl 38 _ rfl (w.heap.size + 2) rfl _ _ _ _ (H1.out.1.set 0 (.slice a1 n n)) Try.underlying38 rfl (by kernel_rfl) ?_)
    | ((refine wpList_store_box rfl 38 _ _ rfl (w.heap.size + 1) _ _ (H1.out.2.1.set_other (by simp) _) #[.slice a1 n n] rfl rfl rfl (by kernel_rfl) (by simp [Value.oneCell']) ?_); intro w4 hx4 hg4; refine Hid.out ?_))
  have hT4 := ((H1.out.2.2.2.out).grown (grown_setCell w1 (w.heap.size + 2) 0 (.slice a1 n n)) (by have := HS.out; omega)).grown hg4 (by have := HS.out; omega)
  have hb4 := ((H1.out.2.2.1.setCell (by show w.heap.size ≤ w.heap.size + 2; omega) (.slice a1 n n))).grown hg4 (by have := H1.out.2.2.1.size; simpa using this) (fun j hj => by cases hj; omega)
  have H4 := Lib.hid (And.intro hx4 (And.intro (hT4.mono (show w.heap.size ≤ W.heap.size by have := HS.out; omega)) hb4))
  clear hx4 hg4 hT4 hb4 c f
  refine Lib.hid ?_
  go_wp2
  exact bodyPost_ret (v := .agg #[.slice a1 n n]) (results_cell_row rfl _ _ (w.heap.size + 1) _ _ _ _ rfl H4.out.1 Try.underlying38 rfl (by kernel_rfl)) rfl ⟨_, rfl, H4.out.2.1, H4.out.2.2⟩
/-- What is left of a size, or less than nothing; the sizes are then bounded. -/
def SzOut (w : World) (x : Int) (S : Prop) (e : Ending) (w' : World) : Prop := ∃ r : Int, e = .returned (.int .i64 r) ∧ -1 ≤ r ∧ r ≤ x ∧ Hid (0 ≤ r → S) ∧ Below w.heap.size w w'
theorem sztask_any (t : Tk) (ab : Option Addr) (nb cb : Nat) (x : Int) (hn : nb ≤ maxLen) (hx : 0 ≤ x) (hx2 : x ≤ 1048576) (hl : t.b.length = nb) (w : World) :
    Calls Try.prog 52 #[tkV ab nb cb t, .int .i64 x] w (SzOut w x (t.b.length ≤ 1048576)) := by
  have hm : (nb : Int) ≤ 9223372036854775807 := by unfold maxLen at hn; omega
  have HL := Lib.hid hl
  clear hl hn
  by_cases h : x - nb < 0
  · have HI := Lib.hid (show (if x - nb < 0 then (-1 : Int) else x - nb) = -1 from if_pos h)
    clear h
    go_enter Try.func52, Try.ntmps52
    go_wp2_with (go_at_call 60; refine (sz_any _ _ _ _ hm hx (by omega) _).mono ?_; rw [HI.out]; rintro e w1 ⟨rfl, rfl⟩)
    go_ret
    exact ⟨-1, rfl, by omega, by omega, fun h => by omega, below_new w _⟩
  · have HI := Lib.hid (show (if x - nb < 0 then (-1 : Int) else x - nb) = x - nb from if_neg h)
    have h0 : 0 ≤ x - nb := by omega
    have hnb : nb ≤ 1048576 := by omega
    go_enter Try.func52, Try.ntmps52
    go_wp2_with (go_at_call 60; refine (sz_any _ _ _ _ hm hx (by omega) _).mono ?_; rw [HI.out]; rintro e w1 ⟨rfl, rfl⟩)
    go_ret
    exact ⟨x - nb, rfl, by omega, by omega, fun _ => by rw [HL.out]; exact hnb, below_new w _⟩
set_option maxHeartbeats 2000000 in
set_option maxRecDepth 100000 in
theorem sztasks_any (w : World) (a : Option Addr) (n cap : Nat) (P : List Tk) (hn : n ≤ maxLen) (hm : ∀ t ∈ P, t.b.length ≤ maxLen) (h : TkRow w a n P) :
    Calls Try.prog 36 #[.slice a n cap, .int .i64 1048576] w (SzOut w 1048576 (Sizes P)) := by
  have HL := Lib.hid h
  have HM := Lib.hid hm
  have hn2 : (n : Int) ≤ 9223372036854775807 := by unfold maxLen at hn; omega
  clear h hm
  by_cases hb : (1048576 : Int) - n < 0
  · go_enter Try.func36, Try.ntmps36
    go_wp2
    go_ret
    exact ⟨-1, rfl, by omega, by omega, fun h => by omega, Below.refl _ _⟩
  · have hb0 : 0 ≤ (1048576 : Int) - n := by omega
    go_enter Try.func36, Try.ntmps36
    go_wp2
    go_loopw [1, 5] (fun l i wr => ∃ (k : Nat) (x : Int), k ≤ n ∧ i = .int .i64 k ∧ l = .int .i64 x ∧ 0 ≤ x ∧ x ≤ 1048576 ∧ Hid (∀ j t, j < k → P[j]? = some t → t.b.length ≤ 1048576) ∧ Below w.heap.size w wr) (fun _ i _ => n - (intOf i).toNat)
    case atStart => exact ⟨0, _, Nat.zero_le _, rfl, rfl, hb0, by omega, fun j t hj => by omega, Below.refl _ _⟩
    case round =>
      obtain ⟨k, x, hk, rfl, rfl, hx0, hx1, hS, hbel⟩ := hrel
      by_cases hlt : k < n
      · obtain ⟨b, off, t, rfl, hlb, ht, ab, nb, cb, hrg, hbc, hrow⟩ := (HL.out.below hbel).2 k hlt
        have hnb : nb ≤ maxLen := by have := HM.out t (mem_at ht); rw [hrow.1] at this; exact this
        have HR := Lib.hid (And.intro hrg (And.intro ht (And.intro hbel hrow)))
        have hI : (k : Int) < n := by omega
        clear hrg ht hbel hrow
        go_wp2_with (first
          | (refine wpList_load_mid rfl 69 _ rfl b (off + k * 4) rfl (tkC ab nb cb t) _ HR.out.1 Try.underlying69 rfl (by kernel_rfl) ?_)
          | (go_at_call 52; refine (sztask_any t ab nb cb x hnb hx0 hx1 HR.out.2.2.2.1 _).mono ?_; rintro e w2 ⟨r, rfl, hr0, hr1, hrS, hb2⟩; refine Hid.out ?_))
        have HB2 := Lib.hid (below_then HR.out.2.2.1 hb2)
        clear hb2
        by_cases hrn : r < 0
        · refine Lib.hid ?_
          go_wp2
          go_ret
          exact ⟨-1, rfl, by omega, by omega, fun h => by omega, HB2.out⟩
        · have hr00 : 0 ≤ r := by omega
          have hr01 : r ≤ 1048576 := by omega
          have HS2 := Lib.hid (show ∀ j t, j < k + 1 → P[j]? = some t → t.b.length ≤ 1048576 from fun j t' hj ht' => by
            by_cases e : j = k
            · subst e; have := HR.out.2.1; rw [this] at ht'; cases ht'; exact hrS.out hr00
            · exact hS.out j t' (by omega) ht')
          refine Lib.hid ?_
          go_wp2
          go_roundw
          case rel => exact ⟨k + 1, r, by omega, by go_num, rfl, hr00, hr01, HS2, HB2.out⟩
          case measure => simp [intOf]; omega
      · obtain rfl : k = n := by omega
        have hI : ¬ (k : Int) < k := by omega
        have HB := Lib.hid hbel
        have HSZ := Lib.hid (show Sizes P from ⟨by rw [HL.out.1]; omega, fun t ht => by
          obtain ⟨j, hj⟩ := List.mem_iff_getElem?.1 ht
          exact hS.out j t (by have := (List.getElem?_eq_some_iff.1 hj).1; rw [HL.out.1] at this; exact this) hj⟩)
        clear hbel
        go_wp2
        go_ret
        exact ⟨x, rfl, by omega, hx1, fun _ => HSZ.out, HB.out⟩
set_option maxHeartbeats 1000000 in
theorem szprogram_any (w : World) (a : Option Addr) (n cap : Nat) (P : List Tk) (hn : n ≤ maxLen) (hm : ∀ t ∈ P, t.b.length ≤ maxLen) (h : TkRow w a n P) :
    Calls Try.prog 20 #[.agg #[.slice a n cap], .int .i64 1048576] w (SzOut w 1048576 (Sizes P)) := by
  have HL := Lib.hid (And.intro h hm)
  clear h hm
  go_enter Try.func20, Try.ntmps20
  go_wp2_with (go_at_call 36; refine (sztasks_any _ a n cap P hn HL.out.2 (HL.out.1.below (below_new w _))).mono ?_; rintro e w2 ⟨r, rfl, hr0, hr1, hrS, hb2⟩; refine Hid.out ?_)
  have HB2 := Lib.hid (below_then (below_new w _) hb2)
  clear hb2
  by_cases hrn : r < 0
  · refine Lib.hid ?_
    go_wp2
    go_ret
    exact ⟨-1, rfl, by omega, by omega, fun h => by omega, HB2.out⟩
  · refine Lib.hid ?_
    go_wp2
    go_ret
    exact ⟨r, rfl, hr0, hr1, hrS, HB2.out⟩
end Go.Proofs.Ytlicadaecfgklaa.prg
