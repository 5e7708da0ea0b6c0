/- Several texts in one: VMarkP VMarkQ VTkB VTkC VTkX. -/
import Derived.Test.YtmgeecdgebemdaaGreatDoorGSigV3

/- The law's marks in a list of statements, of tasks and in a program of the answer's own, and its look at them. -/
namespace Go.Proofs.YtmgeecdgebemdaaGreatDoor.mrk
open Go Go.ChangeShapes Go.WideShapes Go.ChangeAt Go.RowKit Go.Proofs.YtmgeecdgebemdaaGreatDoor.row Go.Proofs.YtmgeecdgebemdaaGreatDoor.stm Go.Proofs.YtmgeecdgebemdaaGreatDoor.prg
/-- The first mark of the task 'j'. -/
def st (nb : Nat → Nat) (k : Int) : Nat → Int
  | 0 => k
  | j + 1 => st nb k j + 6 * (nb j : Int) + 3
end Go.Proofs.YtmgeecdgebemdaaGreatDoor.mrk

/- The law's marks in a list of tasks and in a program of the answer's own, and its look at them. -/
namespace Go.Proofs.YtmgeecdgebemdaaGreatDoor.mrk
open Go Go.ChangeShapes Go.WideShapes Go.ChangeAt Go.RowKit Go.Proofs.YtmgeecdgebemdaaGreatDoor.row Go.Proofs.YtmgeecdgebemdaaGreatDoor.stm Go.Proofs.YtmgeecdgebemdaaGreatDoor.prg
section
variable {lo g n m : Nat} {w w' : World} {cs : Array Value} {t ts : TypeId} {gb nb : Nat → Nat} {k : Int}
end
end Go.Proofs.YtmgeecdgebemdaaGreatDoor.mrk

/- The law's own copy, size and comparison of a list of tasks and of a program; nothing that was there is written. -/
namespace Go.Proofs.YtmgeecdgebemdaaGreatDoor.prg
open Go Go.ChangeShapes Go.WideShapes Go.ChangeAt Go.RowKit Go.Proofs.YtmgeecdgebemdaaGreatDoor.row Go.Proofs.YtmgeecdgebemdaaGreatDoor.val Go.Proofs.YtmgeecdgebemdaaGreatDoor.expr Go.Proofs.YtmgeecdgebemdaaGreatDoor.stm Go.Proofs.YtmgeecdgebemdaaGreatDoor.blk
theorem infoTask : (Tryz.prog.info? 96).map (fun i => (i.zero, i.size, i.bytes)) = some (some (tkV none 0 0 ⟨[], 0, 0, 0⟩), 4, 48) := by kernel_rfl
theorem prg_at {P : List Tk} {k : Nat} (h : k < P.length) : ∃ t, P[k]? = some t := ⟨P[k], by simp [h]⟩
theorem mem_at {P : List Tk} {k : Nat} {t : Tk} (h : P[k]? = some t) : t ∈ P := List.mem_of_getElem? h
/-- A copy of the list of tasks in new memory. -/
def MadeTks (w : World) (n : Nat) (P : List Tk) (e : Ending) (w' : World) : Prop :=
  ∃ a' : Option Addr, e = .returned (.slice a' n n) ∧ Hid (TkFrom w.heap.size w' a' n P) ∧ Below w.heap.size w w'
/-- A copy of the program in new memory. -/
def MadePrg (w : World) (n : Nat) (P : List Tk) (e : Ending) (w' : World) : Prop :=
  ∃ a' : Option Addr, e = .returned (.agg #[.slice a' n n]) ∧ Hid (TkFrom w.heap.size w' a' n P) ∧ Below w.heap.size w w'
set_option maxHeartbeats 2000000 in
set_option maxRecDepth 100000 in
theorem totasks_any (w : World) (a : Option Addr) (n cap : Nat) (P : List Tk) (hz : Sizes P) (h : TkRow w a n P) : Calls Tryz.prog 65 #[.slice a n cap] w (MadeTks w n P) := by
  obtain ⟨i0, hi, hz0, hz1, hz2⟩ := info_parts infoTask
  have HL := Lib.hid h
  have HZ := Lib.hid hz
  have hn : (n : Int) ≤ 1048576 := by have := hz.1; rw [h.1] at this; omega
  clear h hz
  go_enter Tryz.func65, Tryz.ntmps65
  go_wp2_with ((refine wpList_make_full _ rfl _ _ 24 rfl w.heap.size 96 i0 _ 4 Tryz.underlying24 hi hz0 hz1 .i64 .i64 _ _ n rfl rfl rfl rfl (by rw [hz2]; omega) (by unfold maxLen; omega) (Nat.le_refl _) ?_); intro w1 hown1 hg1; refine Hid.out ?_)
  have hsz1 := hown1.1
  have hx1 := own_boxz hown1
  have hb1 := below_grown hg1
  obtain ⟨cs0, hcs0⟩ : ∃ cs0, (madeCells (tkV none 0 0 ⟨[], 0, 0, 0⟩).cells (n * 4)).toList.toArray = cs0 := ⟨_, rfl⟩
  rw [hcs0] at hx1
  have hs0 : cs0.size = n * 4 := by rw [← hcs0, List.size_toArray]; exact hsz1
  clear hg1 hown1 hsz1 hcs0
  refine Lib.hid ?_
  go_wp2
  go_loopw [4] (fun i wr => ∃ (k : Nat) (cs : Array Value), k ≤ n ∧ i = .int .i64 k ∧ Box w.heap.size cs 96 wr ∧ Hid (cs.size = n * 4 ∧ Pref wr P w.heap.size cs k) ∧ Below w.heap.size w wr) (fun i _ => n - (intOf i).toNat)
  case atStart => exact ⟨0, cs0, Nat.zero_le _, rfl, hx1, ⟨hs0, Pref.zero _ _ _ _⟩, hb1⟩
  case round =>
    obtain ⟨k, cs, hk, rfl, hbx, hPF, hbel⟩ := hrel
    by_cases hlt : k < n
    · obtain ⟨b, off, t, rfl, hlb, ht, ab, nb, cb, hrg, hbc, hrow⟩ := (HL.out.below hbel).2 k hlt
      have hnb : (nb : Int) ≤ 1048576 := by have := HZ.out.2 t (mem_at ht); rw [hrow.1] at this; omega
      have HR := Lib.hid (And.intro hrg (And.intro ht (And.intro hbx (And.intro hbel hrow))))
      have hI : (k : Int) < n := by omega
      clear hrg ht hbx hbel hrow
      go_wp2_with (first
        | (refine wpList_load_mid rfl 152 _ rfl b (off + k * 4) rfl (tkC ab nb cb t) _ HR.out.1 Tryz.underlying152 rfl (by kernel_rfl) ?_)
        | (go_at_call 127; refine (totask_any t ab nb cb _ hnb HR.out.2.2.2.2).mono ?_; rintro e w2 ⟨g2, n2, rfl, hg2, hs2, hb2⟩; refine Hid.out ?_))
      have H2 := Lib.hid (And.intro (HR.out.2.2.1.below hb2) (And.intro (below_then HR.out.2.2.2.1 hb2) (hPF.out.2.below hb2)))
      have HGL := Lib.hid HR.out.2.2.1.lt
      have HNE := Lib.hid (show w.heap.size < g2 by have := HR.out.2.2.1.lt; omega)
      clear hg2
      have HSZ := Lib.hid (show k * 4 + 4 ≤ cs.size by rw [hPF.out.1]; omega)
      clear hb2
      refine Lib.hid ?_
      go_wp2_with ((refine wpList_store_part rfl 96 _ _ rfl w.heap.size (k * 4) _ _ H2.out.1 #[.slice (some ⟨g2, 0, none⟩) n2 n2, .int .i64 t.o, .int .i64 t.x, .int .i64 t.y] rfl rfl HSZ.out (by kernel_rfl) (by simp [Value.oneCell']) ?_); intro w3 hx3 hg3; refine Hid.out ?_)
      have HS3 := StRow.grown_box hs2.out hg3 (fun e => by have := Option.some.inj e; have := HNE.out; omega)
      have H3 := Lib.hid (And.intro (show Box w.heap.size (setAll cs (k * 4) (tkC (some ⟨g2, 0, none⟩) n2 n2 t)) 96 w3 from hx3) (And.intro (And.intro (show (setAll cs (k * 4) (tkC (some ⟨g2, 0, none⟩) n2 n2 t)).size = n * 4 by rw [setAll_size]; exact hPF.out.1) ((H2.out.2.2.grown hg3).next HR.out.2.1 HSZ.out HNE.out HS3)) (H2.out.2.1.grown hg3 H2.out.2.1.size (fun j hj => by cases hj; exact Nat.le_refl _))))
      clear hx3 hg3 HS3
      refine Lib.hid ?_
      go_wp2
      go_roundw
      case rel => exact ⟨k + 1, _, by omega, by go_num, H3.out.1, H3.out.2.1, H3.out.2.2⟩
      case measure => simp [intOf]; omega
    · obtain rfl : k = n := by omega
      have hI : ¬ (k : Int) < k := by omega
      have HB := Lib.hid (And.intro (hPF.out.2.row HL.out.1 hbx) hbel)
      clear hbx hbel
      go_wp2
      go_ret
      exact ⟨_, rfl, HB.out.1, HB.out.2⟩
end Go.Proofs.YtmgeecdgebemdaaGreatDoor.prg

/- The law's own copy of a program, the sizes and the comparison of lists of tasks and of programs; nothing that was there is written. -/
namespace Go.Proofs.YtmgeecdgebemdaaGreatDoor.prg
open Go Go.ChangeShapes Go.WideShapes Go.ChangeAt Go.RowKit Go.Proofs.YtmgeecdgebemdaaGreatDoor.row Go.Proofs.YtmgeecdgebemdaaGreatDoor.val Go.Proofs.YtmgeecdgebemdaaGreatDoor.expr Go.Proofs.YtmgeecdgebemdaaGreatDoor.stm Go.Proofs.YtmgeecdgebemdaaGreatDoor.blk
set_option maxHeartbeats 2000000 in
set_option maxRecDepth 100000 in
theorem toprogram_any (w : World) (a : Option Addr) (n cap : Nat) (P : List Tk) (hz : Sizes P) (h : TkRow w a n P) : Calls Tryz.prog 19 #[.agg #[.slice a n cap]] w (MadePrg w n P) := by
  obtain ⟨W, hW⟩ : ∃ W, W = ((w.alloc (.cells #[.slice a n cap] 40)).alloc (.cells #[.slice none 0 0] 26)).alloc (.cells #[.slice none 0 0] 26) := ⟨_, rfl⟩
  have hs : W.heap.size = w.heap.size + 3 := by rw [hW]; simp
  have e1 : ∀ x : Obj, (w.alloc x).heap.size = w.heap.size + 1 := fun x => by simp
  have e2 : ∀ x y : Obj, ((w.alloc x).alloc y).heap.size = w.heap.size + 2 := fun x y => by simp
  have b1 : Box (w.heap.size + 1) #[.slice none 0 0] 26 W := by
    have h9 := (Box.new (w.alloc (.cells #[.slice a n cap] 40)) #[.slice none 0 0] 26).alloc (.cells #[.slice none 0 0] 26)
    rw [e1] at h9; rw [hW]; exact h9
  have b2 : Box (w.heap.size + 2) #[.slice none 0 0] 26 W := by
    have h9 := Box.new ((w.alloc (.cells #[.slice a n cap] 40)).alloc (.cells #[.slice none 0 0] 26)) #[.slice none 0 0] 26
    rw [e2] at h9; rw [hW]; exact h9
  have hb : Below w.heap.size w W := by
    rw [hW]; exact (((Below.refl _ _).alloc (Nat.le_refl _) _).alloc (by simp) _).alloc (by simp; omega) _
  have H0 := Lib.hid (And.intro b1 (And.intro b2 (And.intro hb (h.below hb))))
  have HS := Lib.hid hs
  have HW := Lib.hid hW
  have HZ := Lib.hid hz
  clear b1 b2 hb hs hW e1 e2 h hz
  go_enter Tryz.func19, Tryz.ntmps19
  go_wp2_with (go_at_call 65; rw [← HW.out]; refine (totasks_any W a n cap P HZ.out H0.out.2.2.2).mono ?_; rintro e w1 ⟨a1, rfl, hT1, hb1⟩; refine Hid.out ?_)
  have b2 := H0.out.2.1.below hb1
  have c : w1.cell? ⟨w.heap.size + 2, 0, none⟩ = some (.slice none 0 0) := b2.cell 0
  have f : w1.frozen? ⟨w.heap.size + 2, 0, none⟩ = false := b2.frozen 0
  have H1 := Lib.hid (And.intro b2 (And.intro (H0.out.1.below hb1) (And.intro (H0.out.2.2.1.trans (hb1.mono (by have := HS.out; omega))) hT1)))
  have HS1 := Lib.hid hb1.size
  clear b2 hb1
  refine Lib.hid ?_
  go_wp2_with (first
    | (refine wpList_load_row rfl 26 _ rfl (w.heap.size + 2) rfl _ _ _ _ (H1.out.1.set 0 (.slice a1 n n)) Tryz.underlying26 rfl (by kernel_rfl) ?_)
    | ((refine wpList_store_box rfl 26 _ _ rfl (w.heap.size + 1) _ _ (H1.out.2.1.set_other (by simp) _) #[.slice a1 n n] rfl rfl rfl (by kernel_rfl) (by simp [Value.oneCell']) ?_); intro w4 hx4 hg4; refine Hid.out ?_))
  have hT4 := ((H1.out.2.2.2.out).grown (grown_setCell w1 (w.heap.size + 2) 0 (.slice a1 n n)) (by have := HS.out; omega)).grown hg4 (by have := HS.out; omega)
  have hb4 := ((H1.out.2.2.1.setCell (by show w.heap.size ≤ w.heap.size + 2; omega) (.slice a1 n n))).grown hg4 (by have := H1.out.2.2.1.size; simpa using this) (fun j hj => by cases hj; omega)
  have H4 := Lib.hid (And.intro hx4 (And.intro (hT4.mono (show w.heap.size ≤ W.heap.size by have := HS.out; omega)) hb4))
  clear hx4 hg4 hT4 hb4 c f
  refine Lib.hid ?_
  go_wp2
  exact bodyPost_ret (v := .agg #[.slice a1 n n]) (results_cell_row rfl _ _ (w.heap.size + 1) _ _ _ _ rfl H4.out.1 Tryz.underlying26 rfl (by kernel_rfl)) rfl ⟨_, rfl, H4.out.2.1, H4.out.2.2⟩
/-- What is left of a size, or less than nothing; the sizes are then bounded. -/
def SzOut (w : World) (x : Int) (S : Prop) (e : Ending) (w' : World) : Prop := ∃ r : Int, e = .returned (.int .i64 r) ∧ -1 ≤ r ∧ r ≤ x ∧ Hid (0 ≤ r → S) ∧ Below w.heap.size w w'
theorem sztask_any (t : Tk) (ab : Option Addr) (nb cb : Nat) (x : Int) (hn : nb ≤ maxLen) (hx : 0 ≤ x) (hx2 : x ≤ 1048576) (hl : t.b.length = nb) (w : World) :
    Calls Tryz.prog 122 #[tkV ab nb cb t, .int .i64 x] w (SzOut w x (t.b.length ≤ 1048576)) := by
  have hm : (nb : Int) ≤ 9223372036854775807 := by unfold maxLen at hn; omega
  have HL := Lib.hid hl
  clear hl hn
  by_cases h : x - nb < 0
  · have HI := Lib.hid (show (if x - nb < 0 then (-1 : Int) else x - nb) = -1 from if_pos h)
    clear h
    go_enter Tryz.func122, Tryz.ntmps122
    go_wp2_with (go_at_call 164; refine (sz_any _ _ _ _ hm hx (by omega) _).mono ?_; rw [HI.out]; rintro e w1 ⟨rfl, rfl⟩)
    go_ret
    exact ⟨-1, rfl, by omega, by omega, fun h => by omega, below_new w _⟩
  · have HI := Lib.hid (show (if x - nb < 0 then (-1 : Int) else x - nb) = x - nb from if_neg h)
    have h0 : 0 ≤ x - nb := by omega
    have hnb : nb ≤ 1048576 := by omega
    go_enter Tryz.func122, Tryz.ntmps122
    go_wp2_with (go_at_call 164; refine (sz_any _ _ _ _ hm hx (by omega) _).mono ?_; rw [HI.out]; rintro e w1 ⟨rfl, rfl⟩)
    go_ret
    exact ⟨x - nb, rfl, by omega, by omega, fun _ => by rw [HL.out]; exact hnb, below_new w _⟩
set_option maxHeartbeats 2000000 in
set_option maxRecDepth 100000 in
theorem sztasks_any (w : World) (a : Option Addr) (n cap : Nat) (P : List Tk) (hn : n ≤ maxLen) (hm : ∀ t ∈ P, t.b.length ≤ maxLen) (h : TkRow w a n P) :
    Calls Tryz.prog 61 #[.slice a n cap, .int .i64 1048576] w (SzOut w 1048576 (Sizes P)) := by
  have HL := Lib.hid h
  have HM := Lib.hid hm
  have hn2 : (n : Int) ≤ 9223372036854775807 := by unfold maxLen at hn; omega
  clear h hm
  by_cases hb : (1048576 : Int) - n < 0
  · go_enter Tryz.func61, Tryz.ntmps61
    go_wp2
    go_ret
    exact ⟨-1, rfl, by omega, by omega, fun h => by omega, Below.refl _ _⟩
  · have hb0 : 0 ≤ (1048576 : Int) - n := by omega
    go_enter Tryz.func61, Tryz.ntmps61
    go_wp2
    go_loopw [1, 5] (fun l i wr => ∃ (k : Nat) (x : Int), k ≤ n ∧ i = .int .i64 k ∧ l = .int .i64 x ∧ 0 ≤ x ∧ x ≤ 1048576 ∧ Hid (∀ j t, j < k → P[j]? = some t → t.b.length ≤ 1048576) ∧ Below w.heap.size w wr) (fun _ i _ => n - (intOf i).toNat)
    case atStart => exact ⟨0, _, Nat.zero_le _, rfl, rfl, hb0, by omega, fun j t hj => by omega, Below.refl _ _⟩
    case round =>
      obtain ⟨k, x, hk, rfl, rfl, hx0, hx1, hS, hbel⟩ := hrel
      by_cases hlt : k < n
      · obtain ⟨b, off, t, rfl, hlb, ht, ab, nb, cb, hrg, hbc, hrow⟩ := (HL.out.below hbel).2 k hlt
        have hnb : nb ≤ maxLen := by have := HM.out t (mem_at ht); rw [hrow.1] at this; exact this
        have HR := Lib.hid (And.intro hrg (And.intro ht (And.intro hbel hrow)))
        have hI : (k : Int) < n := by omega
        clear hrg ht hbel hrow
        go_wp2_with (first
          | (refine wpList_load_mid rfl 152 _ rfl b (off + k * 4) rfl (tkC ab nb cb t) _ HR.out.1 Tryz.underlying152 rfl (by kernel_rfl) ?_)
          | (go_at_call 122; refine (sztask_any t ab nb cb x hnb hx0 hx1 HR.out.2.2.2.1 _).mono ?_; rintro e w2 ⟨r, rfl, hr0, hr1, hrS, hb2⟩; refine Hid.out ?_))
        have HB2 := Lib.hid (below_then HR.out.2.2.1 hb2)
        clear hb2
        by_cases hrn : r < 0
        · refine Lib.hid ?_
          go_wp2
          go_ret
          exact ⟨-1, rfl, by omega, by omega, fun h => by omega, HB2.out⟩
        · have hr00 : 0 ≤ r := by omega
          have hr01 : r ≤ 1048576 := by omega
          have HS2 := Lib.hid (show ∀ j t, j < k + 1 → P[j]? = some t → t.b.length ≤ 1048576 from fun j t' hj ht' => by
            by_cases e : j = k
            · subst e; have := HR.out.2.1; rw [this] at ht'; cases ht'; exact hrS.out hr00
            · exact hS.out j t' (by omega) ht')
          refine Lib.hid ?_
          go_wp2
          go_roundw
          case rel => exact ⟨k + 1, r, by omega, by go_num, rfl, hr00, hr01, HS2, HB2.out⟩
          case measure => simp [intOf]; omega
      · obtain rfl : k = n := by omega
        have hI : ¬ (k : Int) < k := by omega
        have HB := Lib.hid hbel
        have HSZ := Lib.hid (show Sizes P from ⟨by rw [HL.out.1]; omega, fun t ht => by
          obtain ⟨j, hj⟩ := List.mem_iff_getElem?.1 ht
          exact hS.out j t (by have := (List.getElem?_eq_some_iff.1 hj).1; rw [HL.out.1] at this; exact this) hj⟩)
        clear hbel
        go_wp2
        go_ret
        exact ⟨x, rfl, by omega, hx1, fun _ => HSZ.out, HB.out⟩
set_option maxHeartbeats 1000000 in
theorem szprogram_any (w : World) (a : Option Addr) (n cap : Nat) (P : List Tk) (hn : n ≤ maxLen) (hm : ∀ t ∈ P, t.b.length ≤ maxLen) (h : TkRow w a n P) :
    Calls Tryz.prog 17 #[.agg #[.slice a n cap], .int .i64 1048576] w (SzOut w 1048576 (Sizes P)) := by
  have HL := Lib.hid (And.intro h hm)
  clear h hm
  go_enter Tryz.func17, Tryz.ntmps17
  go_wp2_with (go_at_call 61; refine (sztasks_any _ a n cap P hn HL.out.2 (HL.out.1.below (below_new w _))).mono ?_; rintro e w2 ⟨r, rfl, hr0, hr1, hrS, hb2⟩; refine Hid.out ?_)
  have HB2 := Lib.hid (below_then (below_new w _) hb2)
  clear hb2
  by_cases hrn : r < 0
  · refine Lib.hid ?_
    go_wp2
    go_ret
    exact ⟨-1, rfl, by omega, by omega, fun h => by omega, HB2.out⟩
  · refine Lib.hid ?_
    go_wp2
    go_ret
    exact ⟨r, rfl, hr0, hr1, hrS, HB2.out⟩
end Go.Proofs.YtmgeecdgebemdaaGreatDoor.prg

/- The law's own copy of a list of tasks and of a program, every block of it known whole. -/
namespace Go.Proofs.YtmgeecdgebemdaaGreatDoor.prg
open Go Go.ChangeShapes Go.WideShapes Go.ChangeAt Go.RowKit Go.Proofs.YtmgeecdgebemdaaGreatDoor.row Go.Proofs.YtmgeecdgebemdaaGreatDoor.val Go.Proofs.YtmgeecdgebemdaaGreatDoor.expr Go.Proofs.YtmgeecdgebemdaaGreatDoor.stm Go.Proofs.YtmgeecdgebemdaaGreatDoor.blk
/-- The first 'k' tasks lie in these cells, the statements of each in a block behind 'G', known whole. -/
def PrefX (w : World) (P : List Tk) (G : Nat) (cs : Array Value) (k : Nat) : Prop :=
  ∀ j, j < k → ∃ (t : Tk) (g : Nat), P[j]? = some t ∧ (∀ i v, (tkC (some ⟨g, 0, none⟩) t.b.length t.b.length t)[i]? = some v → cs[j * 4 + i]? = some v) ∧ G < g ∧ Box g (stsC t.b).toArray 112 w
theorem PrefX.zero (w : World) (P : List Tk) (G : Nat) (cs : Array Value) : PrefX w P G cs 0 := fun j h => by omega
theorem PrefX.below {w w' : World} {P : List Tk} {G : Nat} {cs : Array Value} {k : Nat} (h : PrefX w P G cs k) (hb : Below w.heap.size w w') : PrefX w' P G cs k := fun j hj => by
  obtain ⟨t, g, h1, h2, h3, h4⟩ := h j hj
  exact ⟨t, g, h1, h2, h3, h4.below hb⟩
theorem PrefX.grown {w w' : World} {P : List Tk} {G : Nat} {cs : Array Value} {k : Nat} (h : PrefX w P G cs k) (hg : w.grownBy w' (some G)) : PrefX w' P G cs k := fun j hj => by
  obtain ⟨t, g, h1, h2, h3, h4⟩ := h j hj
  exact ⟨t, g, h1, h2, h3, h4.grown hg (fun e => by have := Option.some.inj e; omega)⟩
theorem PrefX.next {w : World} {P : List Tk} {G : Nat} {cs : Array Value} {k g : Nat} {t : Tk} (h : PrefX w P G cs k) (ht : P[k]? = some t) (hs : k * 4 + 4 ≤ cs.size) (hne : G < g) (hr : Box g (stsC t.b).toArray 112 w) :
    PrefX w P G (setAll cs (k * 4) (tkC (some ⟨g, 0, none⟩) t.b.length t.b.length t)) (k + 1) := fun j hj => by
  by_cases e : j = k
  · subst e
    refine ⟨t, g, ht, fun i v hv => ?_, hne, hr⟩
    have hi : i < 4 := by have := (List.getElem?_eq_some_iff.1 hv).1; simpa [tkC] using this
    rw [setAll_in _ _ _ i (by simpa [tkC] using hi) (by omega)]; exact hv
  · obtain ⟨t', g', h1, h2, h3, h4⟩ := h j (by omega)
    refine ⟨t', g', h1, fun i v hv => ?_, h3, h4⟩
    have hi : i < 4 := by have := (List.getElem?_eq_some_iff.1 hv).1; simpa [tkC] using this
    rw [setAll_out _ _ _ _ (by left; omega)]; exact h2 i v hv
/-- A program's tasks in blocks from 'lo' on, each block known whole. -/
def PrgX (lo : Nat) (w : World) (a : Option Addr) (n : Nat) (P : List Tk) : Prop :=
  P.length = n ∧ ∃ (g : Nat) (cs : Array Value), a = some ⟨g, 0, none⟩ ∧ lo ≤ g ∧ Box g cs 96 w ∧ cs.size = n * 4 ∧ PrefX w P g cs n
theorem PrgX.from {lo : Nat} {w : World} {a : Option Addr} {n : Nat} {P : List Tk} (h : PrgX lo w a n P) : TkFrom lo w a n P := by
  obtain ⟨hl, g, cs, rfl, hlo, hb, _, hP⟩ := h
  refine ⟨hl, fun k hk => ?_⟩
  obtain ⟨t, b, h1, h2, h3, h4⟩ := hP k hk
  exact ⟨g, t, b, t.b.length, t.b.length, rfl, hlo, hb.lt, h1, fun j v hj => by rw [hb.cell]; exact h2 j v hj, Nat.le_refl _, by omega, StRow.of_box' h4 rfl⟩
theorem PrgX.row {lo : Nat} {w : World} {a : Option Addr} {n : Nat} {P : List Tk} (h : PrgX lo w a n P) : TkRow w a n P := h.from.row
theorem PrgX.mono {lo lo' : Nat} {w : World} {a : Option Addr} {n : Nat} {P : List Tk} (h : PrgX lo w a n P) (hl : lo' ≤ lo) : PrgX lo' w a n P := by
  obtain ⟨h1, g, cs, h2, h3, h4⟩ := h
  exact ⟨h1, g, cs, h2, Nat.le_trans hl h3, h4⟩
theorem PrgX.below {lo : Nat} {w w' : World} {a : Option Addr} {n : Nat} {P : List Tk} (h : PrgX lo w a n P) (hb : Below w.heap.size w w') : PrgX lo w' a n P := by
  obtain ⟨h1, g, cs, h2, h3, h4, h5, h6⟩ := h
  exact ⟨h1, g, cs, h2, h3, h4.below hb, h5, h6.below hb⟩
theorem PrgX.grown {lo : Nat} {w w' : World} {a : Option Addr} {n G : Nat} {P : List Tk} (h : PrgX lo w a n P) (hg : w.grownBy w' (some G)) (hG : G < lo) : PrgX lo w' a n P := by
  obtain ⟨h1, g, cs, h2, h3, h4, h5, h6⟩ := h
  exact ⟨h1, g, cs, h2, h3, h4.grown hg (fun e => by have := Option.some.inj e; omega), h5, fun j hj => by
    obtain ⟨t, b, q1, q2, q3, q4⟩ := h6 j hj
    exact ⟨t, b, q1, q2, q3, q4.grown hg (fun e => by have := Option.some.inj e; omega)⟩⟩
theorem PrefX.row {w : World} {P : List Tk} {cs : Array Value} {g n : Nat} (h : PrefX w P g cs n) (hl : P.length = n) (hs : cs.size = n * 4) (hb : Box g cs 96 w) : PrgX g w (some ⟨g, 0, none⟩) n P :=
  ⟨hl, g, cs, rfl, Nat.le_refl _, hb, hs, h⟩
/-- A copy of the list of tasks in new memory. -/
def MadeTksX (w : World) (n : Nat) (P : List Tk) (e : Ending) (w' : World) : Prop :=
  ∃ a' : Option Addr, e = .returned (.slice a' n n) ∧ Hid (PrgX w.heap.size w' a' n P) ∧ Below w.heap.size w w'
/-- A copy of the program in new memory. -/
def MadePrgX (w : World) (n : Nat) (P : List Tk) (e : Ending) (w' : World) : Prop :=
  ∃ a' : Option Addr, e = .returned (.agg #[.slice a' n n]) ∧ Hid (PrgX w.heap.size w' a' n P) ∧ Below w.heap.size w w'
set_option maxHeartbeats 2000000 in
set_option maxRecDepth 100000 in
theorem totasks_box (w : World) (a : Option Addr) (n cap : Nat) (P : List Tk) (hz : Sizes P) (h : TkRow w a n P) : Calls Tryz.prog 65 #[.slice a n cap] w (MadeTksX w n P) := by
  obtain ⟨i0, hi, hz0, hz1, hz2⟩ := info_parts infoTask
  have HL := Lib.hid h
  have HZ := Lib.hid hz
  have hn : (n : Int) ≤ 1048576 := by have := hz.1; rw [h.1] at this; omega
  clear h hz
  go_enter Tryz.func65, Tryz.ntmps65
  go_wp2_with ((refine wpList_make_full _ rfl _ _ 24 rfl w.heap.size 96 i0 _ 4 Tryz.underlying24 hi hz0 hz1 .i64 .i64 _ _ n rfl rfl rfl rfl (by rw [hz2]; omega) (by unfold maxLen; omega) (Nat.le_refl _) ?_); intro w1 hown1 hg1; refine Hid.out ?_)
  have hsz1 := hown1.1
  have hx1 := own_boxz hown1
  have hb1 := below_grown hg1
  obtain ⟨cs0, hcs0⟩ : ∃ cs0, (madeCells (tkV none 0 0 ⟨[], 0, 0, 0⟩).cells (n * 4)).toList.toArray = cs0 := ⟨_, rfl⟩
  rw [hcs0] at hx1
  have hs0 : cs0.size = n * 4 := by rw [← hcs0, List.size_toArray]; exact hsz1
  clear hg1 hown1 hsz1 hcs0
  refine Lib.hid ?_
  go_wp2
  go_loopw [4] (fun i wr => ∃ (k : Nat) (cs : Array Value), k ≤ n ∧ i = .int .i64 k ∧ Box w.heap.size cs 96 wr ∧ Hid (cs.size = n * 4 ∧ PrefX wr P w.heap.size cs k) ∧ Below w.heap.size w wr) (fun i _ => n - (intOf i).toNat)
  case atStart => exact ⟨0, cs0, Nat.zero_le _, rfl, hx1, ⟨hs0, PrefX.zero _ _ _ _⟩, hb1⟩
  case round =>
    obtain ⟨k, cs, hk, rfl, hbx, hPF, hbel⟩ := hrel
    by_cases hlt : k < n
    · obtain ⟨b, off, t, rfl, hlb, ht, ab, nb, cb, hrg, hbc, hrow⟩ := (HL.out.below hbel).2 k hlt
      have hnb : (nb : Int) ≤ 1048576 := by have := HZ.out.2 t (mem_at ht); rw [hrow.1] at this; omega
      have HR := Lib.hid (And.intro hrg (And.intro ht (And.intro hbx (And.intro hbel hrow))))
      have hI : (k : Int) < n := by omega
      clear hrg ht hbx hbel hrow
      go_wp2_with (first
        | (refine wpList_load_mid rfl 152 _ rfl b (off + k * 4) rfl (tkC ab nb cb t) _ HR.out.1 Tryz.underlying152 rfl (by kernel_rfl) ?_)
        | (go_at_call 127; refine (totask_box t ab nb cb _ hnb HR.out.2.2.2.2).mono ?_; rintro e w2 ⟨g2, n2, rfl, hg2, hs2, hb2⟩; refine Hid.out ?_))
      have H2 := Lib.hid (And.intro (HR.out.2.2.1.below hb2) (And.intro (below_then HR.out.2.2.2.1 hb2) (hPF.out.2.below hb2)))
      have HGL := Lib.hid HR.out.2.2.1.lt
      have HNE := Lib.hid (show w.heap.size < g2 by have := HR.out.2.2.1.lt; omega)
      clear hg2
      have HSZ := Lib.hid (show k * 4 + 4 ≤ cs.size by rw [hPF.out.1]; omega)
      clear hb2
      refine Lib.hid ?_
      go_wp2_with ((refine wpList_store_part rfl 96 _ _ rfl w.heap.size (k * 4) _ _ H2.out.1 #[.slice (some ⟨g2, 0, none⟩) n2 n2, .int .i64 t.o, .int .i64 t.x, .int .i64 t.y] rfl rfl HSZ.out (by kernel_rfl) (by simp [Value.oneCell']) ?_); intro w3 hx3 hg3; refine Hid.out ?_)
      obtain ⟨hs2l, hs2b⟩ := hs2.out
      subst hs2l
      have HS3 := hs2b.grown hg3 (fun e => by have := Option.some.inj e; have := HNE.out; omega)
      have H3 := Lib.hid (And.intro (show Box w.heap.size (setAll cs (k * 4) (tkC (some ⟨g2, 0, none⟩) t.b.length t.b.length t)) 96 w3 from hx3) (And.intro (And.intro (show (setAll cs (k * 4) (tkC (some ⟨g2, 0, none⟩) t.b.length t.b.length t)).size = n * 4 by rw [setAll_size]; exact hPF.out.1) ((H2.out.2.2.grown hg3).next HR.out.2.1 HSZ.out HNE.out HS3)) (H2.out.2.1.grown hg3 H2.out.2.1.size (fun j hj => by cases hj; exact Nat.le_refl _))))
      clear hx3 hg3 HS3
      refine Lib.hid ?_
      go_wp2
      go_roundw
      case rel => exact ⟨k + 1, _, by omega, by go_num, H3.out.1, H3.out.2.1, H3.out.2.2⟩
      case measure => simp [intOf]; omega
    · obtain rfl : k = n := by omega
      have hI : ¬ (k : Int) < k := by omega
      have HB := Lib.hid (And.intro (hPF.out.2.row HL.out.1 hPF.out.1 hbx) hbel)
      clear hbx hbel
      go_wp2
      go_ret
      exact ⟨_, rfl, HB.out.1, HB.out.2⟩
set_option maxHeartbeats 2000000 in
set_option maxRecDepth 100000 in
theorem toprogram_box (w : World) (a : Option Addr) (n cap : Nat) (P : List Tk) (hz : Sizes P) (h : TkRow w a n P) : Calls Tryz.prog 19 #[.agg #[.slice a n cap]] w (MadePrgX w n P) := by
  obtain ⟨W, hW⟩ : ∃ W, W = ((w.alloc (.cells #[.slice a n cap] 40)).alloc (.cells #[.slice none 0 0] 26)).alloc (.cells #[.slice none 0 0] 26) := ⟨_, rfl⟩
  have hs : W.heap.size = w.heap.size + 3 := by rw [hW]; simp
  have e1 : ∀ x : Obj, (w.alloc x).heap.size = w.heap.size + 1 := fun x => by simp
  have e2 : ∀ x y : Obj, ((w.alloc x).alloc y).heap.size = w.heap.size + 2 := fun x y => by simp
  have b1 : Box (w.heap.size + 1) #[.slice none 0 0] 26 W := by
    have h9 := (Box.new (w.alloc (.cells #[.slice a n cap] 40)) #[.slice none 0 0] 26).alloc (.cells #[.slice none 0 0] 26)
    rw [e1] at h9; rw [hW]; exact h9
  have b2 : Box (w.heap.size + 2) #[.slice none 0 0] 26 W := by
    have h9 := Box.new ((w.alloc (.cells #[.slice a n cap] 40)).alloc (.cells #[.slice none 0 0] 26)) #[.slice none 0 0] 26
    rw [e2] at h9; rw [hW]; exact h9
  have hb : Below w.heap.size w W := by
    rw [hW]; exact (((Below.refl _ _).alloc (Nat.le_refl _) _).alloc (by simp) _).alloc (by simp; omega) _
  have H0 := Lib.hid (And.intro b1 (And.intro b2 (And.intro hb (h.below hb))))
  have HS := Lib.hid hs
  have HW := Lib.hid hW
  have HZ := Lib.hid hz
  clear b1 b2 hb hs hW e1 e2 h hz
  go_enter Tryz.func19, Tryz.ntmps19
  go_wp2_with (go_at_call 65; rw [← HW.out]; refine (totasks_box W a n cap P HZ.out H0.out.2.2.2).mono ?_; rintro e w1 ⟨a1, rfl, hT1, hb1⟩; refine Hid.out ?_)
  have b2 := H0.out.2.1.below hb1
  have c : w1.cell? ⟨w.heap.size + 2, 0, none⟩ = some (.slice none 0 0) := b2.cell 0
  have f : w1.frozen? ⟨w.heap.size + 2, 0, none⟩ = false := b2.frozen 0
  have H1 := Lib.hid (And.intro b2 (And.intro (H0.out.1.below hb1) (And.intro (H0.out.2.2.1.trans (hb1.mono (by have := HS.out; omega))) hT1)))
  have HS1 := Lib.hid hb1.size
  clear b2 hb1
  refine Lib.hid ?_
  go_wp2_with (first
    | (refine wpList_load_row rfl 26 _ rfl (w.heap.size + 2) rfl _ _ _ _ (H1.out.1.set 0 (.slice a1 n n)) Tryz.underlying26 rfl (by kernel_rfl) ?_)
    | ((refine wpList_store_box rfl 26 _ _ rfl (w.heap.size + 1) _ _ (H1.out.2.1.set_other (by simp) _) #[.slice a1 n n] rfl rfl rfl (by kernel_rfl) (by simp [Value.oneCell']) ?_); intro w4 hx4 hg4; refine Hid.out ?_))
  have hT4 := ((H1.out.2.2.2.out).grown (grown_setCell w1 (w.heap.size + 2) 0 (.slice a1 n n)) (by have := HS.out; omega)).grown hg4 (by have := HS.out; omega)
  have hb4 := ((H1.out.2.2.1.setCell (by show w.heap.size ≤ w.heap.size + 2; omega) (.slice a1 n n))).grown hg4 (by have := H1.out.2.2.1.size; simpa using this) (fun j hj => by cases hj; omega)
  have H4 := Lib.hid (And.intro hx4 (And.intro (hT4.mono (show w.heap.size ≤ W.heap.size by have := HS.out; omega)) hb4))
  clear hx4 hg4 hT4 hb4 c f
  refine Lib.hid ?_
  go_wp2
  exact bodyPost_ret (v := .agg #[.slice a1 n n]) (results_cell_row rfl _ _ (w.heap.size + 1) _ _ _ _ rfl H4.out.1 Tryz.underlying26 rfl (by kernel_rfl)) rfl ⟨_, rfl, H4.out.2.1, H4.out.2.2⟩
end Go.Proofs.YtmgeecdgebemdaaGreatDoor.prg
