/- Several texts in one: TkB. -/
import Derived.Test.YtlicadaecfgklaaGHub21

/- The law's own copy, size and comparison of a list of tasks and of a program; nothing that was there is written. -/
namespace Go.Proofs.Ytlicadaecfgklaa.prg
open Go Go.ChangeShapes Go.WideShapes Go.ChangeAt Go.RowKit Go.Proofs.Ytlicadaecfgklaa.row Go.Proofs.Ytlicadaecfgklaa.val Go.Proofs.Ytlicadaecfgklaa.expr Go.Proofs.Ytlicadaecfgklaa.stm Go.Proofs.Ytlicadaecfgklaa.blk

theorem infoTask : (Try.prog.info? 74).map (fun i => (i.zero, i.size, i.bytes)) = some (some (tkV none 0 0 ⟨[], 0, 0, 0⟩), 4, 48) := by kernel_rfl
theorem prg_at {P : List Tk} {k : Nat} (h : k < P.length) : ∃ t, P[k]? = some t := ⟨P[k], by simp [h]⟩
theorem mem_at {P : List Tk} {k : Nat} {t : Tk} (h : P[k]? = some t) : t ∈ P := List.mem_of_getElem? h
/-- A copy of the list of tasks in new memory. -/
def MadeTks (w : World) (n : Nat) (P : List Tk) (e : Ending) (w' : World) : Prop :=
  ∃ a' : Option Addr, e = .returned (.slice a' n n) ∧ Hid (TkFrom w.heap.size w' a' n P) ∧ Below w.heap.size w w'
/-- A copy of the program in new memory. -/
def MadePrg (w : World) (n : Nat) (P : List Tk) (e : Ending) (w' : World) : Prop :=
  ∃ a' : Option Addr, e = .returned (.agg #[.slice a' n n]) ∧ Hid (TkFrom w.heap.size w' a' n P) ∧ Below w.heap.size w w'
set_option maxHeartbeats 2000000 in
set_option maxRecDepth 100000 in
theorem totasks_any (w : World) (a : Option Addr) (n cap : Nat) (P : List Tk) (hz : Sizes P) (h : TkRow w a n P) : Calls Try.prog 40 #[.slice a n cap] w (MadeTks w n P) := by
  obtain ⟨i0, hi, hz0, hz1, hz2⟩ := info_parts infoTask
  have HL := Lib.hid h
  have HZ := Lib.hid hz
  have hn : (n : Int) ≤ 1048576 := by have := hz.1; rw [h.1] at this; omega
  clear h hz
  go_enter Try.func40, Try.ntmps40
  go_wp2_with ((refine wpList_make_full _ rfl _ _ 36 rfl w.heap.size 74 i0 _ 4 Try.underlying36 hi hz0 hz1 .i64 .i64 _ _ n rfl rfl rfl rfl (by rw [hz2]; omega) (by unfold maxLen; omega) (Nat.le_refl _) ?_); intro w1 hown1 hg1; refine Hid.out ?_)
  have hsz1 := hown1.1
  have hx1 := own_boxz hown1
  have hb1 := below_grown hg1
  obtain ⟨cs0, hcs0⟩ : ∃ cs0, (madeCells (tkV none 0 0 ⟨[], 0, 0, 0⟩).cells (n * 4)).toList.toArray = cs0 := ⟨_, rfl⟩
  rw [hcs0] at hx1
  have hs0 : cs0.size = n * 4 := by rw [← hcs0, List.size_toArray]; exact hsz1
  clear hg1 hown1 hsz1 hcs0
  refine Lib.hid ?_
  go_wp2
  go_loopw [4] (fun i wr => ∃ (k : Nat) (cs : Array Value), k ≤ n ∧ i = .int .i64 k ∧ Box w.heap.size cs 74 wr ∧ Hid (cs.size = n * 4 ∧ Pref wr P w.heap.size cs k) ∧ Below w.heap.size w wr) (fun i _ => n - (intOf i).toNat)
  case atStart => exact ⟨0, cs0, Nat.zero_le _, rfl, hx1, ⟨hs0, Pref.zero _ _ _ _⟩, hb1⟩
  case round =>
    obtain ⟨k, cs, hk, rfl, hbx, hPF, hbel⟩ := hrel
    by_cases hlt : k < n
    · obtain ⟨b, off, t, rfl, hlb, ht, ab, nb, cb, hrg, hbc, hrow⟩ := (HL.out.below hbel).2 k hlt
      have hnb : (nb : Int) ≤ 1048576 := by have := HZ.out.2 t (mem_at ht); rw [hrow.1] at this; omega
      have HR := Lib.hid (And.intro hrg (And.intro ht (And.intro hbx (And.intro hbel hrow))))
      have hI : (k : Int) < n := by omega
      clear hrg ht hbx hbel hrow
      go_wp2_with (first
        | (refine wpList_load_mid rfl 69 _ rfl b (off + k * 4) rfl (tkC ab nb cb t) _ HR.out.1 Try.underlying69 rfl (by kernel_rfl) ?_)
        | (go_at_call 55; refine (totask_any t ab nb cb _ hnb HR.out.2.2.2.2).mono ?_; rintro e w2 ⟨g2, n2, rfl, hg2, hs2, hb2⟩; refine Hid.out ?_))
      have H2 := Lib.hid (And.intro (HR.out.2.2.1.below hb2) (And.intro (below_then HR.out.2.2.2.1 hb2) (hPF.out.2.below hb2)))
      have HGL := Lib.hid HR.out.2.2.1.lt
      have HNE := Lib.hid (show w.heap.size < g2 by have := HR.out.2.2.1.lt; omega)
      clear hg2
      have HSZ := Lib.hid (show k * 4 + 4 ≤ cs.size by rw [hPF.out.1]; omega)
      clear hb2
      refine Lib.hid ?_
      go_wp2_with ((refine wpList_store_part rfl 74 _ _ rfl w.heap.size (k * 4) _ _ H2.out.1 #[.slice (some ⟨g2, 0, none⟩) n2 n2, .int .i64 t.o, .int .i64 t.x, .int .i64 t.y] rfl rfl HSZ.out (by kernel_rfl) (by simp [Value.oneCell']) ?_); intro w3 hx3 hg3; refine Hid.out ?_)
      have HS3 := StRow.grown_box hs2.out hg3 (fun e => by have := Option.some.inj e; have := HNE.out; omega)
      have H3 := Lib.hid (And.intro (show Box w.heap.size (setAll cs (k * 4) (tkC (some ⟨g2, 0, none⟩) n2 n2 t)) 74 w3 from hx3) (And.intro (And.intro (show (setAll cs (k * 4) (tkC (some ⟨g2, 0, none⟩) n2 n2 t)).size = n * 4 by rw [setAll_size]; exact hPF.out.1) ((H2.out.2.2.grown hg3).next HR.out.2.1 HSZ.out HNE.out HS3)) (H2.out.2.1.grown hg3 H2.out.2.1.size (fun j hj => by cases hj; exact Nat.le_refl _))))
      clear hx3 hg3 HS3
      refine Lib.hid ?_
      go_wp2
      go_roundw
      case rel => exact ⟨k + 1, _, by omega, by go_num, H3.out.1, H3.out.2.1, H3.out.2.2⟩
      case measure => simp [intOf]; omega
    · obtain rfl : k = n := by omega
      have hI : ¬ (k : Int) < k := by omega
      have HB := Lib.hid (And.intro (hPF.out.2.row HL.out.1 hbx) hbel)
      clear hbx hbel
      go_wp2
      go_ret
      exact ⟨_, rfl, HB.out.1, HB.out.2⟩
end Go.Proofs.Ytlicadaecfgklaa.prg
