/- The walk of the program's own parser: it ends as it must. -/
import Derived.Test.YtmdpdfdiknfopaaDoorPuW
import Derived.Lib.AtoiErrMem
namespace Go.Proofs.YtmdpdfdiknfopaaDoor.pu
open Go Go.ChangeShapes Go.WideShapes Go.ChangeAt Go.RowKit Go.Proofs.YtmdpdfdiknfopaaDoor.byt Go.Proofs.YtmdpdfdiknfopaaDoor.dec Go.Proofs.YtmdpdfdiknfopaaDoor.lay

theorem atoi_ok (s : ByteArray) (hs : s.size ≤ 1048576) (v : Int) (h : Lib.atoiAll s.data.toList = .ok v) (w : World) :
    Calls Tryd.prog 29 #[.string s] w fun e w' => e = .returned (.tuple #[.int .i64 v, .nilIface]) ∧ Below w.heap.size w w' :=
  (Go.Proofs.Any.strconv_Atoi_ok Tryd.laysC172 s (by omega) v h w).mono fun e w' ⟨he, hw⟩ => ⟨he, by
    rcases hw with rfl | ⟨t, rfl⟩
    · exact Below.refl _ _
    · exact Lib.bytesWorld_below _ _ _⟩

/-- The parser's error: some number, and an error that is not nil. -/
def BadOut (w : World) (e : Ending) (w' : World) : Prop := ∃ (x : Int) (N : Nat), e = .returned (.tuple #[.int .i64 x, .iface 62 (.pointer (some ⟨N, 0, none⟩))]) ∧ Below w.heap.size w w'

theorem atoi_bad (s : ByteArray) (hs : s.size ≤ 1048576) (h : ∀ v, Lib.atoiAll s.data.toList ≠ .ok v) (w : World) {a0 a1 : Addr}
    (hv0 : w.var? Tryd.prog "strconv.ErrRange" = some #[.iface 85 (.pointer (some a0))]) (hv1 : w.var? Tryd.prog "strconv.ErrSyntax" = some #[.iface 85 (.pointer (some a1))]) :
    Calls Tryd.prog 29 #[.string s] w (BadOut w) := by
  cases hh : Lib.atoiAll s.data.toList
  · exact absurd hh (h _)
  · exact (Go.Proofs.Any.strconv_Atoi_syntax_var Tryd.laysC172 s (by omega) hh _ _ w hv1).mono fun e w' ⟨N, he, _, _, hb⟩ => ⟨0, N, he, hb⟩
  · exact (Go.Proofs.Any.strconv_Atoi_range_var Tryd.laysC172 s (by omega) hh _ _ w hv0).mono fun e w' ⟨N, he, _, _, hb⟩ => ⟨_, N, he, hb⟩

set_option maxHeartbeats 1000000 in
set_option maxRecDepth 100000 in
theorem impl_pu (s : ByteArray) (hs : s.size ≤ 1048576) (w : World) (hT : Lib.TabBelow Tryd.prog w.heap.size w "internal/strconv.uint64pow10" .u64 Lib.pow10Tab) {a0 a1 : Addr}
    (hv0 : w.var? Tryd.prog "strconv.ErrRange" = some #[.iface 85 (.pointer (some a0))]) (hv1 : w.var? Tryd.prog "strconv.ErrSyntax" = some #[.iface 85 (.pointer (some a1))]) :
    Calls Tryd.prog 14 #[.string s] w (PuOut s.data.toList w) := by
  have HT := Lib.hid hT
  have HS := Lib.hid hs
  have HV0 := Lib.hid hv0
  have HV1 := Lib.hid hv1
  clear hT hs hv0 hv1
  by_cases hex : ∃ v, Lib.atoiAll s.data.toList = .ok v
  · obtain ⟨v, hv⟩ := hex
    have HV := Lib.hid hv
    clear hv
    have hout : ¬ (0 ≤ v ∧ v ≤ 1000000000) → IsPu s.data.toList 0 false := fun h => no_atoi fun n h0 h1 e hn => by
      rw [HV.out] at hn; injection hn with hn; omega
    rcases (show v < 0 ∨ (0 ≤ v ∧ 1000000000 < v) ∨ (0 ≤ v ∧ v ≤ 1000000000) by omega) with h | ⟨h, h'⟩ | ⟨h, h'⟩
    · have HP := Lib.hid (hout (by omega))
      clear hout
      go_enter Tryd.func14, Tryd.ntmps14
      go_wp2_with (go_at_call 29; refine (atoi_ok s HS.out v HV.out _).mono ?_; rintro e w1 ⟨rfl, hb1⟩)
      go_ret2
      exact ⟨_, _, rfl, HP.out, hb1⟩
    · have HP := Lib.hid (hout (by omega))
      clear hout
      go_enter Tryd.func14, Tryd.ntmps14
      go_wp2_with (go_at_call 29; refine (atoi_ok s HS.out v HV.out _).mono ?_; rintro e w1 ⟨rfl, hb1⟩)
      go_ret2
      exact ⟨_, _, rfl, HP.out, hb1⟩
    · have HP : Hid (Lib.itoa v ≠ s.data.toList → IsPu s.data.toList 0 false) := fun hne => no_atoi fun n h0 h1 e hn => by
        rw [HV.out] at hn; injection hn with hn; rw [← hn] at e; exact hne e
      clear hout
      go_enter Tryd.func14, Tryd.ntmps14
      go_wp2_with (first
        | (go_at_call 29; refine (atoi_ok s HS.out v HV.out _).mono ?_; rintro e w1 ⟨rfl, hb1⟩)
        | (go_at_call 11; refine (impl_fmt v (by omega) (by omega) _ (HT.out.on hb1).here).mono ?_; rintro e w2 ⟨rfl, hb2⟩))
      · have ht : (!Lib.itoa v == s.toList) = true := by assumption
        go_ret2
        exact ⟨_, _, rfl, HP.out (text_ne ht), hb1.trans (hb2.mono hb1.size)⟩
      · have ht : (!Lib.itoa v == s.toList) = false := by assumption
        go_ret2
        exact ⟨_, _, rfl, .inl ⟨rfl, h, h', text_eq ht⟩, hb1.trans (hb2.mono hb1.size)⟩
  · have HE : Hid (∀ v, Lib.atoiAll s.data.toList ≠ .ok v) := fun v hv => hex ⟨v, hv⟩
    have HP := Lib.hid (no_atoi (l := s.data.toList) fun n _ _ _ hn => HE.out n hn)
    clear hex
    go_enter Tryd.func14, Tryd.ntmps14
    go_wp2_with (go_at_call 29; refine (atoi_bad s HS.out HE.out _ HV0.out HV1.out).mono ?_; rintro e w1 ⟨x, N, rfl, hb1⟩)
    go_ret2
    exact ⟨_, _, rfl, HP.out, hb1⟩
end Go.Proofs.YtmdpdfdiknfopaaDoor.pu
