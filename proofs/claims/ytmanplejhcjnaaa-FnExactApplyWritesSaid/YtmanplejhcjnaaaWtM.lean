/- Chapter 10 of the model: WriteWord, ApplyWrites; new rows; nothing that was there is written. -/
import Derived.Test.YtmanplejhcjnaaaWtI
import Derived.Laws.AppendOwn
namespace Go.Proofs.Ytmanplejhcjnaaa.wrt
open Go Go.ChangeShapes Go.WideShapes Go.ChangeAt Go.RowKit Go.Proofs.Ytmanplejhcjnaaa.row Go.Proofs.Ytmanplejhcjnaaa.val Go.Proofs.Ytmanplejhcjnaaa.expr Go.Proofs.Ytmanplejhcjnaaa.grow

theorem made_at (w : World) (k B : Nat) (hk : w.heap.size = k) (hB : B ≤ k) (e : TypeId) : (w.alloc (.cells #[] e)).ownsRow B e 1 (.slice (some ⟨k, 0, none⟩) 0 0) 0 [] := by
  subst hk; exact World.ownsRow_made w #[] 0 hB (Nat.zero_le _) rfl
theorem own_slice {w : World} {B : Nat} {ty : TypeId} {v : Value} {n : Nat} {xs : List Value} (h : w.ownsRow B ty 1 v n xs) : ∃ ad cap, v = .slice ad n cap := by
  rcases h.2 with ⟨e, e0⟩ | ⟨g, c, _, e, _⟩
  · exact ⟨_, _, by rw [e, e0]⟩
  · exact ⟨_, _, e⟩
theorem stored_put {w : World} {B g n c m : Nat} {P : List Int} {v : Int} (h : w.ownsRow B 3 1 (.slice (some ⟨g, 0, none⟩) n c) n (ivs P)) : (w.setCell ⟨g, m, none⟩ (.int .i64 v)).ownsRow B 3 1 (.slice (some ⟨g, 0, none⟩) n c) n (ivs (P.set m v)) := by
  have := (h.stored m (.int .i64 v)).1
  rw [ivs_set] at this; exact this
theorem word_in {p : Int} {n m : Nat} (hp : p = m) (hm : m < n) : (decide (0 ≤ p) && decide (p ≤ (n : Int) - 1)) = true := by simp; omega
theorem word_out {p : Int} {n : Nat} (h : ¬ (0 ≤ p ∧ p < n)) : (decide (0 ≤ p) && decide (p ≤ (n : Int) - 1)) = false := by
  rw [← Bool.not_eq_true, Bool.and_eq_true, decide_eq_true_eq, decide_eq_true_eq]; omega
set_option maxHeartbeats 2000000 in
set_option maxRecDepth 100000 in
theorem spec_write (w : World) (b off n cap : Nat) (M : List Int) (s : Wt) (hn : (n : Int) ≤ 1048576) (hM : Row w (some ⟨b, off, none⟩) n M) :
    Calls Try.prog 18 #[.slice (some ⟨b, off, none⟩) n cap, writeV s] w (NewInts w (put1 M s)) := by
  obtain ⟨i0, hi, hz0, hz1, hz2⟩ := info_parts infoInt
  have hml := hM.1
  have HL := Lib.hid (show (ivs M).length = n * 1 by rw [ivs_length, hml]; omega)
  have HN : Hid (∀ w' : World, Below w.heap.size w w' → ∀ j u, (ivs M)[j]? = some u → w'.cell? ((⟨b, off, none⟩ : Addr).add j) = some u) := fun w' hb j u hj => by rw [Addr.add_mid]; exact row_range (hM.below hb) j u hj
  have H1 := Lib.hid (ivs_one M)
  have HBW := Lib.hid (below_then (below_new w (.cells #[.int .i64 s.p, .int .i64 s.v] 34)) (below_new _ (.cells #[] 3)))
  have HX := Lib.hid ((Box.new w #[.int .i64 s.p, .int .i64 s.v] 34).below (below_new _ (.cells #[] 3)))
  clear hM
  obtain ⟨p, v⟩ := s
  go_enter Try.func18, Try.ntmps18
  go_wp2_with (at_builtin; refine wpList_append_own _ rfl _ _ 24 rfl w.heap.size 3 i0 (.int .i64 0) 1 8 Try.underlying24 hi hz0 hz1 hz2 rfl (by decide) _ _ _ rfl (made_at _ (w.heap.size + 1) w.heap.size (by simp) (by omega) _) ⟨b, off, none⟩ n cap (ivs M) rfl HL.out (HN.out _ HBW.out) H1.out (by unfold maxLen; omega) (by omega) (by simp; omega) ?_; intro v' w1 hown hgrow _; refine Hid.out ?_)
  have hb := HBW.out.grown hgrow (by simp; omega) (fun k hk => by cases hk; exact Nat.le_succ _)
  rw [Nat.zero_add, List.nil_append] at hown
  have hx1 := HX.out.grown hgrow (fun e => absurd (Option.some.inj e) (Nat.ne_of_lt (Nat.lt_succ_self _)))
  have c0 := hx1.cell 0
  have c1 := hx1.cell 1
  obtain ⟨ad, c, rfl⟩ := own_slice hown
  have HF := Lib.hid (And.intro hown hb)
  have hws := hb.size
  clear hown hgrow hb hx1
  refine Lib.hid ?_
  by_cases hin : 0 ≤ p ∧ p < n
  · obtain ⟨m, rfl⟩ : ∃ m : Nat, p = m := ⟨p.toNat, by omega⟩
    have hmn : m < n := by omega
    have HD := Lib.hid (word_in (p := (m : Int)) rfl hmn)
    have HP := Lib.hid (put1_in (M := M) (x := ⟨m, v⟩) rfl (by rw [hml]; exact hmn))
    obtain ⟨g, X, rfl, hg1, hg2, hX, hfz⟩ := own_store HF.out.1 hmn
    have hmI : (m : Int) < n := by omega
    clear hin
    go_wp2_with (go_at_call 38; refine (in_any _ _ _ true HD.out _).mono ?_; rintro e w2 ⟨rfl, rfl⟩)
    go_ret
    exact ⟨_, _, _, rfl, by rw [HP.out]; exact stored_put HF.out.1, HF.out.2.grown (grown_setCell _ g m _) HF.out.2.size (fun j hj => by cases hj; exact hg1)⟩
  · have HD := Lib.hid (word_out (p := p) (n := n) hin)
    have HP := Lib.hid (put1_out (M := M) (x := ⟨p, v⟩) (by rw [hml]; exact hin))
    clear hin
    go_wp2_with (go_at_call 38; refine (in_any _ _ _ false HD.out _).mono ?_; rintro e w2 ⟨rfl, rfl⟩)
    go_ret
    exact ⟨_, _, _, rfl, by rw [HP.out]; exact HF.out.1, HF.out.2⟩
end Go.Proofs.Ytmanplejhcjnaaa.wrt
