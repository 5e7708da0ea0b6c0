/- For every input the law FnArithmetic returns true and leaves its argument as it was; no condition. -/
import Derived.Test.YtdaeoohpelhooaaRows
import Derived.WalkKit
import Derived.ProofKit
import Derived.OpenShut
import Derived.ShutString
import Derived.ChangeOld
import Derived.Below
import Derived.Test.YtdaeoohpelhooaaVal
import Derived.Test.YtdaeoohpelhooaaPlaces
namespace Go.Proofs.Ytdaeoohpelhooaa.fnArithmetic
open Go.ChangeShapes Go.WideShapes Go.ChangeAt Go.RowKit
open Go.ChangeMaps (open_string shut_string)
set_option linter.unusedVariables false

theorem own : ownKnob Try.prog.godebug = none := by kernel_rfl
theorem laidOut : laidOutB Try.prog = true := by kernel_rfl

/-- WHAT THE WALK IS TOLD OF A SLICE OF INTEGERS THAT CAME IN: it is nil; or it leads to a row of 'cap' cells, the numbers 'zs' (the first 'len' are its elements, the rest its spare room), each fitting its kind. -/
def IsRow (k : IntKind) (w : World) (a : Option Addr) (len cap : Nat) (zs : List Int) : Prop :=
  (a = none ∧ len = 0 ∧ cap = 0 ∧ zs = []) ∨
  ∃ x, a = some x ∧ len ≤ cap ∧ cap ≤ maxLen ∧ zs.length = cap ∧ (∀ i, i < zs.length → w.cell? (x.add i) = some (.int k (zs.getD i 0))) ∧ ∀ n ∈ zs, (Lit.int k n).wf = true

open Go.Proofs.Ytdaeoohpelhooaa.val Go.Proofs.Ytdaeoohpelhooaa.cur
theorem add_is (a b v : Int) (w : World) (h : sat (sat a + sat b) = v) : Calls Try.prog 12 #[.int .i64 a, .int .i64 b] w (Ret w v) := by
  subst h; exact impl_add a b w
theorem sub_is (a b v : Int) (w : World) (h : sat (sat a - sat b) = v) : Calls Try.prog 13 #[.int .i64 a, .int .i64 b] w (Ret w v) := by
  subst h; exact impl_sub a b w
theorem mul_is (a b v : Int) (w : World) (h : sat (sat a * sat b) = v) : Calls Try.prog 14 #[.int .i64 a, .int .i64 b] w (Ret w v) := by
  subst h; exact impl_mul a b w
theorem val_is (n : Int) (v : Bool) (w : World) (h : isVal n = v) : Calls Try.prog 16 #[.int .i64 n] w (RetB w v) := by
  subst h; exact impl_isval n w
def Two (w : World) (e : Ending) (w' : World) : Prop := ∃ x y : Int, e = .returned (.tuple #[.int .i64 x, .int .i64 y]) ∧ Below w.heap.size w w'
theorem draw_any (a : Option Addr) (len cap : Nat) (w : World) (hlm : (len : Int) ≤ 1048576) (hb : ∀ i : Nat, i < len → ∃ (b off : Nat) (v : Int), a = some ⟨b, off, none⟩ ∧ w.cell? ⟨b, off + i, none⟩ = some (.int .u8 v)) :
    Calls Try.prog 11 #[.slice a len cap] w (Two w) := by
  have HB := Lib.hid hb
  clear hb
  go_enter Try.func11, Try.ntmps11
  go_wp2_with (go_at_call 24; refine (new_any a len cap _ hlm HB.out).mono ?_; rintro e w1 ⟨rfl, hc1, hb1⟩; refine Hid.out ?_)
  have hg0 := grownBy_refl w1 (some w.heap.size)
  have fin : Hid (∀ w', w1.grownBy w' (some w.heap.size) → Below w.heap.size w w') := fun w' g => hb1.grown g hb1.size (fun k hk => by cases hk; exact Nat.le_refl _)
  refine Lib.hid ?_
  go_wp2_with (go_at_call 25; refine (l02any_from w1 _ a len cap _ (by assumption) (by assumption)).mono ?_; rintro e w2 ⟨x, rfl, hxw, hc2, hg2⟩)
  go_ret2
  exact ⟨_, _, rfl, fin.out _ (by assumption)⟩

theorem small_prod {x r : Int} (hx : -5000 ≤ x ∧ x < 5000) (hr : -100 < r ∧ r < 100) : -1000000 ≤ x * r ∧ x * r ≤ 1000000 := by
  have h1 : 0 ≤ (x + 5000) * (r + 100) := Int.mul_nonneg (by omega) (by omega)
  have h2 : 0 ≤ (5000 - x) * (100 - r) := Int.mul_nonneg (by omega) (by omega)
  have h3 : 0 ≤ (x + 5000) * (100 - r) := Int.mul_nonneg (by omega) (by omega)
  have h4 : 0 ≤ (5000 - x) * (r + 100) := Int.mul_nonneg (by omega) (by omega)
  have e1 : (x + 5000) * (r + 100) = x * r + 100 * x + 5000 * r + 500000 := by
    rw [Int.add_mul, Int.mul_add, Int.mul_add, Int.mul_comm x 100]; omega
  have e2 : (5000 - x) * (100 - r) = 500000 - 5000 * r - 100 * x + x * r := by
    rw [Int.sub_mul, Int.mul_sub, Int.mul_sub, Int.mul_comm x 100]; omega
  have e3 : (x + 5000) * (100 - r) = 100 * x - x * r + 500000 - 5000 * r := by
    rw [Int.add_mul, Int.mul_sub, Int.mul_sub, Int.mul_comm x 100]; omega
  have e4 : (5000 - x) * (r + 100) = 5000 * r + 500000 - x * r - 100 * x := by
    rw [Int.sub_mul, Int.mul_add, Int.mul_add, Int.mul_comm x 100]; omega
  omega
theorem tmod_bd (y : Int) : -100 < y.tmod 100 ∧ y.tmod 100 < 100 := by
  have := Int.tmod_lt_of_pos y (show (0 : Int) < 100 by decide)
  have := Int.lt_tmod_of_pos y (show (0 : Int) < 100 by decide)
  omega

theorem walk (a0 : Option Addr) (len0 cap0 : Nat) (z0 : List Int) (w : World) (w0 : IsRow .u8 w a0 len0 cap0 z0) :
    Calls Try.prog 3 #[.slice a0 len0 cap0] w fun e w' => e = .returned (.bool true) ∧ Below w.heap.size w w' := by
  have HB : Hid (∀ i : Nat, i < len0 → ∃ (b off : Nat) (v : Int), a0 = some ⟨b, off, none⟩ ∧ w.cell? ⟨b, off + i, none⟩ = some (.int .u8 v)) := by
    intro i hi
    rcases w0 with ⟨_, h0, _⟩ | ⟨x, rfl, hl, _, hz, hcell, _⟩
    · omega
    · obtain ⟨b, off, rfl, hc⟩ := ints_at hcell (by omega)
      exact ⟨b, off, _, rfl, hc i (by omega)⟩
  have HB2 : Hid (∀ w1 : World, Below w.heap.size w w1 → ∀ i : Nat, i < len0 → ∃ (b off : Nat) (v : Int), a0 = some ⟨b, off, none⟩ ∧ w1.cell? ⟨b, off + i, none⟩ = some (.int .u8 v)) := by
    intro w1 hb1 i hi
    obtain ⟨b, off, v, ha, hv⟩ := HB.out i hi
    exact ⟨b, off, v, ha, (hb1.cell (World.block_lt_of_cell? w _ hv)).trans hv⟩
  clear w0
  by_cases hbig : (1048576 : Int) < len0
  · go_enter Try.func3, Try.ntmps3
    go_wp2_with (go_at_call 10; refine (big_yes _ _ _ _ hbig).mono ?_; rintro e w1 ⟨rfl, rfl⟩)
    go_ret
    exact ⟨rfl, Below.refl _ _⟩
  · have hsm : (len0 : Int) ≤ 1048576 := by omega
    clear hbig
    go_enter Try.func3, Try.ntmps3
    go_wp2_with (first
      | (go_at_call 10; refine (big_no _ _ _ _ hsm).mono ?_; rintro e w1 ⟨rfl, rfl⟩)
      | (go_at_call 11; refine (draw_any _ _ _ _ hsm HB.out).mono ?_; rintro e w1 ⟨a, b, rfl, hb1⟩; refine Hid.out ?_))
    obtain ⟨s, hs⟩ : ∃ s, s = sat (sat a + sat b) := ⟨_, rfl⟩
    obtain ⟨d, hd⟩ : ∃ d, d = sat (sat a - sat b) := ⟨_, rfl⟩
    obtain ⟨m, hm⟩ : ∃ m, m = sat (sat a * sat b) := ⟨_, rfl⟩
    have bs : -1000000 ≤ s ∧ s ≤ 1000000 := hs ▸ sat_bd _
    have bd : -1000000 ≤ d ∧ d ≤ 1000000 := hd ▸ sat_bd _
    have bm : -1000000 ≤ m ∧ m ≤ 1000000 := hm ▸ sat_bd _
    have S1 := Lib.hid hs.symm
    have S2 := Lib.hid (show sat (sat b + sat a) = s by rw [Int.add_comm]; exact hs.symm)
    have D1 := Lib.hid hd.symm
    have D2 := Lib.hid (show sat (sat b - sat a) = -d by rw [hd, ← sat_neg]; congr 1; omega)
    have M1 := Lib.hid hm.symm
    have M2 := Lib.hid (show sat (sat b * sat a) = m by rw [Int.mul_comm]; exact hm.symm)
    have VS := Lib.hid (isVal_in bs.1 bs.2)
    have VD := Lib.hid (isVal_in bd.1 bd.2)
    have VM := Lib.hid (isVal_in bm.1 bm.2)
    clear hs hd hm bs bm
    have hnd : - -d = d := by omega
    refine Lib.hid ?_
    go_wp2_with (first
      | (go_at_call 12; first
        | ((with_reducible refine (add_is a b _ _ S1.out).mono ?_); rintro e w2 ⟨rfl, rfl⟩)
        | ((with_reducible refine (add_is b a _ _ S2.out).mono ?_); rintro e w2 ⟨rfl, rfl⟩))
      | (go_at_call 13; first
        | ((with_reducible refine (sub_is a b _ _ D1.out).mono ?_); rintro e w2 ⟨rfl, rfl⟩)
        | ((with_reducible refine (sub_is b a _ _ D2.out).mono ?_); rintro e w2 ⟨rfl, rfl⟩))
      | (go_at_call 14; first
        | ((with_reducible refine (mul_is a b _ _ M1.out).mono ?_); rintro e w2 ⟨rfl, rfl⟩)
        | ((with_reducible refine (mul_is b a _ _ M2.out).mono ?_); rintro e w2 ⟨rfl, rfl⟩))
      | (go_at_call 15; refine (places_any _ _ _ _ hsm (HB2.out _ hb1)).mono ?_; rintro e w2 ⟨v, L, rfl, hl, HL, hown, hb2⟩; refine Hid.out ?_))
    obtain ⟨g, c, rfl, hbg, hlg, x, hx, hcx⟩ := own_atI hown (k := 0) (by omega)
    obtain ⟨g', c', hv', _, _, y, hy, hcy⟩ := own_atI hown (k := 1) (by omega)
    injection hv' with h1 h2 h3
    injection h1 with h1
    injection h1 with h1
    subst h1
    have hx' := HL.out x (List.mem_of_getElem? hx)
    have hy' := HL.out y (List.mem_of_getElem? hy)
    have hb3 := hb1.trans (hb2.mono hb1.size)
    have bX : -5000 ≤ x - 5000 ∧ x - 5000 < 5000 := by omega
    have bY : -5000 ≤ y - 5000 ∧ y - 5000 < 5000 := by omega
    have br := tmod_bd (y - 5000)
    have bp := small_prod bX br
    have A1 := Lib.hid (show sat (sat (x - 5000) + sat (y - 5000)) = x - 5000 + (y - 5000) by rw [sat_in (n := x - 5000) (by omega) (by omega), sat_in (n := y - 5000) (by omega) (by omega), sat_in (by omega) (by omega)])
    have A2 := Lib.hid (show sat (sat (x - 5000 + (y - 5000)) - sat (y - 5000)) = x - 5000 by rw [sat_in (n := x - 5000 + (y - 5000)) (by omega) (by omega), sat_in (n := y - 5000) (by omega) (by omega), sat_in (by omega) (by omega)]; omega)
    have A3 := Lib.hid (show sat (sat (x - 5000) * sat ((y - 5000).tmod 100)) = (x - 5000) * (y - 5000).tmod 100 by rw [sat_in (n := x - 5000) (by omega) (by omega), sat_in (n := (y - 5000).tmod 100) (by omega) (by omega), sat_in (by omega) (by omega)])
    clear hl hown hx hy h2 h3
    refine Lib.hid ?_
    go_wp2_with (first
      | (go_at_call 12; (with_reducible refine (add_is (x - 5000) (y - 5000) _ _ A1.out).mono ?_); rintro e w2 ⟨rfl, rfl⟩)
      | (go_at_call 13; (with_reducible refine (sub_is (x - 5000 + (y - 5000)) (y - 5000) _ _ A2.out).mono ?_); rintro e w2 ⟨rfl, rfl⟩)
      | (go_at_call 14; (with_reducible refine (mul_is (x - 5000) ((y - 5000).tmod 100) _ _ A3.out).mono ?_); rintro e w2 ⟨rfl, rfl⟩)
      | (go_at_call 16; first
        | ((with_reducible refine (val_is s _ _ VS.out).mono ?_); rintro e w1 ⟨rfl, rfl⟩)
        | ((with_reducible refine (val_is d _ _ VD.out).mono ?_); rintro e w1 ⟨rfl, rfl⟩)
        | ((with_reducible refine (val_is m _ _ VM.out).mono ?_); rintro e w1 ⟨rfl, rfl⟩)))
    go_ret
    exact ⟨rfl, hb3⟩

/-! ### THE ROW's STEP: WRITTEN OUT: LEAVE IT -/
set_option maxRecDepth 100000 in
theorem lifted (os : Os) (started : os.Started) (H : Type) (enc : TypeId × Value → H) :
    ReturnsInHanded {} Try.checked os 3 .any (Rows.fnArithmeticSpec.pre6 enc Try.prog Try.f3 Rows.fnArithmeticRow.domain false) (Rows.fnArithmeticSpec.post enc Try.prog Try.f3 false true false false) := by
  refine returnsInHanded_of_change (C := Try.checked) own started (by kernel_rfl) Try.func3
    (ChangeSpec.witness6 (enc := enc) (C := Try.checked) false ⟨#[], #[.slice none 0 0], []⟩ 8 (by kernel_rfl) (by kernel_rfl) (by kernel_rfl) (by kernel_rfl)) ?_
  intro W base args ds gs before hval0 hW hcnd _
  have hval : ∀ (j : Nat) t v, Try.f3.params[j]? = some t → args[j]? = some v → Value.okWide Try.prog W .any base t v := hval0
  have hW' := hW
  obtain ⟨p, q, hA0, hV, rfl, hfz, hnd⟩ := hW
  have hA : DataW.TrodAll enc Try.prog W 0 (fun _ => true) true Try.f3.params.toList args.toList ds p := hA0
  rw [Try.params3] at hA hval
  obtain ⟨v0, vs0, d0, ds0, p0, q0, hargs, rfl, rfl, h0, r0⟩ := trodAll_cons hA
  obtain ⟨rfl, rfl, rfl⟩ := trodAll_nil r0
  obtain rfl : args = #[v0] := by cases args; simp_all
  obtain ⟨rfl, rfl⟩ := trodVars_none hV
  obtain ⟨a0, len0, cap0, rfl⟩ := okWide_slice Try.underlying22 (hval 0 22 v0 rfl rfl)
  have k0 := h0
  have lt0 : ∀ x ∈ p0, x.block < W.heap.size := by obtain ⟨m, hm⟩ := k0; exact DataW.trod_lt m _ _ _ hm
  obtain ⟨z0, w0⟩ : ∃ zs, IsRow .u8 W a0 len0 cap0 zs := by
    obtain ⟨fuel, hf⟩ := h0
    rcases open_ints Try.underlying22 Try.underlying5 (by kernel_rfl) hf with ⟨hcs, _⟩ | ⟨x, l, c, zs, hcs, _, hl, hm, hz, _, hcell, hwz⟩
    · simp [Value.cells] at hcs
      obtain ⟨rfl, rfl, rfl⟩ := hcs
      exact ⟨[], .inl ⟨rfl, rfl, rfl, rfl⟩⟩
    · simp [Value.cells] at hcs
      obtain ⟨rfl, rfl, rfl⟩ := hcs
      exact ⟨zs, .inr ⟨_, rfl, hl, hm, by simpa using hz, hcell, hwz⟩⟩
  clear hA0 hval0
  refine (walk a0 len0 cap0 z0 W w0).mono fun e W' ⟨he, bel⟩ => ?_
  subst he
  exact ⟨_, rfl, _, _, _, [], _, [], hW', trodAll_mk1 (shut_bool Try.underlying4 _), (trodAll_cons_mk (Below.trod laidOut (by kernel_rfl) (of_decide_eq_true (by kernel_rfl)) k0 bel lt0) trodAll_mk0), rfl, bel.frame _, fun h => by cases h⟩

theorem over : Rows.fnArithmeticRow.holds Try.pinned (OpenSpec.ofChange Rows.fnArithmeticSpec) :=
  OpenClaim.holds_of_wide 3 Try.f3 rfl rfl rfl rfl rfl rfl rfl ⟨rfl, rfl, rfl, rfl, rfl⟩ rfl rfl rfl rfl rfl (by kernel_rfl) Try.func3 (by kernel_rfl)
    (of_decide_eq_true (by kernel_rfl)) (by unfold Func.isWrapper; first | (rw [if_pos (by decide +kernel)]; kernel_rfl) | (rw [if_neg (by decide +kernel)]; exact ⟨rfl, rfl⟩))
    (fun os started H enc _ => lifted os started H enc)

/-- ████ THE STATEMENT ████ -/
theorem proved : Rows.FnArithmeticSaid := over
#print axioms proved
end Go.Proofs.Ytdaeoohpelhooaa.fnArithmetic
