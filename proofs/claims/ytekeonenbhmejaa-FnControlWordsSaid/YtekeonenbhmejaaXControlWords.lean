/- For every input the law FnControlWords returns true and leaves its argument as it was; no condition. -/
import Derived.Test.YtekeonenbhmejaaRows
import Derived.WalkKit
import Derived.ProofKit
import Derived.OpenShut
import Derived.ShutString
import Derived.ChangeOld
import Derived.Below
import Derived.Test.YtekeonenbhmejaaCtl
import Derived.Test.YtekeonenbhmejaaPlaces
namespace Go.Proofs.Ytekeonenbhmejaa.fnControlWords
open Go.ChangeShapes Go.WideShapes Go.ChangeAt Go.RowKit
open Go.ChangeMaps (open_string shut_string)
set_option linter.unusedVariables false

theorem own : ownKnob Try.prog.godebug = none := by kernel_rfl
theorem laidOut : laidOutB Try.prog = true := by kernel_rfl

/-- WHAT THE WALK IS TOLD OF A SLICE OF INTEGERS THAT CAME IN: it is nil; or it leads to a row of 'cap' cells, the numbers 'zs' (the first 'len' are its elements, the rest its spare room), each fitting its kind. -/
def IsRow (k : IntKind) (w : World) (a : Option Addr) (len cap : Nat) (zs : List Int) : Prop :=
  (a = none ∧ len = 0 ∧ cap = 0 ∧ zs = []) ∨
  ∃ x, a = some x ∧ len ≤ cap ∧ cap ≤ maxLen ∧ zs.length = cap ∧ (∀ i, i < zs.length → w.cell? (x.add i) = some (.int k (zs.getD i 0))) ∧ ∀ n ∈ zs, (Lit.int k n).wf = true

open Go.Proofs.Ytekeonenbhmejaa.val Go.Proofs.Ytekeonenbhmejaa.cur Go.Proofs.Ytekeonenbhmejaa.ctl
theorem unpack_is (x p q r : Int) (hw : -9223372036854775808 ≤ x ∧ x ≤ 9223372036854775807) (h : unT x = p ∧ unC x = q ∧ unN x = r) (w : World) : Calls Try.prog 13 #[.int .i64 x] w (RetT w p q r) := by
  obtain ⟨rfl, rfl, rfl⟩ := h; exact impl_unpack x hw w
theorem pack_is (t c n v : Int) (h : packV t c n = v) (w : World) : Calls Try.prog 12 #[.int .i64 t, .int .i64 c, .int .i64 n] w (Ret w v) := by
  subst h; exact impl_pack t c n w
def One (w : World) (e : Ending) (w' : World) : Prop := ∃ x : Int, e = .returned (.int .i64 x) ∧ (-9223372036854775808 ≤ x ∧ x ≤ 9223372036854775807) ∧ Below w.heap.size w w'
set_option maxRecDepth 100000 in
theorem draw_any (a : Option Addr) (len cap : Nat) (w : World) (hlm : (len : Int) ≤ 1048576) (hb : ∀ i : Nat, i < len → ∃ (b off : Nat) (v : Int), a = some ⟨b, off, none⟩ ∧ w.cell? ⟨b, off + i, none⟩ = some (.int .u8 v)) :
    Calls Try.prog 14 #[.slice a len cap] w (One w) := by
  have HB := Lib.hid hb
  clear hb
  go_enter Try.func14, Try.ntmps14
  go_wp2_with (go_at_call 32; refine (new_any a len cap _ hlm HB.out).mono ?_; rintro e w1 ⟨rfl, hc1, hb1⟩; refine Hid.out ?_)
  have hg0 := grownBy_refl w1 (some w.heap.size)
  have fin : Hid (∀ w', w1.grownBy w' (some w.heap.size) → Below w.heap.size w w') := fun w' g => hb1.grown g hb1.size (fun k hk => by cases hk; exact Nat.le_refl _)
  refine Lib.hid ?_
  go_wp2_with (first
    | (go_at_call 35; refine (once_from w1 _ a len cap _ (by omega) _ (by assumption) (by assumption)).mono ?_; rintro e w2 ⟨x, rfl, hc2, hg2⟩)
    | (go_at_call 33; refine (below_from w1 _ a len cap _ (by omega) _ (by assumption) (by assumption)).mono ?_; rintro e w3 ⟨x, rfl, hx0, hx1, hc3, hg3⟩)
    | (go_at_call 36; refine (pickInt_from w1 _ a len cap _ 8 (by omega) (by omega) _ (Cur.alloc (by assumption) _) (grownBy_trans (by assumption) (World.grownBy_alloc _ _ _)) (nums_alloc _ [-1, 6, 7, 72, 3200, 100000, 100001, 9223372036854775807] _ (by decide)) (Nat.ne_of_gt (Cur.lt (by assumption)))).mono ?_; rintro e w3 ⟨x, rfl, hxw, hc3, hg3⟩))
  · go_ret
    exact ⟨_, rfl, bounds_i64 hxw, fin.out _ hg3⟩
  · go_ret
    exact ⟨_, rfl, ⟨by omega, by omega⟩, fin.out _ hg3⟩

theorem mod_pos {x : Int} (m : Nat) (hm : 0 < m) (h : 0 ≤ x) : 0 ≤ x.tmod m ∧ x.tmod m < m := by
  rw [Int.tmod_eq_emod_of_nonneg h]
  exact ⟨Int.emod_nonneg _ (by omega), Int.emod_lt_of_pos _ (by omega)⟩
set_option maxHeartbeats 1000000 in
set_option maxRecDepth 100000 in
theorem walk (a0 : Option Addr) (len0 cap0 : Nat) (z0 : List Int) (w : World) (w0 : IsRow .u8 w a0 len0 cap0 z0) :
    Calls Try.prog 3 #[.slice a0 len0 cap0] w fun e w' => e = .returned (.bool true) ∧ Below w.heap.size w w' := by
  have HB : Hid (∀ i : Nat, i < len0 → ∃ (b off : Nat) (v : Int), a0 = some ⟨b, off, none⟩ ∧ w.cell? ⟨b, off + i, none⟩ = some (.int .u8 v)) := by
    intro i hi
    rcases w0 with ⟨_, h0, _⟩ | ⟨x, rfl, hl, _, hz, hcell, _⟩
    · omega
    · obtain ⟨b, off, rfl, hc⟩ := ints_at hcell (by omega)
      exact ⟨b, off, _, rfl, hc i (by omega)⟩
  have HB2 : Hid (∀ w1 : World, Below w.heap.size w w1 → ∀ i : Nat, i < len0 → ∃ (b off : Nat) (v : Int), a0 = some ⟨b, off, none⟩ ∧ w1.cell? ⟨b, off + i, none⟩ = some (.int .u8 v)) := by
    intro w1 hb1 i hi
    obtain ⟨b, off, v, ha, hv⟩ := HB.out i hi
    exact ⟨b, off, v, ha, (hb1.cell (World.block_lt_of_cell? w _ hv)).trans hv⟩
  clear w0
  by_cases hbig : (1048576 : Int) < len0
  · go_enter Try.func3, Try.ntmps3
    go_wp2_with (go_at_call 10; refine (big_yes _ _ _ _ hbig).mono ?_; rintro e w1 ⟨rfl, rfl⟩)
    go_ret
    exact ⟨rfl, Below.refl _ _⟩
  · have hsm : (len0 : Int) ≤ 1048576 := by omega
    clear hbig
    go_enter Try.func3, Try.ntmps3
    go_wp2_with (first
      | (go_at_call 10; refine (big_no _ _ _ _ hsm).mono ?_; rintro e w1 ⟨rfl, rfl⟩)
      | (go_at_call 11; refine (places_any _ _ _ _ hsm HB.out).mono ?_; rintro e w1 ⟨v, L, rfl, hl, HL, hown, hb1⟩; refine Hid.out ?_))
    obtain ⟨g, c, rfl, hbg, hlg, x, hx, hcx⟩ := own_atI hown (k := 0) (by omega)
    obtain ⟨g', c', hv', _, _, y, hy, hcy⟩ := own_atI hown (k := 1) (by omega)
    obtain ⟨g2, c2, hv2, _, _, z, hz, hcz⟩ := own_atI hown (k := 2) (by omega)
    injection hv' with h1 h2 h3
    injection h1 with h1
    injection h1 with h1
    subst h1
    injection hv2 with h4 h5 h6
    injection h4 with h4
    injection h4 with h4
    subst h4
    have hx' := HL.out x (List.mem_of_getElem? hx)
    have hy' := HL.out y (List.mem_of_getElem? hy)
    have hz' := HL.out z (List.mem_of_getElem? hz)
    clear hl hown hx hy hz h2 h3 h5 h6
    have bT := mod_pos 6 (by decide) hx'.1
    have bC := mod_pos 9 (by decide) hy'.1
    have bN := mod_pos 25 (by decide) hz'.1
    obtain ⟨T, eT⟩ : ∃ T, x.tmod 6 = T := ⟨_, rfl⟩
    obtain ⟨C, eC⟩ : ∃ C, y.tmod 9 = C := ⟨_, rfl⟩
    obtain ⟨N, eN⟩ : ∃ N, z.tmod 25 = N := ⟨_, rfl⟩
    rw [show x.tmod (6 : Nat) = T from eT] at bT
    rw [show y.tmod (9 : Nat) = C from eC] at bC
    rw [show z.tmod (25 : Nat) = N from eN] at bN
    have hok := (ctlOk_iff T C N).2 (by omega)
    obtain ⟨V, eV⟩ : ∃ V, packV T C N = V := ⟨_, rfl⟩
    have HPV := Lib.hid eV
    have hp := parts_pack hok
    have hu : unT V = T ∧ unC V = C ∧ unN V = N := by
      rw [eV] at hp
      have hw : wOk V = true := by unfold wOk; rw [hp.1, hp.2.1, hp.2.2]; exact hok
      simp only [unT, unC, unN, hw, if_true]; exact hp
    have hV : 0 ≤ V := by rw [← eV, packV_yes hok]; omega
    have hV2 : V ≤ 3200 := by rw [← eV, packV_yes hok]; omega
    have HU := Lib.hid hu
    clear hok eV hp hu
    refine Lib.hid ?_
    go_wp2_with (first
      | (go_at_call 12; (with_reducible refine (pack_is T C N V HPV.out _).mono ?_); rintro e w2 ⟨rfl, rfl⟩)
      | (go_at_call 13; (with_reducible refine (unpack_is V T C N (by omega) HU.out _).mono ?_); rintro e w2 ⟨rfl, rfl⟩)
      | (go_at_call 14; refine (draw_any _ _ _ _ hsm (HB2.out _ hb1)).mono ?_; rintro e w2 ⟨d, rfl, hd, hb2⟩; refine Hid.out ?_))
    have hb3 := Lib.hid (hb1.trans (hb2.mono hb1.size))
    obtain ⟨ua, ea⟩ : ∃ u, unT d = u := ⟨_, rfl⟩
    obtain ⟨ub, eb⟩ : ∃ u, unC d = u := ⟨_, rfl⟩
    obtain ⟨uc, ec⟩ : ∃ u, unN d = u := ⟨_, rfl⟩
    have HD := Lib.hid (And.intro ea (And.intro eb ec))
    cases hw : wOk d
    · have hneg : ua < 0 := by rw [← ea, unT, hw]; simp
      clear ea eb ec hw
      refine Lib.hid ?_
      go_wp2_with (go_at_call 13; (with_reducible refine (unpack_is d ua ub uc hd HD.out _).mono ?_); rintro e w2 ⟨rfl, rfl⟩)
      go_ret
      exact ⟨rfl, hb3.out⟩
    · have hge : ¬ ua < 0 := by rw [← ea]; simp only [unT, hw, if_true]; have := (ctlOk_iff _ _ _).1 hw; omega
      have HP := Lib.hid (show packV ua ub uc = d by
        rw [← ea, ← eb, ← ec]; simp only [unT, unC, unN, hw, if_true]
        rw [packV_yes hw]; exact (pack_parts hw).1)
      clear ea eb ec hw
      refine Lib.hid ?_
      go_wp2_with (first
        | (go_at_call 13; (with_reducible refine (unpack_is d ua ub uc hd HD.out _).mono ?_); rintro e w2 ⟨rfl, rfl⟩)
        | (go_at_call 12; (with_reducible refine (pack_is ua ub uc d HP.out _).mono ?_); rintro e w2 ⟨rfl, rfl⟩))
      go_ret
      exact ⟨by simp, hb3.out⟩

/-! ### THE ROW's STEP: WRITTEN OUT: LEAVE IT -/
set_option maxRecDepth 100000 in
theorem lifted (os : Os) (started : os.Started) (H : Type) (enc : TypeId × Value → H) :
    ReturnsInHanded {} Try.checked os 3 .any (Rows.fnControlWordsSpec.pre6 enc Try.prog Try.f3 Rows.fnControlWordsRow.domain false) (Rows.fnControlWordsSpec.post enc Try.prog Try.f3 false true false false) := by
  refine returnsInHanded_of_change (C := Try.checked) own started (by kernel_rfl) Try.func3
    (ChangeSpec.witness6 (enc := enc) (C := Try.checked) false ⟨#[], #[.slice none 0 0], []⟩ 8 (by kernel_rfl) (by kernel_rfl) (by kernel_rfl) (by kernel_rfl)) ?_
  intro W base args ds gs before hval0 hW hcnd _
  have hval : ∀ (j : Nat) t v, Try.f3.params[j]? = some t → args[j]? = some v → Value.okWide Try.prog W .any base t v := hval0
  have hW' := hW
  obtain ⟨p, q, hA0, hV, rfl, hfz, hnd⟩ := hW
  have hA : DataW.TrodAll enc Try.prog W 0 (fun _ => true) true Try.f3.params.toList args.toList ds p := hA0
  rw [Try.params3] at hA hval
  obtain ⟨v0, vs0, d0, ds0, p0, q0, hargs, rfl, rfl, h0, r0⟩ := trodAll_cons hA
  obtain ⟨rfl, rfl, rfl⟩ := trodAll_nil r0
  obtain rfl : args = #[v0] := by cases args; simp_all
  obtain ⟨rfl, rfl⟩ := trodVars_none hV
  obtain ⟨a0, len0, cap0, rfl⟩ := okWide_slice Try.underlying22 (hval 0 22 v0 rfl rfl)
  have k0 := h0
  have lt0 : ∀ x ∈ p0, x.block < W.heap.size := by obtain ⟨m, hm⟩ := k0; exact DataW.trod_lt m _ _ _ hm
  obtain ⟨z0, w0⟩ : ∃ zs, IsRow .u8 W a0 len0 cap0 zs := by
    obtain ⟨fuel, hf⟩ := h0
    rcases open_ints Try.underlying22 Try.underlying5 (by kernel_rfl) hf with ⟨hcs, _⟩ | ⟨x, l, c, zs, hcs, _, hl, hm, hz, _, hcell, hwz⟩
    · simp [Value.cells] at hcs
      obtain ⟨rfl, rfl, rfl⟩ := hcs
      exact ⟨[], .inl ⟨rfl, rfl, rfl, rfl⟩⟩
    · simp [Value.cells] at hcs
      obtain ⟨rfl, rfl, rfl⟩ := hcs
      exact ⟨zs, .inr ⟨_, rfl, hl, hm, by simpa using hz, hcell, hwz⟩⟩
  clear hA0 hval0
  refine (walk a0 len0 cap0 z0 W w0).mono fun e W' ⟨he, bel⟩ => ?_
  subst he
  exact ⟨_, rfl, _, _, _, [], _, [], hW', trodAll_mk1 (shut_bool Try.underlying4 _), (trodAll_cons_mk (Below.trod laidOut (by kernel_rfl) (of_decide_eq_true (by kernel_rfl)) k0 bel lt0) trodAll_mk0), rfl, bel.frame _, fun h => by cases h⟩

theorem over : Rows.fnControlWordsRow.holds Try.pinned (OpenSpec.ofChange Rows.fnControlWordsSpec) :=
  OpenClaim.holds_of_wide 3 Try.f3 rfl rfl rfl rfl rfl rfl rfl ⟨rfl, rfl, rfl, rfl, rfl⟩ rfl rfl rfl rfl rfl (by kernel_rfl) Try.func3 (by kernel_rfl)
    (of_decide_eq_true (by kernel_rfl)) (by unfold Func.isWrapper; first | (rw [if_pos (by decide +kernel)]; kernel_rfl) | (rw [if_neg (by decide +kernel)]; exact ⟨rfl, rfl⟩))
    (fun os started H enc _ => lifted os started H enc)

/-- ████ THE STATEMENT ████ -/
theorem proved : Rows.FnControlWordsSaid := over
#print axioms proved
end Go.Proofs.Ytekeonenbhmejaa.fnControlWords
