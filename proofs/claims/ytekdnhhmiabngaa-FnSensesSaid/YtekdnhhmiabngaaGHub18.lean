/- Several texts in one: BlkN. -/
import Derived.Test.YtekdnhhmiabngaaGHub17

/- Chapter 5's program: LongestRun: how many statements run; nothing that was there is written. -/
namespace Go.Proofs.Ytekdnhhmiabngaa.blk
open Go Go.ChangeShapes Go.WideShapes Go.ChangeAt Go.RowKit Go.Proofs.Ytekdnhhmiabngaa.row Go.Proofs.Ytekdnhhmiabngaa.val Go.Proofs.Ytekdnhhmiabngaa.expr Go.Proofs.Ytekdnhhmiabngaa.stm

def lenV : Value → Nat
  | .slice _ n _ => n
  | _ => 0
/-- 'x' statements have run, and 'M' is still to run. -/
def Rest (L M : List Go.Proofs.Ytekdnhhmiabngaa.stm.St) (x : Int) : Prop := ∀ y, Runs M 0 M.length y → Runs L 0 L.length (x + y)
theorem Rest.start (L : List Go.Proofs.Ytekdnhhmiabngaa.stm.St) : Rest L L 0 := fun y h => by rw [Int.zero_add]; exact h
theorem Rest.done {L : List Go.Proofs.Ytekdnhhmiabngaa.stm.St} {x : Int} (h : Rest L [] x) : Runs L 0 L.length x := by
  have := h 0 (.nil 0)
  rw [Int.add_zero] at this; exact this
theorem Rest.small {L M : List Go.Proofs.Ytekdnhhmiabngaa.stm.St} {x : Int} (h : Rest L M x) (hL : IsBlk L) (hM : IsBlk M) : x ≤ 3000 := by
  obtain ⟨y, hy⟩ := runs_ex hM M.length 0 M.length (by omega) (flat_all hM)
  have h1 := runs_small hL (h y hy) (Nat.le_refl _)
  have h2 := runs_small hM hy (Nat.le_refl _)
  omega
theorem Rest.one {L M : List Go.Proofs.Ytekdnhhmiabngaa.stm.St} {x : Int} {n : Nat} {s : Go.Proofs.Ytekdnhhmiabngaa.stm.St} (h : Rest L M x) (hb : IsBlk M) (hn : M.length = n) (hs : M[0]? = some s) (ho : opn s = false) :
    IsBlk (part M (0 + 1) (n - (0 + 1))) ∧ Rest L (part M (0 + 1) (n - (0 + 1))) (x + 1) := by
  subst hn
  have hlt := (List.getElem?_eq_some_iff.1 hs).1
  have h1 := hAt_succ hs
  rw [hAt_zero] at h1
  have h6 : s.k ≠ 6 := fun h6 => by
    rw [dlt_end h6] at h1
    have := (blk_bounds hb (0 + 1)).1; omega
  rw [dlt_flat ho h6] at h1
  refine ⟨rest_blk hb (by omega) (by omega), fun y hy => ?_⟩
  rw [Int.add_assoc]
  exact h _ (runs_flat (by omega) hs ho h6 hy)
theorem Rest.nest {L M : List Go.Proofs.Ytekdnhhmiabngaa.stm.St} {x y : Int} {n e : Nat} {s : Go.Proofs.Ytekdnhhmiabngaa.stm.St} (h : Rest L M x) (hb : IsBlk M) (hn : M.length = n) (hs : M[0]? = some s) (he : IsEnd M 0 e) (hy : Runs (part M 1 (e - 1)) 0 (part M 1 (e - 1)).length y) :
    IsBlk (part M (e + 1) (n - (e + 1))) ∧ Rest L (part M (e + 1) (n - (e + 1))) (x + max 1 s.n * y) := by
  subst hn
  have h1 := he.2.1
  refine ⟨rest_blk hb (by omega) (by rw [he.2.2.1, hAt_zero]), fun z hz => ?_⟩
  rw [Int.add_assoc]
  exact h _ (runs_nest hs he hy hz)
/-- The call returns how many statements of the block run. -/
abbrev RunOut (L : List Go.Proofs.Ytekdnhhmiabngaa.stm.St) (w : World) := LongOut L 0 L.length w
set_option maxHeartbeats 8000000 in
set_option maxRecDepth 100000 in
theorem impl_longest : ∀ (m : Nat) (ad : Option Addr) (n cap : Nat) (L : List Go.Proofs.Ytekdnhhmiabngaa.stm.St) (w : World), n ≤ m → n ≤ cap → StRow w ad n L → IsBlk L →
    Calls Try.prog 25 #[.slice ad n cap] w (RunOut L w) := by
  intro m
  induction m with
  | zero =>
    intro ad n cap L w hm hcap h hb
    obtain rfl : n = 0 := by omega
    obtain rfl : L = [] := List.eq_nil_of_length_eq_zero h.1
    have HN := Lib.hid (show Runs ([] : List Go.Proofs.Ytekdnhhmiabngaa.stm.St) 0 ([] : List Go.Proofs.Ytekdnhhmiabngaa.stm.St).length 0 from Runs.nil 0)
    clear h hb
    go_enter Try.func25, Try.ntmps25
    go_wp2
    go_loopw [0, 3] (fun l r wr => l = .slice ad 0 cap ∧ r = .int .i64 0 ∧ Below w.heap.size w wr) (fun _ _ _ => 0)
    case atStart => exact ⟨rfl, rfl, Below.refl _ _⟩
    case round =>
      obtain ⟨rfl, rfl, hbel⟩ := hrel
      have HBB := Lib.hid hbel
      clear hbel
      go_wp2
      go_ret
      exact ⟨0, rfl, HN, HBB.out⟩
  | succ m ih =>
    intro ad n cap L w hm hcap h hb
    have HL := Lib.hid h
    have HB := Lib.hid hb
    have HI := Lib.hid ih
    clear h hb ih
    go_enter Try.func25, Try.ntmps25
    go_wp2
    go_loopw [0, 3] (fun l r wr => ∃ (a' : Option Addr) (n' cap' : Nat) (M : List Go.Proofs.Ytekdnhhmiabngaa.stm.St) (x : Int), l = .slice a' n' cap' ∧ r = .int .i64 x ∧ n' ≤ cap' ∧ n' ≤ n ∧ 0 ≤ x ∧ x ≤ 3000 ∧ Hid (StRow wr a' n' M ∧ IsBlk M ∧ Rest L M x) ∧ Below w.heap.size w wr) (fun l _ _ => lenV l)
    case atStart => exact ⟨ad, n, cap, L, 0, rfl, rfl, hcap, Nat.le_refl _, by omega, by omega, ⟨HL.out, HB.out, Rest.start L⟩, Below.refl _ _⟩
    case round =>
      obtain ⟨a', n', cap', M, x, rfl, rfl, hc', hn', hx0, hx3, hH, hbel⟩ := hrel
      rcases Nat.eq_zero_or_pos n' with h0 | h0
      · have HR := Lib.hid (show Runs L 0 L.length x by
          have h1 : M = [] := List.eq_nil_of_length_eq_zero (by rw [hH.out.1.1]; exact h0)
          have h2 := hH.out.2.2
          rw [h1] at h2; exact h2.done)
        have hI : ¬ (0 : Int) < n' := by omega
        have HBB := Lib.hid hbel
        clear hbel h0
        go_wp2
        go_ret
        exact ⟨x, rfl, HR, HBB.out⟩
      · have hI : (0 : Int) < n' := by omega
        obtain ⟨s, hs⟩ := at_lt (show 0 < M.length by rw [hH.out.1.1]; exact h0)
        have HS := Lib.hid hs
        have HBL := Lib.hid hbel
        have hsn := n_le (blk_stOk hH.out.2.1 hs)
        have HSO := Lib.hid (blk_stOk hH.out.2.1 hs)
        have HZ := Lib.hid hbel.size
        clear hbel
        cases ho : opn s
        · have HO := Lib.hid (show (opn s = false ∧ 0 = 0) ∨ (opn s = true ∧ IsEnd M 0 0) from .inl ⟨ho, rfl⟩)
          have HR2 := Lib.hid (hH.out.2.2.one hH.out.2.1 hH.out.1.1 hs ho)
          have hx1 := HR2.out.2.small HB.out HR2.out.1
          have hq4 : (s.k == 4) = false := by unfold opn at ho; simp at ho; simp; omega
          have hq5 : (s.k == 5) = false := by unfold opn at ho; simp at ho; simp; omega
          clear hs ho
          go_wp2_with (go_at_call 46; (with_reducible refine (impl_cut a' n' cap' M hc' _ hH.out.1 hH.out.2.1 s HS.out 0 HO.out).mono ?_); rintro e2 w2 ⟨a1, a2, rfl, HC2, hb2⟩; refine Hid.out ?_)
          have HB2 := Lib.hid (below_then HBL.out hb2)
          have HX := Lib.hid (And.intro (Box.new w2 zeroSt 80) (below_new w2 (.cells zeroSt 80)))
          clear hb2
          refine Lib.hid ?_
          go_wp2_with ((refine wpList_store_box rfl 80 _ _ rfl w2.heap.size _ _ HX.out.1 #[.int .i64 s.k, .int .i64 s.v, .int .i64 s.n, .int .i64 s.o, .int .i64 s.a, .int .i64 s.b] rfl rfl rfl (by kernel_rfl) (by simp [Value.oneCell']) ?_); intro w3 hx3 hg3; refine Hid.out ?_)
          have hb23 : Below w2.heap.size w2 w3 := HX.out.2.grown hg3 HX.out.2.size (fun j hj => by cases hj; exact Nat.le_refl _)
          have c0 : w3.cell? ⟨w2.heap.size, 0, none⟩ = some (.int .i64 s.k) := hx3.cell 0
          have H3 := Lib.hid (And.intro hb23 (below_then HB2.out hb23))
          clear hb23 hx3 hg3
          refine Lib.hid ?_
          go_wp2
          go_roundw
          case rel => exact ⟨a2, n' - (0 + 1), n' - (0 + 1), _, x + 1, rfl, rfl, Nat.le_refl _, by omega, by omega, hx1, ⟨HC2.out.2.below H3.out.1, HR2.out.1, HR2.out.2⟩, H3.out.2⟩
          case measure => simp [lenV]; omega
        · obtain ⟨e, he⟩ := end_exists hH.out.2.1 hs ho
          have HE := Lib.hid he
          have HO := Lib.hid (show (opn s = false ∧ e = 0) ∨ (opn s = true ∧ IsEnd M 0 e) from .inr ⟨ho, he⟩)
          have hen : e < n' := by have := he.2.1; have := hH.out.1.1; omega
          have he0 := he.1
          have HBK := Lib.hid (body_blk hH.out.2.1 he)
          have HC := Lib.hid (show ∀ (A : Option Addr) (W : World), StRow W A (e - 1) (part M 1 (e - 1)) → Calls Try.prog 25 #[.slice A (e - 1) (e - 1)] W (RunOut (part M 1 (e - 1)) W) from fun A W hW => HI.out A (e - 1) (e - 1) _ W (by omega) (Nat.le_refl _) hW HBK.out)
          have hq : s.k = 4 ∨ s.k = 5 := by unfold opn at ho; simp at ho; exact ho
          clear hs ho he
          go_wp2_with (go_at_call 46; (with_reducible refine (impl_cut a' n' cap' M hc' _ hH.out.1 hH.out.2.1 s HS.out e HO.out).mono ?_); rintro e2 w2 ⟨a1, a2, rfl, HC2, hb2⟩; refine Hid.out ?_)
          have HB2 := Lib.hid (below_then HBL.out hb2)
          have HX := Lib.hid (And.intro (Box.new w2 zeroSt 80) (below_new w2 (.cells zeroSt 80)))
          clear hb2
          refine Lib.hid ?_
          go_wp2_with ((refine wpList_store_box rfl 80 _ _ rfl w2.heap.size _ _ HX.out.1 #[.int .i64 s.k, .int .i64 s.v, .int .i64 s.n, .int .i64 s.o, .int .i64 s.a, .int .i64 s.b] rfl rfl rfl (by kernel_rfl) (by simp [Value.oneCell']) ?_); intro w3 hx3 hg3; refine Hid.out ?_)
          have hb23 : Below w2.heap.size w2 w3 := HX.out.2.grown hg3 HX.out.2.size (fun j hj => by cases hj; exact Nat.le_refl _)
          have c0 : w3.cell? ⟨w2.heap.size, 0, none⟩ = some (.int .i64 s.k) := hx3.cell 0
          have hd2 : w3.drew.cell? ⟨w2.heap.size, 2, none⟩ = some (.int .i64 s.n) := hx3.cell 2
          have hlt3 : w2.heap.size < w3.drew.heap.size := hx3.lt
          have H3 := Lib.hid (And.intro hb23 (below_then HB2.out hb23))
          clear hb23 hx3 hg3
          rcases hq with hk | hk
          · have HMX := Lib.hid (n_if HSO.out hk)
            have hq4 : (s.k == 4) = true := by rw [hk]; rfl
            clear hk hd2 hlt3
            refine Lib.hid ?_
            go_wp2_with (go_at_call 25; (with_reducible refine (HC.out a1 _ (HC2.out.1.below H3.out.1)).mono ?_); rintro e4 w4 ⟨y, rfl, hY, hb4⟩; refine Hid.out ?_)
            have hys := runs_small HBK.out hY.out (Nat.le_refl _)
            have hy0 := hys.1
            have hy1 := hys.2
            have HR2 := Lib.hid (show IsBlk (part M (e + 1) (n' - (e + 1))) ∧ Rest L (part M (e + 1) (n' - (e + 1))) (x + y) by
              have h9 := hH.out.2.2.nest hH.out.2.1 hH.out.1.1 HS.out HE.out hY.out
              rw [HMX.out, Int.one_mul] at h9; exact h9)
            have hx1 := HR2.out.2.small HB.out HR2.out.1
            have H4 := Lib.hid (And.intro (HC2.out.2.below (below_then H3.out.1 hb4)) (below_then H3.out.2 hb4))
            clear hb4 hys
            refine Lib.hid ?_
            go_wp2
            go_roundw
            case rel => exact ⟨a2, n' - (e + 1), n' - (e + 1), _, x + y, rfl, rfl, Nat.le_refl _, by omega, by omega, hx1, ⟨H4.out.1, HR2.out.1, HR2.out.2⟩, H4.out.2⟩
            case measure => simp [lenV]; omega
          · have HMX := Lib.hid (n_loop HSO.out hk)
            have hq4 : (s.k == 4) = false := by rw [hk]; rfl
            have hq5 : (s.k == 5) = true := by rw [hk]; rfl
            have HR3 := Lib.hid (HC2.out.1.below (below_then H3.out.1 (Below.drew (Below.refl _ w3))))
            clear hk
            refine Lib.hid ?_
            go_wp2
            go_region_held3 (fun w' => w'.cell? ⟨w2.heap.size, 2, none⟩ = some (.int .i64 s.n))
              (first | (exact hd2) | (exact (hb4.cell (p := ⟨w2.heap.size, 2, none⟩) hlt3).trans hd2))
              (first
                | (go_at_call 25; (with_reducible refine (HC.out a1 _ HR3.out).mono ?_); rintro e4 w4 ⟨y, rfl, hY, hb4⟩; have hys := runs_small HBK.out hY.out (Nat.le_refl _); have hty := times_ok hsn hys.1 hys.2; have hw1 : IntKind.i64.wrap (s.n * y) = s.n * y := IntWalk.i64_in _ (by rw [HMX.out] at hty; omega); have hw2 : IntKind.i64.wrap (x + s.n * y) = x + s.n * y := IntWalk.i64_in _ (by rw [HMX.out] at hty; omega)))
            all_goals
              have HB4 := Lib.hid (Below.trans (Below.drew (Below.refl _ w3)) hb4)
              have HR2 := Lib.hid (show IsBlk (part M (e + 1) (n' - (e + 1))) ∧ Rest L (part M (e + 1) (n' - (e + 1))) (x + s.n * y) by
                have h9 := hH.out.2.2.nest hH.out.2.1 hH.out.1.1 HS.out HE.out hY.out
                rw [HMX.out] at h9; exact h9)
              have hx1 := HR2.out.2.small HB.out HR2.out.1
              have hx00 : 0 ≤ x + s.n * y := by rw [HMX.out] at hty; omega
              have H4 := Lib.hid (And.intro (HC2.out.2.below (below_then H3.out.1 HB4.out)) (below_then H3.out.2 HB4.out))
              clear hb4 hys hty hd2 hlt3
              go_wp2
              go_roundw
              case rel => exact ⟨a2, n' - (e + 1), n' - (e + 1), _, x + s.n * y, rfl, rfl, Nat.le_refl _, by omega, hx00, hx1, ⟨H4.out.1, HR2.out.1, HR2.out.2⟩, H4.out.2⟩
              case measure => simp [lenV]; omega
set_option maxHeartbeats 4000000 in
theorem impl_longestrun (a : Option Addr) (n cap : Nat) (L : List Go.Proofs.Ytekdnhhmiabngaa.stm.St) (hn : (n : Int) ≤ 1048576) (hcap : n ≤ cap) (w : World) (h : StRow w a n L) (X : Int) (hX : LongIs L X) :
    Calls Try.prog 11 #[.slice a n cap] w (BelI w X) := by
  have HL := Lib.hid h
  rcases hX with ⟨hb, hR⟩ | ⟨rfl, hb⟩
  · have HB := Lib.hid hb
    have HBT := Lib.hid (show true = true ↔ IsBlk L from ⟨fun _ => hb, fun _ => rfl⟩)
    have HR := Lib.hid hR
    clear h hb hR
    go_enter Try.func11, Try.ntmps11
    go_wp2_with (go_at_call 24; (with_reducible refine (impl_blockok a n cap L hn _ HL.out true HBT.out).mono ?_); rintro e w2 ⟨rfl, hb2⟩; refine Hid.out ?_)
    have HB2 := Lib.hid hb2
    clear hb2
    refine Lib.hid ?_
    go_wp2_with (go_at_call 25; (with_reducible refine (impl_longest n a n cap L _ (Nat.le_refl _) hcap (HL.out.below HB2.out) HB.out).mono ?_); rintro e w3 ⟨x, rfl, hY, hb3⟩; refine Hid.out ?_)
    have H3 := Lib.hid (And.intro (hY.out.unique HR.out) (below_then HB2.out hb3))
    clear hb3
    refine Lib.hid ?_
    go_wp2
    go_ret
    exact ⟨by rw [H3.out.1]; rfl, H3.out.2⟩
  · have HBF := Lib.hid (show false = true ↔ IsBlk L from ⟨fun h => (by cases h), fun h => absurd h hb⟩)
    clear h hb
    go_enter Try.func11, Try.ntmps11
    go_wp2_with (go_at_call 24; (with_reducible refine (impl_blockok a n cap L hn _ HL.out false HBF.out).mono ?_); rintro e w2 ⟨rfl, hb2⟩)
    go_ret
    exact ⟨rfl, hb2⟩
end Go.Proofs.Ytekdnhhmiabngaa.blk
