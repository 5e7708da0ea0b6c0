/- Several texts in one: LogI EvalD ExeQ. -/
import Derived.Test.YtekdnhhmiabngaaGreatGHub42
import Derived.Deep.RegionHeld3
import Derived.Test.YtekdnhhmiabngaaGreatGHub40
import Derived.Test.YtekdnhhmiabngaaGreatGHub15
import Derived.Test.YtekdnhhmiabngaaGreatGHub7
import Derived.Test.YtekdnhhmiabngaaGreatGHub12
import Derived.BigQuiet

/- The program's without, MustLog, NeedsLog, IsRestartable, LogRoom: what the plain relations say; nothing that was there is written. -/
namespace Go.Proofs.YtekdnhhmiabngaaGreat.sets
open Go Go.ChangeShapes Go.WideShapes Go.ChangeAt Go.RowKit Go.Proofs.YtekdnhhmiabngaaGreat.row Go.Proofs.YtekdnhhmiabngaaGreat.val Go.Proofs.YtekdnhhmiabngaaGreat.stm Go.Proofs.YtekdnhhmiabngaaGreat.blk Go.Proofs.YtekdnhhmiabngaaGreat.expr Go.Proofs.YtekdnhhmiabngaaGreat.prg

theorem below_grow1 {w wr w4 : World} {g m c n : Nat} {xs : List Value} {x : Value} {ty e : TypeId} {s : Nat} (hb : Below w.heap.size w wr) (ho : wr.ownsRow w.heap.size e s (.slice (some ⟨g, 0, none⟩) m c) n xs) (hg : (wr.alloc (.cells #[x] ty)).grownBy w4 (Value.slice (some ⟨g, 0, none⟩) m c).ownBlock) : Below w.heap.size w w4 :=
  (below_then hb (below_new wr _)).grown hg (by have := hb.size; simp; omega) (fun j hj => (ho.lt j hj).1)
set_option maxHeartbeats 8000000 in
set_option maxRecDepth 100000 in
theorem impl_without (a : Option Addr) (na ca : Nat) (L : List Int) (ab : Option Addr) (nb cb : Nat) (B : List Int) (hna : (na : Int) ≤ 1048576) (hnb : (nb : Int) ≤ 1048576) (w : World) (hL : Row w a na L) (hB : Row w ab nb B) :
    Calls Tryz.prog 66 #[.slice a na ca, .slice ab nb cb] w (NewInts w (L.filter (fun x => !decide (x ∈ B)))) := by
  obtain ⟨i0, hi, hz0, hz1, hz2⟩ := info_parts infoInt
  have HL := Lib.hid hL
  have HB := Lib.hid hB
  have hlen := hL.1
  clear hL hB
  go_enter Tryz.func66, Tryz.ntmps66
  go_wp2
  go_loopw [5, 7, 11] (fun v _ i wr => ∃ (k n g c : Nat), k ≤ na ∧ i = .int .i64 k ∧ v = .slice (some ⟨g, 0, none⟩) n c ∧ Hid (wr.ownsRow w.heap.size 3 1 (.slice (some ⟨g, 0, none⟩) n c) n (ivs ((L.take k).filter (fun x => !decide (x ∈ B))))) ∧ Hid (Below w.heap.size w wr)) (fun _ _ i _ => na - (intOf i).toNat)
  case atStart => exact ⟨0, 0, w.heap.size, 0, Nat.zero_le _, rfl, rfl, World.ownsRow_made w #[] 0 (Nat.le_refl _) (by decide) rfl, below_new w _⟩
  case round =>
    obtain ⟨k, n, g, c, hk, rfl, rfl, HO, HR⟩ := hrel
    have hnl : n ≤ na := by have h1 := own_len HO.out; have h2 := tf_len L k (fun x => !decide (x ∈ B)); omega
    by_cases hlt : k < na
    · have hI : (k : Int) < na := by omega
      have HRB := Lib.hid (HB.out.below HR.out)
      obtain ⟨b, off, x, rfl, hlb, hx, hc⟩ := (HL.out.below HR.out).2 k hlt
      have hws := HR.out.size
      cases hr : decide (x ∈ B)
      · have HP := Lib.hid hr
        clear hr
        have HG := Lib.hid (tf_yes (p := fun x => !decide (x ∈ B)) hx (by simp [HP.out]))
        clear hx
        go_wp2_with (first
          | (go_at_call 62; (with_reducible refine (contains_any wr ab nb cb B x false (by omega) HRB.out HP.out).mono ?_); rintro e wr ⟨rfl, rfl⟩)
          | (at_builtin; refine wpList_append_own_at _ rfl _ _ 28 rfl w.heap.size 3 i0 (.int .i64 0) 1 8 Tryz.underlying28 hi hz0 hz1 hz2 rfl (by decide) _ _ _ rfl (HO.out.alloc _) ⟨wr.heap.size, 0, none⟩ 1 1 [.int .i64 x] rfl rfl (World.news_of_block (cs := #[.int .i64 x]) (t := 3) (fr := (0, 0)) (heap_alloc_new wr _)) (by simp [Value.oneCell']) (by unfold maxLen; omega) (by omega) (by simp; omega) ?_; intro v4 w4 hown4 hgrow4 _ hat4; refine Hid.out ?_))
        rw [ivs_snoc, ← HG.out] at hown4
        have hb4 := below_grow1 HR.out HO.out hgrow4
        obtain ⟨g4, cp4, rfl, hg4, _⟩ := hown4.form (by omega)
        have HO4 := Lib.hid hown4
        have HR4 := Lib.hid hb4
        clear hown4 hgrow4 hat4 hb4 hc
        refine Lib.hid ?_
        go_wp2
        go_roundw
        case rel => exact ⟨k + 1, n + 1, g4, cp4, by omega, by go_num, rfl, HO4, HR4⟩
        case measure => simp [intOf]; omega
      · have HP := Lib.hid hr
        clear hr
        have HG := Lib.hid (tf_no (p := fun x => !decide (x ∈ B)) hx (by simp [HP.out]))
        rw [← HG.out] at HO
        clear hx
        go_wp2_with (first
          | (go_at_call 62; (with_reducible refine (contains_any wr ab nb cb B x true (by omega) HRB.out HP.out).mono ?_); rintro e wr ⟨rfl, rfl⟩))
        go_roundw
        case rel => exact ⟨k + 1, n, g, c, by omega, by go_num, rfl, HO, HR⟩
        case measure => simp [intOf]; omega
    · obtain rfl : k = na := by omega
      have hI : ¬ (k : Int) < k := by omega
      go_wp2
      go_ret
      refine ⟨_, _, _, rfl, ?_, HR.out⟩
      have h9 := HO.out
      rw [List.take_of_length_le (by omega)] at h9
      exact h9
theorem kept4 {w w' : World} {a : Nat} {x0 x1 x2 x3 : Value} (hb : Below w.heap.size w w') (ha : a < w.heap.size)
    (h : w.cell? ⟨a, 0, none⟩ = some x0 ∧ w.cell? ⟨a, 1, none⟩ = some x1 ∧ w.cell? ⟨a, 2, none⟩ = some x2 ∧ w.cell? ⟨a, 3, none⟩ = some x3) :
    w'.cell? ⟨a, 0, none⟩ = some x0 ∧ w'.cell? ⟨a, 1, none⟩ = some x1 ∧ w'.cell? ⟨a, 2, none⟩ = some x2 ∧ w'.cell? ⟨a, 3, none⟩ = some x3 := by
  have e : ∀ (o : Nat), w'.cell? ⟨a, o, none⟩ = w.cell? ⟨a, o, none⟩ := fun o => hb.cell (p := ⟨a, o, none⟩) ha
  rw [e 0, e 1, e 2, e 3]
  exact h
theorem filter_len8 (f : Nat → Bool) (p : Int → Bool) : ((lst f 8).filter p).length ≤ 8 := Nat.le_trans (List.length_filter_le _ _) (lst_len f 8)
set_option maxHeartbeats 8000000 in
set_option maxRecDepth 100000 in
theorem impl_mustlog (ab : Option Addr) (nb cb : Nat) (t : Tk) (hn : (nb : Int) ≤ 1048576) (hcap : nb ≤ cb) (w : World) (h : StRow w ab nb t.b) (f : Nat → Bool) (hf : Is f (LogP t)) :
    Calls Tryz.prog 22 #[tkV ab nb cb t] w (NewInts w (lst f 8)) := by
  obtain ⟨r, hr⟩ := tsk_dec t
  have HTO := Lib.hid (show ∀ w', StRow w' ab nb t.b → Calls Tryz.prog 64 #[tkV ab nb cb t] w' (BelB w' r) from fun w' h' => impl_taskok ab nb cb t hn w' h' r hr)
  have hlen : t.b.length = nb := h.1
  obtain ⟨W, hW⟩ : ∃ W, w.alloc (.cells #[.slice ab nb cb, .int .i64 t.o, .int .i64 t.x, .int .i64 t.y] 34) = W := ⟨_, rfl⟩
  have hbx : Box w.heap.size #[.slice ab nb cb, .int .i64 t.o, .int .i64 t.x, .int .i64 t.y] 34 W := by rw [← hW]; exact Box.new _ _ _
  have hBW : Below w.heap.size w W := by rw [← hW]; exact below_new _ _
  have H := Lib.hid (And.intro hbx (And.intro hBW (h.below hBW)))
  clear h hbx hBW
  have HF := Lib.hid hf
  clear hf
  cases r
  · have HFL := Lib.hid (show lst f 8 = [] from log_none (fun h => by have := hr.2 h; cases this) HF.out)
    clear hr
    go_enter Tryz.func22, Tryz.ntmps22
    go_wp2_with (first
      | (refine wpList_load_row rfl 34 _ rfl w.heap.size rfl _ _ _ _ H.out.1 Tryz.underlying34 rfl (by kernel_rfl) ?_)
      | (go_at_call 64; (with_reducible refine (HTO.out _ H.out.2.2).mono ?_); rintro e w2 ⟨rfl, hb2⟩))
    go_ret
    exact ⟨none, 0, 0, rfl, by rw [HFL.out]; exact World.ownsRow_nil _ _ _ _, below_then H.out.2.1 hb2⟩
  · have HT := Lib.hid (hr.1 rfl)
    obtain ⟨fm, hfm⟩ := is_ex (fun v => IsBlk t.b ∧ MayTo t.b nb v)
    obtain ⟨fu, hfu⟩ := is_ex (fun v => IsBlk t.b ∧ WAt t.b nb v)
    obtain ⟨ff, hff⟩ := is_ex (FirstP t)
    obtain ⟨K, hK⟩ : ∃ K, (lst fu 8).filter (fun y => !decide (y ∈ lst ff 8)) = K := ⟨_, rfl⟩
    have hK8 : K.length ≤ 8 := by rw [← hK]; exact filter_len8 _ _
    have HLF := Lib.hid (show (lst fm 8).filter (fun x => !decide (x ∈ K)) = lst f 8 from by rw [← hK]; exact log_prog HT.out (by rw [hlen]; exact hfm) (by rw [hlen]; exact hfu) hff HF.out)
    have HFM := Lib.hid (And.intro hfm (And.intro hfu hff))
    have HWI := Lib.hid (show ∀ (w' : World) (a1 : Option Addr) (m1 k1 : Nat) (a2 : Option Addr) (m2 k2 : Nat), (m1 : Int) ≤ 1048576 → (m2 : Int) ≤ 1048576 → Row w' a1 m1 (lst fu 8) → Row w' a2 m2 (lst ff 8) → Calls Tryz.prog 66 #[.slice a1 m1 k1, .slice a2 m2 k2] w' (NewInts w' K) from fun w' a1 m1 k1 a2 m2 k2 q1 q2 q3 q4 => by rw [← hK]; exact impl_without a1 m1 k1 _ a2 m2 k2 _ q1 q2 w' q3 q4)
    clear hr hfm hfu hff hK
    go_enter Tryz.func22, Tryz.ntmps22
    go_wp2_with (first
      | (refine wpList_load_row rfl 34 _ rfl w.heap.size rfl _ _ _ _ H.out.1 Tryz.underlying34 rfl (by kernel_rfl) ?_)
      | (go_at_call 64; (with_reducible refine (HTO.out _ H.out.2.2).mono ?_); rintro e w2 ⟨rfl, hb2⟩; refine Hid.out ?_))
    have H2 := Lib.hid (And.intro (H.out.1.below hb2) (And.intro (below_then H.out.2.1 hb2) (H.out.2.2.below hb2)))
    clear hb2 hW
    have HD := Lib.hid (show Below w2.heap.size w2 w2.drew from Below.drew (Below.refl _ w2))
    have HBX := Lib.hid (H2.out.1.below HD.out)
    have c8 : w2.drew.cell? ⟨w.heap.size, 0, none⟩ = some (.slice ab nb cb) ∧ w2.drew.cell? ⟨w.heap.size, 1, none⟩ = some (.int .i64 t.o) ∧ w2.drew.cell? ⟨w.heap.size, 2, none⟩ = some (.int .i64 t.x) ∧ w2.drew.cell? ⟨w.heap.size, 3, none⟩ = some (.int .i64 t.y) := ⟨HBX.out.cell 0, HBX.out.cell 1, HBX.out.cell 2, HBX.out.cell 3⟩
    have l8 : w.heap.size < w2.drew.heap.size := HBX.out.lt
    have HSR := Lib.hid (H2.out.2.2.below HD.out)
    refine Lib.hid ?_
    go_wp2
    go_region_held3 (fun w' => w'.cell? ⟨w.heap.size, 0, none⟩ = some (.slice ab nb cb) ∧ w'.cell? ⟨w.heap.size, 1, none⟩ = some (.int .i64 t.o) ∧ w'.cell? ⟨w.heap.size, 2, none⟩ = some (.int .i64 t.x) ∧ w'.cell? ⟨w.heap.size, 3, none⟩ = some (.int .i64 t.y))
      (first
        | (with_reducible exact c8)
        | (with_reducible exact kept4 hb5 (Nat.lt_of_lt_of_le l8 (Nat.le_trans hb3.size hb4.size)) (kept4 hb4 (Nat.lt_of_lt_of_le l8 hb3.size) (kept4 hb3 l8 c8)))
        | (with_reducible exact kept4 hb4 (Nat.lt_of_lt_of_le l8 hb3.size) (kept4 hb3 l8 c8))
        | (with_reducible exact kept4 hb3 l8 c8))
      (first
        | (go_at_call 15; (with_reducible refine (impl_mustwrite ab nb cb t.b hn hcap _ HSR.out fu HFM.out.2.1).mono ?_); rintro e w3 ⟨a3, n3, c3, rfl, ho3, hb3⟩; have hn3 : (n3 : Int) ≤ 8 := by (have h1 := own_len ho3; have h2 := lst_len fu 8; omega))
        | (go_at_call 20; (with_reducible refine (impl_mayread ab nb cb t hn _ (HSR.out.below hb3) ff HFM.out.2.2).mono ?_); rintro e w4 ⟨a4, n4, c4, rfl, ho4, hb4⟩; have hn4 : (n4 : Int) ≤ 8 := by (have h1 := own_len ho4; have h2 := lst_len ff 8; omega))
        | (go_at_call 66; (with_reducible refine (HWI.out _ a3 n3 c3 a4 n4 c4 (by omega) (by omega) ((Row.of_own ho3).below hb4) (Row.of_own ho4)).mono ?_); rintro e w5 ⟨a5, n5, c5, rfl, ho5, hb5⟩))
    all_goals
      have hn5 : (n5 : Int) ≤ 8 := by have h1 := own_len ho5; omega
      have hb25 := below_then HD.out (below_then hb3 (below_then hb4 hb5))
      have H5 := Lib.hid (And.intro (H2.out.1.below hb25) (And.intro (below_then H2.out.2.1 hb25) (And.intro (H2.out.2.2.below hb25) (Row.of_own ho5))))
      have d0 : w5.cell? ⟨w.heap.size, 0, none⟩ = some (.slice ab nb cb) := H5.out.1.cell 0
      clear hb25 hb3 hb4 hb5 ho3 ho4 ho5 c8 l8
      refine Lib.hid ?_
      go_wp2_with (go_at_call 14; (with_reducible refine (impl_maywrite ab nb cb t.b hn hcap _ H5.out.2.2.1 fm HFM.out.1).mono ?_); rintro e w6 ⟨a6, n6, c6, rfl, ho6, hb6⟩; refine Hid.out ?_)
      have hn6 : (n6 : Int) ≤ 8 := by have h1 := own_len ho6; have h2 := lst_len fm 8; omega
      have H6 := Lib.hid (And.intro (below_then H5.out.2.1 hb6) (And.intro (Row.of_own ho6) (H5.out.2.2.2.below hb6)))
      clear hb6 ho6 d0
      refine Lib.hid ?_
      go_wp2_with (go_at_call 66; (with_reducible refine (impl_without a6 n6 c6 _ a5 n5 c5 _ (by omega) (by omega) _ H6.out.2.1 H6.out.2.2).mono ?_); rintro e w7 ⟨a7, n7, c7, rfl, ho7, hb7⟩)
      go_ret
      exact ⟨_, _, _, rfl, by rw [← HLF.out]; exact ho7.mono H6.out.1.size, below_then H6.out.1 hb7⟩
end Go.Proofs.YtekdnhhmiabngaaGreat.sets

/- The value of an expression is a value and depends on its operands alone: plain mathematics over the functions of the texts before; and the law's own search in a row of numbers. -/
namespace Go.Proofs.YtekdnhhmiabngaaGreat.expr
open Go.ChangeShapes Go.WideShapes Go.ChangeAt Go.RowKit Go.Proofs.YtekdnhhmiabngaaGreat.row Go.Proofs.YtekdnhhmiabngaaGreat.val

theorem mem_rd {a b : Int} {k j : Nat} : (j : Int) ∈ rd a b k ↔ j < k ∧ (a = -1 - (j : Int) ∨ b = -1 - (j : Int)) := by
  simp only [rd, List.mem_map, List.mem_filter, List.mem_range, Bool.or_eq_true, decide_eq_true_eq]
  constructor
  · rintro ⟨i, ⟨h1, h2⟩, e⟩
    have : i = j := by omega
    subst this; exact ⟨h1, h2⟩
  · rintro ⟨h1, h2⟩; exact ⟨j, ⟨h1, h2⟩, rfl⟩
theorem varsOk_set {V : List Int} (h : varsOk V = true) {q : Int} (hq : isVal q = true) (j : Nat) : varsOk (V.set j q) = true := by
  obtain ⟨h1, h2⟩ := (varsOk_iff V).1 h
  refine (varsOk_iff _).2 ⟨by simpa using h1, fun x hx => ?_⟩
  rcases List.mem_or_eq_of_mem_set hx with h | h
  · exact h2 x h
  · rw [h]; exact hq
theorem valOf_set {V : List Int} {q m : Int} {j : Nat} (hm : m ≠ -1 - (j : Int)) : valOf (V.set j q) m = valOf V m := by
  unfold valOf
  split
  · rw [List.getD_eq_getElem?_getD, List.getD_eq_getElem?_getD, List.getElem?_set_ne (by omega)]
  · rfl
theorem evalV_set {V : List Int} {q : Int} {j : Nat} {o a b : Int} (h : varsOk V = true) (hq : isVal q = true) (hj : j < 8) (hn : ¬ (j : Int) ∈ rd a b 8) : evalV (V.set j q) o a b = evalV V o a b := by
  have hne : ¬ (a = -1 - (j : Int) ∨ b = -1 - (j : Int)) := fun h => hn (mem_rd.2 ⟨hj, h⟩)
  unfold evalV
  rw [varsOk_set h hq j, h, valOf_set (fun e => hne (Or.inl e)), valOf_set (fun e => hne (Or.inr e))]
theorem rd_short {a b : Int} (ha : opndOk a = true) (hb : opndOk b = true) : (rd a b 8).length ≤ 2 := by
  rw [← reads_same a b ((opndOk_iff a).1 ha).1 ((opndOk_iff b).1 hb).1]
  refine Nat.le_trans (Lib.compact_length_le _) ?_
  have h : ∀ x, (vk x).length ≤ 1 := fun x => by unfold vk; split <;> simp
  have h1 := h a; have h2 := h b
  rw [srt, List.length_mergeSort, List.length_append]; omega

set_option maxRecDepth 100000 in
theorem has_any (w : World) (a : Option Addr) (n cap : Nat) (L : List Int) (q : Int) (r : Bool) (hn : (n : Int) ≤ 1048576) (h : Row w a n L) (hr : decide (q ∈ L) = r) :
    Calls Tryz.prog 17 #[.slice a n cap, .int .i64 q] w (RetB w r) := by
  subst hr
  have HL := Lib.hid h.1
  have HC : Hid (∀ k, k < n → ∃ (b off : Nat) (x : Int), a = some ⟨b, off, none⟩ ∧ L[k]? = some x ∧ w.cell? ⟨b, off + k, none⟩ = some (.int .i64 x)) := fun k hk => by
    obtain ⟨b, off, x, e, _, hx, hc⟩ := h.2 k hk
    exact ⟨b, off, x, e, hx, hc⟩
  clear h
  go_enter Tryz.func17, Tryz.ntmps17
  go_wp2
  go_loop [5] (fun i => ∃ k : Nat, k ≤ n ∧ i = .int .i64 k ∧ Hid (¬ q ∈ L.take k)) (fun i => n - (intOf i).toNat)
  case atStart => exact ⟨0, Nat.zero_le _, rfl, by simp [Hid]⟩
  case round =>
    obtain ⟨k, hk, rfl, hA⟩ := hrel
    by_cases hlt : k < n
    · obtain ⟨b, off, x, rfl, hx, hc⟩ := HC.out k hlt
      have hI : (k : Int) < n := by omega
      by_cases hq : x = q
      · subst hq
        have HF : Hid (decide (x ∈ L) = true) := by
          show _ = _
          rw [decide_eq_true_eq]; exact List.mem_of_getElem? hx
        clear hx
        go_wp2
        go_ret
        exact ⟨by rw [HF.out]; rfl, rfl⟩
      · have hqb : (x == q) = false := by simpa using hq
        have HA2 : Hid (¬ q ∈ L.take (k + 1)) := by
          show ¬ _
          rw [List.take_add_one, hx, List.mem_append]
          rintro (h | h)
          · exact hA.out h
          · simp at h; exact hq h.symm
        clear hx hq
        go_wp2
        go_round
        case rel => exact ⟨k + 1, by omega, by go_num, HA2⟩
        case measure => simp [intOf]; omega
    · have hkn : k = n := by omega
      subst hkn
      have HF : Hid (decide (q ∈ L) = false) := by
        show _ = _
        rw [decide_eq_false_iff_not]
        have := hA.out
        rwa [List.take_of_length_le (by have := HL.out; omega)] at this
      clear hA
      go_wp2
      go_ret
      exact ⟨by rw [HF.out]; rfl, rfl⟩
end Go.Proofs.YtekdnhhmiabngaaGreat.expr

/- The laws' own comparison of two rows of numbers and of two effects, at equal ones; nothing that was there is written. -/
namespace Go.Proofs.YtekdnhhmiabngaaGreat.exe
open Go Go.ChangeShapes Go.WideShapes Go.ChangeAt Go.RowKit Go.Proofs.YtekdnhhmiabngaaGreat.row Go.Proofs.YtekdnhhmiabngaaGreat.val Go.Proofs.YtekdnhhmiabngaaGreat.expr

set_option maxHeartbeats 1000000 in
theorem same_row (w : World) (a a' : Option Addr) (n cap cap' : Nat) (L : List Int) (hn : (n : Int) ≤ 1048576) (h1 : Row w a n L) (h2 : Row w a' n L) :
    Calls Tryz.prog 21 #[.slice a n cap, .slice a' n cap'] w fun e w' => e = .returned (.bool true) ∧ w.grownBy w' none := by
  have HC : Hid (∀ k, k < n → ∃ (g o g' o' : Nat) (X : Int), a = some ⟨g, o, none⟩ ∧ a' = some ⟨g', o', none⟩ ∧ w.cell? ⟨g, o + k, none⟩ = some (.int .i64 X) ∧ w.cell? ⟨g', o' + k, none⟩ = some (.int .i64 X)) := by
    intro k hk
    obtain ⟨g, o, X, e1, _, x1, c1⟩ := h1.2 k hk
    obtain ⟨g', o', X', e2, _, x2, c2⟩ := h2.2 k hk
    obtain rfl : X = X' := by rw [x1] at x2; exact Option.some.inj x2
    exact ⟨g, o, g', o', X, e1, e2, c1, c2⟩
  clear h1 h2
  go_enter Tryz.func21, Tryz.ntmps21
  go_wp2
  go_loopw [5] (fun i wr => ∃ k : Nat, k ≤ n ∧ i = .int .i64 k ∧ w.grownBy wr none) (fun i _ => n - (intOf i).toNat)
  case atStart => exact ⟨0, Nat.zero_le _, rfl, row.grown_refl _ _⟩
  case round =>
    obtain ⟨k, hk, rfl, hg⟩ := hrel
    by_cases hlt : k < n
    · obtain ⟨g, o, g', o', X, rfl, rfl, c1, c2⟩ := HC.out k hlt
      have d1 := hg.cell c1 (by simp)
      have d2 := hg.cell c2 (by simp)
      have hI : (k : Int) < n := by omega
      clear c1 c2
      go_wp2
      go_quiet (fail)
      go_wp2
      go_roundw
      case rel => exact ⟨k + 1, by omega, by go_num, row.grown_drewN hg _⟩
      case measure => simp [intOf]; omega
    · go_wp2
      go_ret
      exact ⟨rfl, hg⟩
set_option maxHeartbeats 4000000 in
theorem same_eff (w : World) (E : Eff) (a1 : Option Addr) (n1 c1 : Nat) (a2 : Option Addr) (n2 c2 : Nat) (b1 : Option Addr) (d1 : Nat) (b2 : Option Addr) (d2 : Nat) (hn1 : (n1 : Int) ≤ 1048576) (hn2 : (n2 : Int) ≤ 1048576)
    (r1 : Row w a1 n1 E.V) (r2 : Row w a2 n2 E.S) (s1 : Row w b1 n1 E.V) (s2 : Row w b2 n2 E.S) :
    Calls Tryz.prog 23 #[effV a1 n1 c1 a2 n2 c2 E, effV b1 n1 d1 b2 n2 d2 E] w (BelB w true) := by
  obtain ⟨V, S, N, U⟩ := E
  show Calls Tryz.prog 23 #[.agg #[.slice a1 n1 c1, .slice a2 n2 c2, .int .i64 N, .int .i64 U], .agg #[.slice b1 n1 d1, .slice b2 n2 d2, .int .i64 N, .int .i64 U]] w (BelB w true)
  obtain ⟨W, hW⟩ : ∃ W, (w.alloc (.cells #[.slice a1 n1 c1, .slice a2 n2 c2, .int .i64 N, .int .i64 U] 37)).alloc (.cells #[.slice b1 n1 d1, .slice b2 n2 d2, .int .i64 N, .int .i64 U] 37) = W := ⟨_, rfl⟩
  have hBW : Below w.heap.size w W := by rw [← hW]; exact below_then (below_new w _) (below_new _ _)
  have hx : Box w.heap.size #[.slice a1 n1 c1, .slice a2 n2 c2, .int .i64 N, .int .i64 U] 37 W := by rw [← hW]; exact (Box.new w _ _).alloc _
  have hy : Box (w.heap.size + 1) #[.slice b1 n1 d1, .slice b2 n2 d2, .int .i64 N, .int .i64 U] 37 W := by
    have h9 := Box.new (w.alloc (.cells #[.slice a1 n1 c1, .slice a2 n2 c2, .int .i64 N, .int .i64 U] 37)) #[.slice b1 n1 d1, .slice b2 n2 d2, .int .i64 N, .int .i64 U] 37
    rw [World.size_alloc] at h9
    rw [← hW]; exact h9
  have H0 := Lib.hid (And.intro hBW (And.intro (r1.below hBW) (And.intro (r2.below hBW) (And.intro (s1.below hBW) (s2.below hBW)))))
  have x0 : W.cell? ⟨w.heap.size, 0, none⟩ = some (.slice a1 n1 c1) := hx.cell 0
  have y0 : W.cell? ⟨w.heap.size + 1, 0, none⟩ = some (.slice b1 n1 d1) := hy.cell 0
  have HX := Lib.hid (And.intro hx hy)
  clear hBW r1 r2 s1 s2 hx hy
  go_enter Tryz.func23, Tryz.ntmps23
  go_wp2_with (go_at_call 21; (with_reducible refine (same_row _ a1 b1 n1 c1 d1 V hn1 H0.out.2.1 H0.out.2.2.2.1).mono ?_); rintro e w2 ⟨rfl, hg2⟩; refine Hid.out ?_)
  have hb2 : Below W.heap.size W w2 := (Below.refl _ W).grown hg2 (Nat.le_refl _) (fun k hk => by cases hk)
  have hX2 := HX.out.1.below hb2
  have hY2 := HX.out.2.below hb2
  have H2 := Lib.hid (And.intro (below_then H0.out.1 hb2) (And.intro (H0.out.2.2.1.below hb2) (H0.out.2.2.2.2.below hb2)))
  have x1 : w2.cell? ⟨w.heap.size, 1, none⟩ = some (.slice a2 n2 c2) := hX2.cell 1
  have y1 : w2.cell? ⟨w.heap.size + 1, 1, none⟩ = some (.slice b2 n2 d2) := hY2.cell 1
  have HX2 := Lib.hid (And.intro hX2 hY2)
  clear hg2 hb2 x0 y0 hX2 hY2
  refine Lib.hid ?_
  go_wp2_with (go_at_call 21; (with_reducible refine (same_row _ a2 b2 n2 c2 d2 S hn2 H2.out.2.1 H2.out.2.2).mono ?_); rintro e w3 ⟨rfl, hg3⟩; refine Hid.out ?_)
  have hb3 : Below w2.heap.size w2 w3 := (Below.refl _ w2).grown hg3 (Nat.le_refl _) (fun k hk => by cases hk)
  have hX3 := HX2.out.1.below hb3
  have hY3 := HX2.out.2.below hb3
  have x2 : w3.cell? ⟨w.heap.size, 2, none⟩ = some (.int .i64 N) := hX3.cell 2
  have y2 : w3.cell? ⟨w.heap.size + 1, 2, none⟩ = some (.int .i64 N) := hY3.cell 2
  have x3 : w3.cell? ⟨w.heap.size, 3, none⟩ = some (.int .i64 U) := hX3.cell 3
  have y3 : w3.cell? ⟨w.heap.size + 1, 3, none⟩ = some (.int .i64 U) := hY3.cell 3
  have HB3 := Lib.hid (below_then H2.out.1 hb3)
  clear hg3 hb3 x1 y1 hX3 hY3
  refine Lib.hid ?_
  go_wp2
  go_ret
  exact ⟨rfl, HB3.out⟩
end Go.Proofs.YtekdnhhmiabngaaGreat.exe
