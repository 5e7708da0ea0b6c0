/- Several texts in one: StmR BlkA. -/
import Derived.Test.YtlicadaecfgklaaGreatGHub2

/- Rows of statements: a slice that reads as a list of statements; the law's own copy, size and comparison of such a slice. -/
namespace Go.Proofs.YtlicadaecfgklaaGreat.stm
open Go Go.ChangeShapes Go.WideShapes Go.ChangeAt Go.RowKit Go.Proofs.YtlicadaecfgklaaGreat.row Go.Proofs.YtlicadaecfgklaaGreat.val Go.Proofs.YtlicadaecfgklaaGreat.expr

/-- The slice at 'a' of 'n' statements reads as the list 'L'. -/
def StRow (w : World) (a : Option Addr) (n : Nat) (L : List St) : Prop :=
  L.length = n ∧ ∀ k, k < n → ∃ (b off : Nat) (s : St), a = some ⟨b, off, none⟩ ∧ b < w.heap.size ∧ L[k]? = some s ∧ w.rangeAt b (off + k * 6) (stC s)
theorem StRow.below {w w' : World} {a : Option Addr} {n : Nat} {L : List St} (h : StRow w a n L) (hb : Below w.heap.size w w') : StRow w' a n L :=
  ⟨h.1, fun k hk => by
    obtain ⟨b, off, s, rfl, hlt, hs, hr⟩ := h.2 k hk
    exact ⟨b, off, s, rfl, Nat.lt_of_lt_of_le hlt hb.size, hs, fun j v hv => (hb.cell (p := ⟨b, off + k * 6 + j, none⟩) hlt).trans (hr j v hv)⟩⟩
theorem StRow.nil (w : World) (a : Option Addr) : StRow w a 0 [] := ⟨rfl, fun k hk => by omega⟩
theorem StRow.take {w : World} {a : Option Addr} {n : Nat} {L : List St} (h : StRow w a n L) (k : Nat) (hk : k ≤ n) : StRow w a k (L.take k) :=
  ⟨by rw [List.length_take, h.1]; omega, fun j hj => by
    obtain ⟨b, off, s, e, hlt, hs, hr⟩ := h.2 j (by omega)
    exact ⟨b, off, s, e, hlt, by rw [List.getElem?_take, if_pos hj]; exact hs, hr⟩⟩
/-- A block that is a list of statements, whole. -/
theorem StRow.of_box {w : World} {g : Nat} {L : List St} {t : TypeId} (h : Box g (stsC L).toArray t w) : StRow w (some ⟨g, 0, none⟩) L.length L :=
  ⟨rfl, fun k hk => ⟨g, 0, L[k], rfl, h.lt, by simp [hk], fun j v hv => by
    have hj : j < 6 := by have := (List.getElem?_eq_some_iff.1 hv).1; simpa [stC] using this
    have h2 := stsC_at (L := L) (i := k) (s := L[k]) (by simp [hk]) j hj
    rw [show 0 + k * 6 + j = k * 6 + j by omega, h.cell]
    rw [List.getElem?_toArray, h2, hv]⟩⟩
theorem StRow.of_own {w : World} {base : Nat} {a : Option Addr} {n cap : Nat} {L : List St} {t : TypeId} (h : w.ownsRow base t 6 (.slice a n cap) n (stsC L)) : StRow w a n L := by
  have hl : L.length = n := by have := h.1; rw [stsC_len] at this; omega
  refine ⟨hl, fun k hk => ?_⟩
  obtain ⟨g, c, hv, _, hg⟩ := h.form (by omega)
  injection hv with h1 h2 h3
  subst h1
  refine ⟨g, 0, L[k], rfl, hg, by simp [hl, hk], fun j v hjv => ?_⟩
  have hj : j < 6 := by have := (List.getElem?_eq_some_iff.1 hjv).1; simpa [stC] using this
  have h4 := stsC_at (L := L) (i := k) (s := L[k]) (by simp [hl, hk]) j hj
  rw [show 0 + k * 6 + j = k * 6 + j by omega, h.cellAt (k * 6 + j) (by omega), h4, hjv]
theorem setAll_mid : ∀ (vs A B C : List Value), B.length = vs.length → setAll (A ++ (B ++ C)).toArray A.length vs = (A ++ (vs ++ C)).toArray
  | [], A, B, C, h => by
    obtain rfl : B = [] := List.eq_nil_of_length_eq_zero h
    rfl
  | v :: r, A, b :: B, C, h => by
    have e : (A ++ (b :: B ++ C)).toArray.setIfInBounds A.length v = ((A ++ [v]) ++ (B ++ C)).toArray := by
      simp [List.setIfInBounds_toArray, List.set_append_right]
    show setAll ((A ++ (b :: B ++ C)).toArray.setIfInBounds A.length v) (A.length + 1) r = _
    rw [e]
    have := setAll_mid r (A ++ [v]) B C (by simpa using h)
    rw [List.length_append, List.length_singleton] at this
    rw [this]; simp
  | _ :: _, _, [], _, h => by simp at h
theorem copy_next {L : List St} {n k : Nat} {s : St} (hl : L.length = n) (hk : k < n) (hs : L[k]? = some s) :
    setAll (stsC (L.take k) ++ List.replicate ((n - k) * 6) (Value.int .i64 0)).toArray (k * 6) (stC s) = (stsC (L.take (k + 1)) ++ List.replicate ((n - (k + 1)) * 6) (Value.int .i64 0)).toArray := by
  have e1 : (n - k) * 6 = 6 + (n - (k + 1)) * 6 := by omega
  have e2 : k * 6 = (stsC (L.take k)).length := by rw [stsC_len, List.length_take]; omega
  rw [e1, ← List.replicate_append_replicate, e2, setAll_mid _ _ _ _ (by simp [stC])]
  rw [List.take_add_one, hs, stsC_app]
  simp [stsC]
theorem StRow.of_box' {w : World} {g n : Nat} {L : List St} {t : TypeId} (h : Box g (stsC L).toArray t w) (hl : L.length = n) : StRow w (some ⟨g, 0, none⟩) n L := hl ▸ StRow.of_box h
/-- A copy of the row in new memory. -/
def MadeSts (w : World) (n : Nat) (L : List St) (e : Ending) (w' : World) : Prop :=
  e = .returned (.slice (some ⟨w.heap.size, 0, none⟩) n n) ∧ Box w.heap.size (stsC L).toArray 68 w' ∧ Below w.heap.size w w'
theorem own_box {w : World} {base g n : Nat} {t : TypeId} {xs : List Value} (h : w.ownsRow base t 6 (.slice (some ⟨g, 0, none⟩) n n) n xs) : Box g xs.toArray t w := by
  rcases h.2 with ⟨h0, _⟩ | ⟨g', cap, cur, hv, _, hg, _, _, hs, ht⟩
  · simp at h0
  · simp only [Value.slice.injEq, Option.some.injEq, Addr.mk.injEq, and_true, true_and] at hv
    obtain ⟨rfl, rfl⟩ := hv
    have e : xs = cur.toList := by rw [← ht]; exact List.take_of_length_le (by rw [Array.length_toList, hs]; exact Nat.le_refl _)
    unfold Box
    rw [e, Array.toArray_toList]; exact hg
theorem made_st_zeros (n : Nat) : (madeCells (stV ⟨0, 0, 0, 0, 0, 0⟩).cells n).toList = List.replicate n (Value.int .i64 0) := by
  apply List.ext_getElem?
  intro j
  by_cases hj : j < n
  · have h6 : j % 6 = 0 ∨ j % 6 = 1 ∨ j % 6 = 2 ∨ j % 6 = 3 ∨ j % 6 = 4 ∨ j % 6 = 5 := by omega
    rw [List.getElem?_replicate, if_pos hj]
    simp only [madeCells, Array.toList_map, List.getElem?_map, Array.toList_range, List.getElem?_range hj, Option.map_some]
    show some ((stV ⟨0, 0, 0, 0, 0, 0⟩).cells[j % 6]!) = _
    rcases h6 with h | h | h | h | h | h <;> rw [h] <;> rfl
  · rw [List.getElem?_eq_none (by rw [Array.length_toList, size_madeCells]; omega), List.getElem?_eq_none (by rw [List.length_replicate]; omega)]
theorem infoStmt : (Tryz.prog.info? 68).map (fun i => (i.zero, i.size, i.bytes)) = some (some (stV ⟨0, 0, 0, 0, 0, 0⟩), 6, 48) := by kernel_rfl
set_option maxHeartbeats 2000000 in
set_option maxRecDepth 100000 in
theorem toStmts_any (w : World) (a : Option Addr) (n cap : Nat) (L : List St) (hn : (n : Int) ≤ 1048576) (h : StRow w a n L) : Calls Tryz.prog 64 #[.slice a n cap] w (MadeSts w n L) := by
  obtain ⟨i0, hi, hz0, hz1, hz2⟩ := info_parts infoStmt
  have HL := Lib.hid h
  clear h
  go_enter Tryz.func64, Tryz.ntmps64
  go_wp2_with ((refine wpList_make_full _ rfl _ _ 43 rfl w.heap.size 68 i0 _ 6 Tryz.underlying43 hi hz0 hz1 .i64 .i64 _ _ n rfl rfl rfl rfl (by rw [hz2]; omega) (by unfold maxLen; omega) (Nat.le_refl _) ?_); intro w1 hown1 hg1; refine Hid.out ?_)
  rw [made_st_zeros] at hown1
  have hx1 := own_box hown1
  have hb1 := below_grown hg1
  clear hg1 hown1
  refine Lib.hid ?_
  go_wp2
  go_loopw [4] (fun i wr => ∃ k : Nat, k ≤ n ∧ i = .int .i64 k ∧ Box w.heap.size (stsC (L.take k) ++ List.replicate ((n - k) * 6) (Value.int .i64 0)).toArray 68 wr ∧ Below w.heap.size w wr) (fun i _ => n - (intOf i).toNat)
  case atStart => exact ⟨0, Nat.zero_le _, rfl, by simpa [stsC] using hx1, hb1⟩
  case round =>
    obtain ⟨k, hk, rfl, hbx, hbel⟩ := hrel
    by_cases hlt : k < n
    · obtain ⟨b, off, s, rfl, hlb, hs, hr⟩ := (HL.out.below hbel).2 k hlt
      have HR := Lib.hid (And.intro hr (And.intro hs (And.intro hbx hbel)))
      have hI : (k : Int) < n := by omega
      have hlw := hbx.lt
      clear hr hs hbx hbel
      go_wp2_with (first
        | (refine wpList_load_mid rfl 105 _ rfl b (off + k * 6) rfl (stC s) _ HR.out.1 Tryz.underlying105 rfl (by kernel_rfl) ?_)
        | (go_at_call 84; refine (toStmt_any s _).mono ?_; rintro e w2 ⟨rfl, hb2⟩; refine Hid.out ?_))
      have H2 := Lib.hid (And.intro (HR.out.2.2.1.below hb2) (below_then HR.out.2.2.2 hb2))
      have hkn : k * 6 + 6 ≤ n * 6 := by omega
      have hsz : (stsC (L.take k) ++ List.replicate ((n - k) * 6) (Value.int .i64 0)).length = n * 6 := by
        rw [List.length_append, stsC_len, List.length_take, List.length_replicate, HL.out.1]; omega
      have HSZ := Lib.hid (show k * 6 + 6 ≤ (stsC (L.take k) ++ List.replicate ((n - k) * 6) (Value.int .i64 0)).toArray.size by rw [List.size_toArray, hsz]; exact hkn)
      clear hb2 hkn hsz
      refine Lib.hid ?_
      go_wp2_with ((refine wpList_store_part rfl 68 _ _ rfl w.heap.size (k * 6) _ _ H2.out.1 #[.int .i64 s.k, .int .i64 s.v, .int .i64 s.n, .int .i64 s.o, .int .i64 s.a, .int .i64 s.b] rfl rfl HSZ.out (by kernel_rfl) (by simp [Value.oneCell']) ?_); intro w3 hx3 hg3; refine Hid.out ?_)
      have H3 := Lib.hid (show Box w.heap.size (stsC (L.take (k + 1)) ++ List.replicate ((n - (k + 1)) * 6) (Value.int .i64 0)).toArray 68 w3 by rw [← copy_next HL.out.1 hlt HR.out.2.1]; exact hx3)
      have HB3 := Lib.hid (H2.out.2.grown hg3 H2.out.2.size (fun j hj => by cases hj; exact Nat.le_refl _))
      clear hx3 hg3
      refine Lib.hid ?_
      go_wp2
      go_roundw
      case rel => exact ⟨k + 1, by omega, by go_num, H3.out, HB3.out⟩
      case measure => simp [intOf]; omega
    · obtain rfl : k = n := by omega
      have hI : ¬ (k : Int) < k := by omega
      rw [List.take_of_length_le (by rw [HL.out.1]; exact Nat.le_refl _), Nat.sub_self, Nat.zero_mul, List.replicate_zero, List.append_nil] at hbx
      have HB := Lib.hid (And.intro hbx hbel)
      clear hbx hbel
      go_wp2
      go_ret
      exact ⟨rfl, HB.out.1, HB.out.2⟩
theorem sz_any (a : Option Addr) (n cap : Nat) (x : Int) (hn : (n : Int) ≤ 9223372036854775807) (hx : 0 ≤ x) (hx2 : x ≤ 1000000000000) (w : World) :
    Calls Tryz.prog 58 #[.slice a n cap, .int .i64 x] w (Ret w (if x - n < 0 then -1 else x - n)) := by
  by_cases h : x - n < 0
  · rw [if_pos h]
    go_enter Tryz.func58, Tryz.ntmps58
    go_wp2
    go_ret
    exact ⟨rfl, rfl⟩
  · rw [if_neg h]
    go_enter Tryz.func58, Tryz.ntmps58
    go_wp2
    go_ret
    exact ⟨rfl, rfl⟩
theorem held6o {w w' : World} {g o : Nat} {x0 x1 x2 x3 x4 x5 : Value} (hb : Below w.heap.size w w') (hg : g < w.heap.size)
    (h : w.cell? ⟨g, o, none⟩ = some x0 ∧ w.cell? ⟨g, o + 1, none⟩ = some x1 ∧ w.cell? ⟨g, o + 2, none⟩ = some x2 ∧ w.cell? ⟨g, o + 3, none⟩ = some x3 ∧ w.cell? ⟨g, o + 4, none⟩ = some x4 ∧ w.cell? ⟨g, o + 5, none⟩ = some x5) :
    w'.cell? ⟨g, o, none⟩ = some x0 ∧ w'.cell? ⟨g, o + 1, none⟩ = some x1 ∧ w'.cell? ⟨g, o + 2, none⟩ = some x2 ∧ w'.cell? ⟨g, o + 3, none⟩ = some x3 ∧ w'.cell? ⟨g, o + 4, none⟩ = some x4 ∧ w'.cell? ⟨g, o + 5, none⟩ = some x5 :=
  ⟨(hb.cell (p := ⟨g, o, none⟩) hg).trans h.1, (hb.cell (p := ⟨g, o + 1, none⟩) hg).trans h.2.1, (hb.cell (p := ⟨g, o + 2, none⟩) hg).trans h.2.2.1, (hb.cell (p := ⟨g, o + 3, none⟩) hg).trans h.2.2.2.1, (hb.cell (p := ⟨g, o + 4, none⟩) hg).trans h.2.2.2.2.1, (hb.cell (p := ⟨g, o + 5, none⟩) hg).trans h.2.2.2.2.2⟩
/-- The six cells of a statement that lies in a row. -/
theorem range6 {w : World} {g o : Nat} {s : St} (h : w.rangeAt g o (stC s)) : w.cell? ⟨g, o, none⟩ = some (.int .i64 s.k) ∧ w.cell? ⟨g, o + 1, none⟩ = some (.int .i64 s.v) ∧ w.cell? ⟨g, o + 2, none⟩ = some (.int .i64 s.n) ∧ w.cell? ⟨g, o + 3, none⟩ = some (.int .i64 s.o) ∧ w.cell? ⟨g, o + 4, none⟩ = some (.int .i64 s.a) ∧ w.cell? ⟨g, o + 5, none⟩ = some (.int .i64 s.b) :=
  ⟨h 0 _ rfl, h 1 _ rfl, h 2 _ rfl, h 3 _ rfl, h 4 _ rfl, h 5 _ rfl⟩
theorem range_lt {w : World} {g o : Nat} {s : St} (h : w.rangeAt g o (stC s)) : g < w.heap.size := World.block_lt_of_cell? w ⟨g, o + 0, none⟩ (h 0 _ rfl)
set_option maxHeartbeats 2000000 in
set_option maxRecDepth 100000 in
theorem eqStmts_any (w : World) (a a' : Option Addr) (n cap cap' : Nat) (L : List St) (hn : (n : Int) ≤ 1048576) (h1 : StRow w a n L) (h2 : StRow w a' n L) :
    Calls Tryz.prog 78 #[.slice a n cap, .slice a' n cap'] w (BelB w true) := by
  have HC : Hid (∀ wr : World, Below w.heap.size w wr → ∀ k, k < n → ∃ (g o g' o' : Nat) (s : St), a = some ⟨g, o, none⟩ ∧ a' = some ⟨g', o', none⟩ ∧ wr.rangeAt g (o + k * 6) (stC s) ∧ wr.rangeAt g' (o' + k * 6) (stC s)) := by
    intro wr hb k hk
    obtain ⟨g, o, X, e1, _, x1, c1⟩ := (h1.below hb).2 k hk
    obtain ⟨g', o', X', e2, _, x2, c2⟩ := (h2.below hb).2 k hk
    obtain rfl : X = X' := by rw [x1] at x2; exact Option.some.inj x2
    exact ⟨g, o, g', o', X, e1, e2, c1, c2⟩
  clear h1 h2
  go_enter Tryz.func78, Tryz.ntmps78
  go_wp2
  go_loopw [5] (fun i wr => ∃ k : Nat, k ≤ n ∧ i = .int .i64 k ∧ Below w.heap.size w wr) (fun i _ => n - (intOf i).toNat)
  case atStart => exact ⟨0, Nat.zero_le _, rfl, Below.refl _ _⟩
  case round =>
    obtain ⟨k, hk, rfl, hbel⟩ := hrel
    by_cases hlt : k < n
    · obtain ⟨g, o, g', o', s, rfl, rfl, c1, c2⟩ := HC.out wr hbel k hlt
      have hI : (k : Int) < n := by omega
      have HB := Lib.hid hbel
      have hgl := range_lt c1
      have hgl' := range_lt c2
      have r0 : wr.drew.cell? ⟨g, o + k * 6, none⟩ = some (.int .i64 s.k) ∧ wr.drew.cell? ⟨g, o + k * 6 + 1, none⟩ = some (.int .i64 s.v) ∧ wr.drew.cell? ⟨g, o + k * 6 + 2, none⟩ = some (.int .i64 s.n) ∧ wr.drew.cell? ⟨g, o + k * 6 + 3, none⟩ = some (.int .i64 s.o) ∧ wr.drew.cell? ⟨g, o + k * 6 + 4, none⟩ = some (.int .i64 s.a) ∧ wr.drew.cell? ⟨g, o + k * 6 + 5, none⟩ = some (.int .i64 s.b) := range6 c1
      have t0 : wr.drew.cell? ⟨g', o' + k * 6, none⟩ = some (.int .i64 s.k) ∧ wr.drew.cell? ⟨g', o' + k * 6 + 1, none⟩ = some (.int .i64 s.v) ∧ wr.drew.cell? ⟨g', o' + k * 6 + 2, none⟩ = some (.int .i64 s.n) ∧ wr.drew.cell? ⟨g', o' + k * 6 + 3, none⟩ = some (.int .i64 s.o) ∧ wr.drew.cell? ⟨g', o' + k * 6 + 4, none⟩ = some (.int .i64 s.a) ∧ wr.drew.cell? ⟨g', o' + k * 6 + 5, none⟩ = some (.int .i64 s.b) := range6 c2
      clear c1 c2 hbel
      go_wp2
      go_region_held3 (fun w' => (w'.cell? ⟨g, o + k * 6, none⟩ = some (.int .i64 s.k) ∧ w'.cell? ⟨g, o + k * 6 + 1, none⟩ = some (.int .i64 s.v) ∧ w'.cell? ⟨g, o + k * 6 + 2, none⟩ = some (.int .i64 s.n) ∧ w'.cell? ⟨g, o + k * 6 + 3, none⟩ = some (.int .i64 s.o) ∧ w'.cell? ⟨g, o + k * 6 + 4, none⟩ = some (.int .i64 s.a) ∧ w'.cell? ⟨g, o + k * 6 + 5, none⟩ = some (.int .i64 s.b)) ∧ (w'.cell? ⟨g', o' + k * 6, none⟩ = some (.int .i64 s.k) ∧ w'.cell? ⟨g', o' + k * 6 + 1, none⟩ = some (.int .i64 s.v) ∧ w'.cell? ⟨g', o' + k * 6 + 2, none⟩ = some (.int .i64 s.n) ∧ w'.cell? ⟨g', o' + k * 6 + 3, none⟩ = some (.int .i64 s.o) ∧ w'.cell? ⟨g', o' + k * 6 + 4, none⟩ = some (.int .i64 s.a) ∧ w'.cell? ⟨g', o' + k * 6 + 5, none⟩ = some (.int .i64 s.b)))
        (first | (exact ⟨r0, t0⟩) | (exact ⟨held6o (drew_below hb2) hgl r0, held6o (drew_below hb2) hgl' t0⟩))
        (first
          | (go_at_call 94; refine (eqstmt_same s _).mono ?_; rintro e w2 ⟨rfl, hb2⟩))
      have hb3 := Lib.hid (HB.out.trans ((drew_below hb2).mono HB.out.size))
      clear hb2 r0 t0
      go_wp2
      go_roundw
      case rel => exact ⟨k + 1, by omega, by go_num, hb3.out⟩
      case measure => simp [intOf]; omega
    · have hI : ¬ (k : Int) < n := by omega
      have HB := Lib.hid hbel
      clear hbel
      go_wp2
      go_ret
      exact ⟨rfl, HB.out⟩
end Go.Proofs.YtlicadaecfgklaaGreat.stm

/- Blocks as heights: a statement that opens raises the height, an end lowers it; a block is valid if the height stays between 0 and 3 and ends at 0; the matching end, the depth. Plain mathematics. -/
namespace Go.Proofs.YtlicadaecfgklaaGreat.blk
open Go Go.Proofs.YtlicadaecfgklaaGreat.stm

abbrev St := Go.Proofs.YtlicadaecfgklaaGreat.stm.St
def opn (s : St) : Bool := s.k == 4 || s.k == 5
def dlt (s : St) : Int := if s.k = 4 ∨ s.k = 5 then 1 else if s.k = 6 then -1 else 0
/-- The height behind a list of statements. -/
def ht (L : List St) : Int := (L.map dlt).sum
def hAt (L : List St) (i : Nat) : Int := ht (L.take i)
theorem hAt_zero (L : List St) : hAt L 0 = 0 := rfl
theorem hAt_succ {L : List St} {i : Nat} {s : St} (h : L[i]? = some s) : hAt L (i + 1) = hAt L i + dlt s := by
  unfold hAt ht; rw [List.take_add_one, h]; simp [List.sum_append]
theorem hAt_end (L : List St) {i : Nat} (h : L.length ≤ i) : hAt L i = hAt L L.length := by
  unfold hAt; rw [List.take_of_length_le h, List.take_of_length_le (Nat.le_refl _)]
theorem dlt_opn {s : St} (h : opn s = true) : dlt s = 1 := by
  unfold opn at h; unfold dlt; rw [if_pos (by simpa using h)]
theorem dlt_end {s : St} (h : s.k = 6) : dlt s = -1 := by
  unfold dlt; rw [if_neg (by omega), if_pos h]
theorem dlt_flat {s : St} (h : opn s = false) (h6 : s.k ≠ 6) : dlt s = 0 := by
  unfold opn at h; unfold dlt; rw [if_neg (by simpa using h), if_neg h6]
theorem dlt_cases (s : St) : (opn s = true ∧ s.k ≠ 6 ∧ dlt s = 1) ∨ (opn s = false ∧ s.k = 6 ∧ dlt s = -1) ∨ (opn s = false ∧ s.k ≠ 6 ∧ dlt s = 0) := by
  by_cases ho : opn s = true
  · refine .inl ⟨ho, ?_, dlt_opn ho⟩
    intro e; unfold opn at ho; rw [e] at ho; simp at ho
  · have ho' : opn s = false := by simpa using ho
    by_cases h6 : s.k = 6
    · exact .inr (.inl ⟨ho', h6, dlt_end h6⟩)
    · exact .inr (.inr ⟨ho', h6, dlt_flat ho' h6⟩)
/-- The block is valid up to the statement 'n'. -/
def OkTo (L : List St) (n : Nat) : Prop := ∀ j s, j < n → L[j]? = some s → stOk s = true ∧ 0 ≤ hAt L (j + 1) ∧ hAt L (j + 1) ≤ 3
/-- A valid block. -/
def IsBlk (L : List St) : Prop := OkTo L L.length ∧ hAt L L.length = 0 ∧ L.length ≤ 24
theorem okTo_zero (L : List St) : OkTo L 0 := fun j s h => by omega
theorem okTo_succ {L : List St} {n : Nat} {s : St} (h : OkTo L n) (hs : L[n]? = some s) (h1 : stOk s = true) (h2 : 0 ≤ hAt L (n + 1)) (h3 : hAt L (n + 1) ≤ 3) : OkTo L (n + 1) := fun j t hj ht => by
  by_cases e : j = n
  · subst e; rw [hs] at ht; cases ht; exact ⟨h1, h2, h3⟩
  · exact h j t (by omega) ht
theorem not_blk_at {L : List St} {n : Nat} {s : St} (hs : L[n]? = some s) (h : stOk s = false ∨ hAt L (n + 1) < 0 ∨ 3 < hAt L (n + 1)) : ¬ IsBlk L := fun hb => by
  obtain ⟨h1, h2, h3⟩ := hb.1 n s (List.getElem?_eq_some_iff.1 hs).1 hs
  rcases h with h | h | h
  · rw [h] at h1; cases h1
  · omega
  · omega
theorem blk_bounds {L : List St} (h : IsBlk L) (i : Nat) : 0 ≤ hAt L i ∧ hAt L i ≤ 3 := by
  rcases Nat.eq_zero_or_pos i with rfl | hi
  · rw [hAt_zero]; omega
  · obtain ⟨j, rfl⟩ : ∃ j, i = j + 1 := ⟨i - 1, by omega⟩
    by_cases hj : j < L.length
    · exact (h.1 j L[j] hj (by simp [hj])).2
    · rw [hAt_end L (by omega), h.2.1]; omega
theorem blk_stOk {L : List St} (h : IsBlk L) {i : Nat} {s : St} (hs : L[i]? = some s) : stOk s = true := (h.1 i s (List.getElem?_eq_some_iff.1 hs).1 hs).1

/-- The end 'e' of the statement 'i': the height comes back there for the first time. -/
def IsEnd (L : List St) (i e : Nat) : Prop := i < e ∧ e < L.length ∧ hAt L (e + 1) = hAt L i ∧ ∀ j, i < j → j ≤ e → hAt L i < hAt L j
theorem IsEnd.unique {L : List St} {i e f : Nat} (h : IsEnd L i e) (h' : IsEnd L i f) : e = f := by
  rcases Nat.lt_trichotomy e f with hlt | rfl | hlt
  · have := h'.2.2.2 (e + 1) (by have := h.1; omega) (by omega); rw [h.2.2.1] at this; omega
  · rfl
  · have := h.2.2.2 (f + 1) (by have := h'.1; omega) (by omega); rw [h'.2.2.1] at this; omega
theorem at_lt {L : List St} {i : Nat} (h : i < L.length) : ∃ s, L[i]? = some s := ⟨L[i], by simp [h]⟩
theorem IsEnd.kind {L : List St} {i e : Nat} (h : IsEnd L i e) : ∃ s, L[e]? = some s ∧ s.k = 6 := by
  obtain ⟨s, he⟩ := at_lt h.2.1
  refine ⟨s, he, ?_⟩
  have h1 := hAt_succ he
  have h2 := h.2.2.2 e h.1 (Nat.le_refl _)
  have h3 := h.2.2.1
  rcases dlt_cases s with ⟨_, _, hd⟩ | ⟨_, h6, _⟩ | ⟨_, _, hd⟩
  · omega
  · exact h6
  · omega
theorem IsEnd.depth {L : List St} {i e : Nat} (h : IsEnd L i e) : hAt L e = hAt L i + 1 := by
  obtain ⟨s, hs, h6⟩ := h.kind
  have h1 := hAt_succ hs
  rw [dlt_end h6, h.2.2.1] at h1
  omega
/-- From a statement that opens on, the height comes back: there is an end, if there is a place where it is as low. -/
theorem end_search {L : List St} {i : Nat} {s : St} (hs : L[i]? = some s) (ho : opn s = true) : ∀ n, i < n → n ≤ L.length → (∀ j, i < j → j ≤ n → hAt L i < hAt L j) ∨ ∃ e, e < n ∧ IsEnd L i e := by
  intro n
  induction n with
  | zero => intro h; omega
  | succ n ih =>
    intro hi hn
    by_cases hin : i < n
    · rcases ih hin (by omega) with h | ⟨e, he, hE⟩
      · have hsn : L[n]? = some L[n] := by simp [show n < L.length by omega]
        have h1 := hAt_succ hsn
        have h2 := h n hin (Nat.le_refl _)
        rcases dlt_cases L[n] with ⟨_, _, hd⟩ | ⟨_, _, hd⟩ | ⟨_, _, hd⟩
        · left; intro j hj hjn
          by_cases e : j = n + 1
          · subst e; omega
          · exact h j hj (by omega)
        · by_cases heq : hAt L (n + 1) = hAt L i
          · exact .inr ⟨n, by omega, hin, by omega, heq, h⟩
          · left; intro j hj hjn
            by_cases e : j = n + 1
            · subst e; omega
            · exact h j hj (by omega)
        · left; intro j hj hjn
          by_cases e : j = n + 1
          · subst e; omega
          · exact h j hj (by omega)
      · exact .inr ⟨e, by omega, hE⟩
    · obtain rfl : i = n := by omega
      left; intro j hj hjn
      obtain rfl : j = i + 1 := by omega
      rw [hAt_succ hs, dlt_opn ho]; omega
theorem end_exists {L : List St} (hb : IsBlk L) {i : Nat} {s : St} (hs : L[i]? = some s) (ho : opn s = true) : ∃ e, IsEnd L i e := by
  have hi := (List.getElem?_eq_some_iff.1 hs).1
  rcases end_search hs ho L.length hi (Nat.le_refl _) with h | ⟨e, _, he⟩
  · have h1 := h L.length hi (Nat.le_refl _)
    have h2 := (blk_bounds hb i).1
    rw [hb.2.1] at h1; omega
  · exact ⟨e, he⟩
theorem IsEnd.opens {L : List St} {i e : Nat} (h : IsEnd L i e) : ∃ s, L[i]? = some s ∧ opn s = true := by
  obtain ⟨s, hi⟩ := at_lt (show i < L.length by have := h.1; have := h.2.1; omega)
  refine ⟨s, hi, ?_⟩
  have h1 := hAt_succ hi
  have h2 := h.2.2.2 (i + 1) (by omega) h.1
  rcases dlt_cases s with ⟨ho, _⟩ | ⟨_, _, hd⟩ | ⟨_, _, hd⟩
  · exact ho
  · omega
  · omega

/-- What EndOf must give. -/
def EndIs (L : List St) (i : Int) (x : Int) : Prop :=
  (∃ j e : Nat, i = j ∧ IsBlk L ∧ IsEnd L j e ∧ x = e) ∨ (x = -1 ∧ ∀ j e : Nat, i = j → IsBlk L → ¬ IsEnd L j e)
theorem EndIs.unique {L : List St} {i x y : Int} (h : EndIs L i x) (h' : EndIs L i y) : x = y := by
  rcases h with ⟨j, e, hj, hb, he, rfl⟩ | ⟨rfl, h⟩ <;> rcases h' with ⟨j', e', hj', hb', he', rfl⟩ | ⟨rfl, h'⟩
  · obtain rfl : j = j' := by omega
    rw [he.unique he']
  · exact absurd he (h' j e hj hb)
  · exact absurd he' (h j' e' hj' hb')
  · rfl
/-- What DepthOf must give. -/
def DepthIs (L : List St) (i : Int) (x : Int) : Prop :=
  (∃ j : Nat, i = j ∧ j < L.length ∧ IsBlk L ∧ x = hAt L j) ∨ (x = -1 ∧ ∀ j : Nat, i = j → j < L.length → ¬ IsBlk L)
theorem DepthIs.unique {L : List St} {i x y : Int} (h : DepthIs L i x) (h' : DepthIs L i y) : x = y := by
  rcases h with ⟨j, hj, hl, hb, rfl⟩ | ⟨rfl, h⟩ <;> rcases h' with ⟨j', hj', hl', hb', rfl⟩ | ⟨rfl, h'⟩
  · obtain rfl : j = j' := by omega
    rfl
  · exact absurd hb (h' j hj hl)
  · exact absurd hb' (h j' hj' hl')
  · rfl
end Go.Proofs.YtlicadaecfgklaaGreat.blk
