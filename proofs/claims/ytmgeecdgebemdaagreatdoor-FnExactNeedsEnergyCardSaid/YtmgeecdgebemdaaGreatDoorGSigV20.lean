/- Several texts in one: VSetF. -/
import Derived.Test.YtmgeecdgebemdaaGreatDoorGSigV19
import Derived.Deep.AppendLies

/- The model's l07Pass: the sets are carried through a part of a block. -/
namespace Go.Proofs.YtmgeecdgebemdaaGreatDoor.sets
open Go Go.ChangeShapes Go.WideShapes Go.ChangeAt Go.RowKit Go.Proofs.YtmgeecdgebemdaaGreatDoor.row Go.Proofs.YtmgeecdgebemdaaGreatDoor.val Go.Proofs.YtmgeecdgebemdaaGreatDoor.stm Go.Proofs.YtmgeecdgebemdaaGreatDoor.blk Go.Proofs.YtmgeecdgebemdaaGreatDoor.expr
/-- Of what was there only the blocks 'f' and 'g' are written. -/
def Two (f g : Nat) (w w' : World) : Prop := Below 0 w w' ∧ ∀ k, k < w.heap.size → k ≠ f → k ≠ g → w'.heap[k]? = w.heap[k]?
section
variable {f g f' g' n : Nat} {w w1 w2 : World}
theorem Two.refl (f g : Nat) (w : World) : Two f g w w := ⟨Below.refl 0 w, fun _ _ _ _ => rfl⟩
theorem Two.trans (h : Two f g w w1) (h' : Two f g w1 w2) : Two f g w w2 := ⟨h.1.trans h'.1, fun k hk h1 h2 => (h'.2 k (Nat.lt_of_lt_of_le hk h.1.size) h1 h2).trans (h.2 k hk h1 h2)⟩
theorem Two.of_grown {r : Nat} (h : w.grownBy w1 (some r)) (hr : r = f ∨ r = g) : Two f g w w1 := ⟨⟨h.os, h.tape, h.output, h.size, fun k hk => by omega⟩, fun k hk h1 h2 => h.block k hk (fun e => by have := Option.some.inj e; omega)⟩
theorem Two.of_below (h : Below w.heap.size w w1) : Two f g w w1 := ⟨h.mono (Nat.zero_le _), fun k hk _ _ => h.block k hk⟩
/-- A third block that is new counts for nothing. -/
theorem Two.skip (h : Two f g w w1) (h' : Two f g' w1 w2) (hn : w.heap.size ≤ g') : Two f g w w2 := ⟨h.1.trans h'.1, fun k hk h1 h2 => (h'.2 k (Nat.lt_of_lt_of_le hk h.1.size) h1 (by omega)).trans (h.2 k hk h1 h2)⟩
theorem Two.lift {B : Nat} (h : Two f g w w1) (hB : B ≤ w.heap.size) (hf : B ≤ f) (hg : B ≤ g) : Below B w w1 := ⟨h.1.os, h.1.tape, h.1.output, h.1.size, fun k hk => h.2 k (by omega) (by omega) (by omega)⟩
theorem Bset.two {x : Nat} {F : Nat → Bool} (h : Bset x F w) (ht : Two f g w w1) (h1 : x ≠ f) (h2 : x ≠ g) : Bset x F w1 := h.same (ht.2 x h.lt h1 h2)
/-- The list's block is none of the two. -/
def Far2 (n : Nat) (a : Option Addr) (f g : Nat) : Prop := 0 < n → ∀ b off, a = some ⟨b, off, none⟩ → b ≠ f ∧ b ≠ g
theorem row_two {a : Option Addr} {B : List Sm} (h : StRow w a n B) (ht : Two f g w w1) (hfar : Far2 n a f g) : StRow w1 a n B := ⟨h.1, fun k hk => by
  obtain ⟨b, off, s, ha, hlt, hs, hr⟩ := h.2 k hk
  have h9 := ht.2 b hlt (hfar (by omega) b off ha).1 (hfar (by omega) b off ha).2
  exact ⟨b, off, s, ha, Nat.lt_of_lt_of_le hlt ht.1.size, hs, fun j v hj => (World.cell?_of_block h9).trans (hr j v hj)⟩⟩
end
theorem row_lt {w : World} {n k : Nat} {B : List Sm} {b off : Nat} (h : StRow w (some ⟨b, off, none⟩) n B) (hk : k < n) : b < w.heap.size := by
  obtain ⟨b', off', s, ha, hlt, _⟩ := h.2 k hk
  cases ha; exact hlt
theorem end_open {B : List Sm} {i p e : Nat} (h : IsEnd B i e) (h' : IsEnd B p e) : i = p := by
  rcases Nat.lt_trichotomy i p with hlt | rfl | hlt
  · have := end_in h' h hlt (by have := h'.1; omega); omega
  · rfl
  · have := end_in h h' hlt (by have := h.1; omega); omega
theorem Is.neg {f : Nat → Bool} {p : Nat → Prop} (h : Is f p) {v : Nat} (hv : v < 8) : f v = false ↔ ¬ p v := by
  rw [← h v hv]; simp
/-- The set of what has been read first, one statement on, where the statement reads. -/
theorem Is.note {F F' W : Nat → Bool} {B : List Sm} {p : Nat} {s : Sm} (hs : B[p]? = some s) (hr : rds s) (hF : Is F (FAt B p)) (hW : Is W (WAt B p)) (hF' : Is F' (fun v => F v = true ∨ ((v : Int) ∈ rd s.a s.b 8 ∧ W v = false))) : Is F' (FAt B (p + 1)) := fun v hv => by
  refine (hF' v hv).trans ?_
  rw [fAt_succ]
  refine or_congr (hF v hv) (and_congr ⟨fun h => ⟨s, hs, hr, h⟩, fun ⟨t, ht, _, h⟩ => ?_⟩ (hW.neg hv))
  rw [hs] at ht; cases ht; exact h
theorem Is.still {F : Nat → Bool} {B : List Sm} {p : Nat} (hn : ∀ v, ¬ RdAt B p v) (hF : Is F (FAt B p)) : Is F (FAt B (p + 1)) := hF.congr (fun _ => by
  rw [fAt_succ]
  exact ⟨fun h => h.resolve_right (fun h => hn _ h.1), .inl⟩)
theorem rdAt_no {B : List Sm} {p v : Nat} {s : Sm} (hs : B[p]? = some s) (hr : ¬ rds s) : ¬ RdAt B p v := fun ⟨t, ht, h, _⟩ => by
  rw [hs] at ht; cases ht; exact hr h
theorem Is.wstill {W : Nat → Bool} {B : List Sm} {p : Nat} {s : Sm} (hs : B[p]? = some s) (hw : ¬ wr s) (hp : ∀ i t, B[i]? = some t → t.k = 4 → ¬ IsEnd B i p) (hW : Is W (WAt B p)) : Is W (WAt B (p + 1)) := hW.congr (fun _ => by
  rw [wAt_succ hp]
  exact ⟨fun h => h.resolve_right (wrAt_no hs hw), .inl⟩)
theorem Is.wput {W : Nat → Bool} {B : List Sm} {p u : Nat} {s : Sm} (hs : B[p]? = some s) (hw : wr s) (hu : s.v = u) (hp : ∀ i t, B[i]? = some t → t.k = 4 → ¬ IsEnd B i p) (hW : Is W (WAt B p)) : Is (fun v => decide (v = u) || W v) (WAt B (p + 1)) :=
  hW.put (fun _ => (wAt_succ hp).trans (or_congr Iff.rfl (wrAt_iff hs hw hu)))
theorem st_expr {s : Sm} (h : stOk s = true) (hr : rds s) : exprOk s.o s.a s.b = true := by
  rcases hr with e | e | e <;> simp [stOk, e] at h
  · exact h.2.2
  · exact h.2.2
  · exact h.2.2
theorem st_kind {s : Sm} (h : stOk s = true) : s.k = 1 ∨ s.k = 2 ∨ s.k = 3 ∨ s.k = 4 ∨ s.k = 5 ∨ s.k = 6 := by
  by_cases h1 : s.k = 1
  · exact .inl h1
  by_cases h2 : s.k = 2
  · exact .inr (.inl h2)
  by_cases h3 : s.k = 3
  · exact .inr (.inr (.inl h3))
  by_cases h4 : s.k = 4
  · exact .inr (.inr (.inr (.inl h4)))
  by_cases h5 : s.k = 5
  · exact .inr (.inr (.inr (.inr (.inl h5))))
  by_cases h6 : s.k = 6
  · exact .inr (.inr (.inr (.inr (.inr h6))))
  exact absurd h (by simp [stOk, h1, h2, h3, h4, h5, h6])
theorem infoBool : (Tryz.prog.info? 4).map (fun i => (i.zero, i.size, i.bytes)) = some (some (.bool false), 1, 1) := by kernel_rfl
/-- The eight cells of a set. -/
def eight (W : Nat → Bool) : List Value := [.bool (W 0), .bool (W 1), .bool (W 2), .bool (W 3), .bool (W 4), .bool (W 5), .bool (W 6), .bool (W 7)]
theorem eight_at (W : Nat → Bool) {v : Nat} (h : v < 8) : (eight W)[v]? = some (.bool (W v)) := by
  have : v = 0 ∨ v = 1 ∨ v = 2 ∨ v = 3 ∨ v = 4 ∨ v = 5 ∨ v = 6 ∨ v = 7 := by omega
  rcases this with rfl | rfl | rfl | rfl | rfl | rfl | rfl | rfl <;> rfl
theorem Bset.news {g : Nat} {W : Nat → Bool} {w : World} (h : Bset g W w) : ∀ j u, (eight W)[j]? = some u → w.cell? ((⟨g, 0, none⟩ : Addr).add j) = some u := fun j u hu => by
  have hj : j < 8 := by have := (List.getElem?_eq_some_iff.1 hu).1; simpa [eight] using this
  rw [eight_at W hj] at hu
  cases hu
  have hadd : (⟨g, 0, none⟩ : Addr).add j = ⟨g, j, none⟩ := by unfold Addr.add; split <;> simp_all
  rw [hadd]
  exact h.cell hj
theorem Bset.of_own {base g c n : Nat} {e : TypeId} {W : Nat → Bool} {w : World} (h : w.ownsRow base e 1 (.slice (some ⟨g, 0, none⟩) n c) n (eight W)) : Bset g W w := by
  rcases h.2 with ⟨h1, _⟩ | ⟨q, cap, cur, h1, _, h3, _, _, _, h6⟩
  · cases h1
  · cases h1
    refine ⟨cur, e, h3, fun v hv => ?_⟩
    have h7 : (cur.toList.take (n * 1))[v]? = some (.bool (W v)) := by rw [h6]; exact eight_at W hv
    rw [List.getElem?_take] at h7
    split at h7
    · simpa using h7
    · cases h7
/-- What carrying the sets from 'a' to 'b' leaves. -/
def Passed (gf gw : Nat) (B : List Sm) (b : Nat) (w : World) (e : Ending) (w' : World) : Prop :=
  e = .returned (.tuple #[]) ∧ Two gf gw w w' ∧ ∃ F W : Nat → Bool, Hid (Bset gf F w' ∧ Is F (FAt B b)) ∧ Hid (Bset gw W w' ∧ Is W (WAt B b))
abbrev zero6 : Array Value := #[.int .i64 0, .int .i64 0, .int .i64 0, .int .i64 0, .int .i64 0, .int .i64 0]
set_option maxHeartbeats 8000000 in
set_option maxRecDepth 100000 in
theorem spec_pass (aB : Option Addr) (n cap : Nat) (B : List Sm) (hn : (n : Int) ≤ 1048576) (hb : IsBlk B) : ∀ (d a b : Nat), b - a = d → Seg B a b → ∀ (gf gw cf cw : Nat) (F W : Nat → Bool) (w : World), gf ≠ gw → StRow w aB n B → Far2 n aB gf gw →
    Bset gf F w → Is F (FAt B a) → Bset gw W w → Is W (WAt B a) →
    Calls Tryz.prog 209 #[.slice aB n cap, .int .i64 a, .int .i64 b, .slice (some ⟨gw, 0, none⟩) 8 cw, .slice (some ⟨gf, 0, none⟩) 8 cf] w (Passed gf gw B b w) := by
  intro d
  induction d using Nat.strongRecOn with
  | _ d ih =>
  intro a b hd hseg gf gw cf cw F W w hne hrow hfar hbF hiF hbW hiW
  obtain ⟨i0, hi, hz0, hz1, hz2⟩ := info_parts infoBool
  have IH := Lib.hid (show ∀ (a' b' : Nat), b' - a' < b - a → Seg B a' b' → ∀ (gf gw cf cw : Nat) (F W : Nat → Bool) (w : World), gf ≠ gw → StRow w aB n B → Far2 n aB gf gw → Bset gf F w → Is F (FAt B a') → Bset gw W w → Is W (WAt B a') →
    Calls Tryz.prog 209 #[.slice aB n cap, .int .i64 a', .int .i64 b', .slice (some ⟨gw, 0, none⟩) 8 cw, .slice (some ⟨gf, 0, none⟩) 8 cf] w (Passed gf gw B b' w) from fun a' b' h => ih (b' - a') (by omega) a' b' rfl)
  have HB := Lib.hid hb
  have HROW := Lib.hid hrow
  have HFAR := Lib.hid hfar
  have HSEG := Lib.hid hseg
  have H0 := Lib.hid (And.intro (And.intro hbF hiF) (And.intro hbW hiW))
  have hbn : b ≤ n := by have := hseg.2.1; rw [hrow.1] at this; exact this
  have hab : a ≤ b := hseg.1
  have hlf := hbF.lt
  have hlw := hbW.lt
  clear ih hd hseg hrow hfar hbF hiF hbW hiW hb
  go_enter Tryz.func209, Tryz.ntmps209
  go_wp2
  go_loopw [10] (fun i wr => ∃ (p : Nat) (F W : Nat → Bool), a ≤ p ∧ p ≤ b ∧ i = .int .i64 p ∧ Hid (hAt B p = hAt B a) ∧ Hid (Bset gf F wr ∧ Is F (FAt B p)) ∧ Hid (Bset gw W wr ∧ Is W (WAt B p)) ∧ Hid (Two gf gw w wr)) (fun i _ => b - (intOf i).toNat)
  case atStart => exact ⟨a, F, W, Nat.le_refl _, hab, rfl, rfl, H0.out.1, H0.out.2, Two.refl _ _ _⟩
  case round =>
    obtain ⟨p, F, W, hap, hpb, rfl, HH, HF, HW, HT⟩ := hrel
    have hls := HT.out.1.size
    by_cases hlt : p < b
    · have hI : (p : Int) < b := by omega
      have hIn : (p : Int) < n := by omega
      have hp0 : (0 : Int) ≤ (p : Int) := by omega
      obtain ⟨g, off, s, rfl, hlb, hs, hrs⟩ := (row_two HROW.out HT.out HFAR.out).2 p (by omega)
      have HS := Lib.hid (And.intro hs (And.intro hrs (blk_stOk HB.out hs)))
      have HNE := Lib.hid (HSEG.out.noEnd hap hlt HH.out)
      have h6 : s.k ≠ 6 := HSEG.out.not6 hap hlt HH.out hs
      have HX := Lib.hid (And.intro (Box.new wr zero6 112) (below_new wr (.cells zero6 112)))
      have hkind := st_kind HS.out.2.2
      clear hs hrs
      go_wp2_with (first
        | (refine wpList_load_mid rfl 112 _ rfl g (off + p * 6) rfl (stC s) _ HS.out.2.1 Tryz.underlying112 rfl (by kernel_rfl) ?_)
        | ((refine wpList_store_box rfl 112 _ _ rfl wr.heap.size _ _ HX.out.1 #[.int .i64 s.k, .int .i64 s.v, .int .i64 s.n, .int .i64 s.o, .int .i64 s.a, .int .i64 s.b] rfl rfl rfl (by kernel_rfl) (by simp [Value.oneCell']) ?_); intro w5 hx5 hg5; refine Hid.out ?_))
      have hb5 : Below wr.heap.size wr w5 := HX.out.2.grown hg5 HX.out.2.size (fun j hj => by cases hj; exact Nat.le_refl _)
      have H5 := Lib.hid (And.intro hx5 (And.intro hb5 (And.intro (HF.out.1.below hb5) (HW.out.1.below hb5))))
      have HT5 := Lib.hid (HT.out.trans (Two.of_below hb5))
      clear hx5 hg5 hb5
      have d0 : w5.cell? ⟨wr.heap.size, 0, none⟩ = some (.int .i64 s.k) := H5.out.1.cell 0
      have d1 : w5.cell? ⟨wr.heap.size, 1, none⟩ = some (.int .i64 s.v) := H5.out.1.cell 1
      have d3 : w5.cell? ⟨wr.heap.size, 3, none⟩ = some (.int .i64 s.o) := H5.out.1.cell 3
      have d4 : w5.cell? ⟨wr.heap.size, 3 + 1, none⟩ = some (.int .i64 s.a) := H5.out.1.cell 4
      have d5 : w5.cell? ⟨wr.heap.size, 3 + 2, none⟩ = some (.int .i64 s.b) := H5.out.1.cell 5
      rcases hkind with hk | hk | hk | hk | hk | hk
      · obtain ⟨u, hu, hu8⟩ := wr_var HS.out.2.2 (.inl hk)
        rw [hk] at d0
        have HH1 := Lib.hid (show hAt B (p + 1) = hAt B a by rw [hAt_succ HS.out.1, HH.out, show dlt s = 0 by simp [dlt, hk]]; simp)
        have HNOTE := Lib.hid (spec_note gf gw cf cw F W hne s.o s.a s.b (st_expr HS.out.2.2 (.inl hk)) w5 H5.out.2.2.1 H5.out.2.2.2)
        clear d1
        refine Lib.hid ?_
        go_wp2_with (go_at_call 210; refine HNOTE.out.mono ?_; rintro e9 w6 ⟨rfl, hg6, F6, hF6⟩; refine Hid.out ?_)
        have HF6 := Lib.hid (And.intro hF6.out.1 (Is.note HS.out.1 (.inl hk) HF.out.2 HW.out.2 hF6.out.2))
        have HW6 := Lib.hid (H5.out.2.2.2.grown hg6 (fun e => hne (Option.some.inj e).symm))
        have HT6 := Lib.hid (HT5.out.trans (Two.of_grown hg6 (.inl rfl)))
        have HX6 := Lib.hid (H5.out.1.grown hg6 (fun e => by have := Option.some.inj e; omega))
        clear hg6 hF6 d0 d3 d4 d5
        have e1 : w6.cell? ⟨wr.heap.size, 1, none⟩ = some (.int .i64 (u : Int)) := by rw [← hu]; exact HX6.out.cell 1
        have b1 : w6.cell? ⟨gw, u, none⟩ = some (.bool (W u)) := HW6.out.cell hu8
        have f1 : w6.frozen? ⟨gw, u, none⟩ = false := HW6.out.frozen u
        have hu0 : (0 : Int) ≤ (u : Int) := by omega
        have hu9 : (u : Int) < 8 := by omega
        have hgs := grown_setCell w6 gw u (.bool true)
        have HN := Lib.hid (And.intro (HW6.out.put hu8) (Is.wput HS.out.1 (.inl hk) hu HNE.out HW.out.2))
        have HF7 := Lib.hid (And.intro (HF6.out.1.grown hgs (fun e => hne (Option.some.inj e))) HF6.out.2)
        have HT7 := Lib.hid (HT6.out.trans (Two.of_grown hgs (.inr rfl)))
        clear hu hgs
        refine Lib.hid ?_
        go_wp2
        go_roundw
        case rel => exact ⟨p + 1, F6, _, by omega, by omega, by go_num, HH1, HF7, HN, HT7⟩
        case measure => simp [intOf]; omega
      · obtain ⟨u, hu, hu8⟩ := wr_var HS.out.2.2 (.inr hk)
        rw [hk] at d0
        rw [hu] at d1
        have HH1 := Lib.hid (show hAt B (p + 1) = hAt B a by rw [hAt_succ HS.out.1, HH.out, show dlt s = 0 by simp [dlt, hk]]; simp)
        have HF5 := Lib.hid (And.intro H5.out.2.2.1 (Is.still (fun v => rdAt_no HS.out.1 (fun h => by rcases h with h | h | h <;> omega)) HF.out.2))
        have b1 : w5.cell? ⟨gw, u, none⟩ = some (.bool (W u)) := H5.out.2.2.2.cell hu8
        have f1 : w5.frozen? ⟨gw, u, none⟩ = false := H5.out.2.2.2.frozen u
        have hu0 : (0 : Int) ≤ (u : Int) := by omega
        have hu9 : (u : Int) < 8 := by omega
        have hgs := grown_setCell w5 gw u (.bool true)
        have HN := Lib.hid (And.intro (H5.out.2.2.2.put hu8) (Is.wput HS.out.1 (.inr hk) hu HNE.out HW.out.2))
        have HF7 := Lib.hid (And.intro (HF5.out.1.grown hgs (fun e => hne (Option.some.inj e))) HF5.out.2)
        have HT7 := Lib.hid (HT5.out.trans (Two.of_grown hgs (.inr rfl)))
        clear hu hgs
        refine Lib.hid ?_
        go_wp2
        go_roundw
        case rel => exact ⟨p + 1, F, _, by omega, by omega, by go_num, HH1, HF7, HN, HT7⟩
        case measure => simp [intOf]; omega
      · rw [hk] at d0
        have HH1 := Lib.hid (show hAt B (p + 1) = hAt B a by rw [hAt_succ HS.out.1, HH.out, show dlt s = 0 by simp [dlt, hk]]; simp)
        have HNOTE := Lib.hid (spec_note gf gw cf cw F W hne s.o s.a s.b (st_expr HS.out.2.2 (.inr (.inl hk))) w5 H5.out.2.2.1 H5.out.2.2.2)
        clear d1
        refine Lib.hid ?_
        go_wp2_with (go_at_call 210; refine HNOTE.out.mono ?_; rintro e9 w6 ⟨rfl, hg6, F6, hF6⟩; refine Hid.out ?_)
        have HF6 := Lib.hid (And.intro hF6.out.1 (Is.note HS.out.1 (.inr (.inl hk)) HF.out.2 HW.out.2 hF6.out.2))
        have HW6 := Lib.hid (H5.out.2.2.2.grown hg6 (fun e => hne (Option.some.inj e).symm))
        have HT6 := Lib.hid (HT5.out.trans (Two.of_grown hg6 (.inl rfl)))
        have HX6 := Lib.hid (H5.out.1.grown hg6 (fun e => by have := Option.some.inj e; omega))
        clear hg6 hF6 d0 d3 d4 d5
        have HW7 := Lib.hid (And.intro HW6.out (Is.wstill HS.out.1 (fun h => by rcases h with h | h <;> omega) HNE.out HW.out.2))
        refine Lib.hid ?_
        go_wp2
        go_roundw
        case rel => exact ⟨p + 1, F6, W, by omega, by omega, by go_num, HH1, HF6, HW7, HT6⟩
        case measure => simp [intOf]; omega
      · rw [hk] at d0
        obtain ⟨e, he⟩ := end_exists HB.out HS.out.1 (show opn s = true by unfold opn; simp [hk])
        have hin := HSEG.out.inner hlt HH.out he
        have heb := hin.1
        have hpe := he.1
        have HIN := Lib.hid hin
        have HEN := Lib.hid he
        have hlen : e - (p + 1) < b - a := by omega
        clear hin he
        have HNOTE := Lib.hid (spec_note gf gw cf cw F W hne s.o s.a s.b (st_expr HS.out.2.2 (.inr (.inr hk))) w5 H5.out.2.2.1 H5.out.2.2.2)
        clear d1
        refine Lib.hid ?_
        go_wp2_with (go_at_call 210; refine HNOTE.out.mono ?_; rintro e9 w6 ⟨rfl, hg6, F6, hF6⟩; refine Hid.out ?_)
        have HF6 := Lib.hid (And.intro hF6.out.1 (Is.note HS.out.1 (.inr (.inr hk)) HF.out.2 HW.out.2 hF6.out.2))
        have HW6 := Lib.hid (H5.out.2.2.2.grown hg6 (fun e => hne (Option.some.inj e).symm))
        have HT6 := Lib.hid (HT5.out.trans (Two.of_grown hg6 (.inl rfl)))
        have HX6 := Lib.hid (H5.out.1.grown hg6 (fun e => by have := Option.some.inj e; omega))
        clear hg6 hF6 d0 d3 d4 d5
        have HW7 := Lib.hid (And.intro HW6.out (Is.wstill HS.out.1 (fun h => by rcases h with h | h <;> omega) HNE.out HW.out.2))
        have HR6 := Lib.hid (row_two HROW.out HT6.out HFAR.out)
        refine Lib.hid ?_
        go_wp2_with (go_at_call 178; refine (spec_end _ n cap B _ HR6.out HB.out p e HEN.out e rfl).mono ?_; rintro e9 w7 ⟨rfl, hb7⟩; refine Hid.out ?_)
        have H7 := Lib.hid (And.intro (HF6.out.1.below hb7) (And.intro (HW7.out.1.below hb7) (And.intro (HT6.out.trans (Two.of_below hb7)) (HR6.out.below hb7))))
        have HWA := Lib.hid (H7.out.2.1.below (below_new w7 (.cells #[] 4)))
        have hs7 := H7.out.2.2.1.1.size
        clear hb7
        refine Lib.hid ?_
        go_wp2_with (at_builtin; refine wpList_append_lies _ rfl _ _ 224 rfl w7.heap.size 4 i0 (.bool false) 1 1 Tryz.underlying224 hi hz0 hz1 hz2 rfl (by decide) (.slice (some ⟨w7.heap.size, 0, none⟩) 0 0) 0 [] rfl (World.ownsRow_made w7 #[] 0 (Nat.le_refl _) (by decide) rfl) ⟨gw, 0, none⟩ 8 cw (eight W) rfl rfl HWA.out.news (by simp [eight, Value.oneCell']) (by omega) (by unfold maxLen; omega) (by omega) (by simp) _ rfl ?_; intro gc cap' w8 hown8 hgrow8 hat8 hlt8; refine Hid.out ?_)
        have hgc : w7.heap.size ≤ gc := (hown8.lt gc rfl).1
        have hb8 : Below w7.heap.size w7 w8 := (below_new w7 (.cells #[] 4)).grown hgrow8 (by simp) (fun j hj => by cases hj; exact Nat.le_refl _)
        have H8 := Lib.hid (And.intro (Bset.of_own (W := W) hown8) (And.intro (H7.out.1.below hb8) (And.intro (H7.out.2.1.below hb8) (And.intro (H7.out.2.2.1.trans (Two.of_below hb8)) (H7.out.2.2.2.below hb8)))))
        have HFR := Lib.hid (show Far2 n (some ⟨g, off, none⟩) gf gc from fun hn0 q o hq => ⟨(HFAR.out hn0 q o hq).1, by cases hq; have h3 := (row_lt HROW.out (show p < n by omega)); omega⟩)
        have HPASS := Lib.hid (show Calls Tryz.prog 209 #[.slice (some ⟨g, off, none⟩) n cap, .int .i64 ((p : Int) + 1), .int .i64 e, .slice (some ⟨gc, 0, none⟩) 8 cap', .slice (some ⟨gf, 0, none⟩) 8 cf] w8 (Passed gf gc B e w8) from by
          have h9 := IH.out (p + 1) e hlen HIN.out.2.1 gf gc cf cap' F6 W w8 (by omega) H8.out.2.2.2.2 HFR.out H8.out.2.1 HF6.out.2 H8.out.1 HW7.out.2
          push_cast at h9
          exact h9)
        clear hown8 hgrow8 hat8 hlt8 hb8
        refine Lib.hid ?_
        go_wp2_with (go_at_call 209; refine HPASS.out.mono ?_; rintro e9 w9 ⟨rfl, hT9, F9, W9, hF9, _⟩; refine Hid.out ?_)
        have HF9 := Lib.hid (And.intro hF9.out.1 (Is.still (fun v => (end_nothing HEN.out).2) hF9.out.2))
        have HW9 := Lib.hid (And.intro (H8.out.2.2.1.two hT9 (fun h => hne h.symm) (by omega)) (show Is W (WAt B (e + 1)) from HW.out.2.congr (fun u => wAt_if HS.out.1 hk HEN.out)))
        have HT9 := Lib.hid (H8.out.2.2.2.1.skip hT9 (by omega))
        have HH9 := Lib.hid HIN.out.2.2
        clear hT9 hF9
        refine Lib.hid ?_
        go_wp2
        go_roundw
        case rel => exact ⟨e + 1, F9, W, by omega, by omega, by go_num, HH9, HF9, HW9, HT9⟩
        case measure => simp [intOf]; omega
      · rw [hk] at d0
        obtain ⟨e, he⟩ := end_exists HB.out HS.out.1 (show opn s = true by unfold opn; simp [hk])
        have hin := HSEG.out.inner hlt HH.out he
        have heb := hin.1
        have hpe := he.1
        have HIN := Lib.hid hin
        have HEN := Lib.hid he
        have hlen : e - (p + 1) < b - a := by omega
        have HF5 := Lib.hid (Is.still (fun v => rdAt_no HS.out.1 (fun h => by rcases h with h | h | h <;> omega)) HF.out.2)
        have HW5 := Lib.hid (Is.wstill HS.out.1 (fun h => by rcases h with h | h <;> omega) HNE.out HW.out.2)
        have HR5 := Lib.hid (row_two HROW.out HT5.out HFAR.out)
        clear hin he d1 d3 d4 d5
        refine Lib.hid ?_
        go_wp2_with (go_at_call 178; refine (spec_end _ n cap B _ HR5.out HB.out p e HEN.out e rfl).mono ?_; rintro e9 w7 ⟨rfl, hb7⟩; refine Hid.out ?_)
        have H7 := Lib.hid (And.intro (H5.out.2.2.1.below hb7) (And.intro (H5.out.2.2.2.below hb7) (And.intro (HT5.out.trans (Two.of_below hb7)) (HR5.out.below hb7))))
        have HPASS := Lib.hid (show Calls Tryz.prog 209 #[.slice (some ⟨g, off, none⟩) n cap, .int .i64 ((p : Int) + 1), .int .i64 e, .slice (some ⟨gw, 0, none⟩) 8 cw, .slice (some ⟨gf, 0, none⟩) 8 cf] w7 (Passed gf gw B e w7) from by
          have h9 := IH.out (p + 1) e hlen HIN.out.2.1 gf gw cf cw F W w7 hne H7.out.2.2.2 HFAR.out H7.out.1 HF5.out H7.out.2.1 HW5.out
          push_cast at h9
          exact h9)
        clear hb7 d0
        refine Lib.hid ?_
        go_wp2_with (go_at_call 209; refine HPASS.out.mono ?_; rintro e9 w9 ⟨rfl, hT9, F9, W9, hF9, hW9⟩; refine Hid.out ?_)
        have HF9 := Lib.hid (And.intro hF9.out.1 (Is.still (fun v => (end_nothing HEN.out).2) hF9.out.2))
        have HW9 := Lib.hid (And.intro hW9.out.1 (show Is W9 (WAt B (e + 1)) from hW9.out.2.congr (fun u => by
          rw [wAt_succ (fun i t ht h4 hE => by
            obtain rfl := end_open hE HEN.out
            rw [HS.out.1] at ht; cases ht; omega)]
          exact ⟨fun h => h.resolve_right (end_nothing HEN.out).1, .inl⟩)))
        have HT9 := Lib.hid (H7.out.2.2.1.trans hT9)
        have HH9 := Lib.hid HIN.out.2.2
        clear hT9 hF9 hW9
        refine Lib.hid ?_
        go_wp2
        go_roundw
        case rel => exact ⟨e + 1, F9, W9, by omega, by omega, by go_num, HH9, HF9, HW9, HT9⟩
        case measure => simp [intOf]; omega
      · exact absurd hk h6
    · obtain rfl : p = b := by omega
      have hI : ¬ (p : Int) < p := by omega
      go_wp2
      exact bodyPost_ret (results_none rfl _ _ _) rfl ⟨rfl, HT.out, F, W, HF, HW⟩
end Go.Proofs.YtmgeecdgebemdaaGreatDoor.sets
