/- Several texts in one: ReadC ObsA Rss. -/
import Derived.Test.YtmgeecdgebemdaaGreatDoorGSig1
import Derived.Test.YtmgeecdgebemdaaGreatDoorGSig2
import Derived.Deep.AppendLies
import Derived.WalkSpells
import Derived.Test.YtmgeecdgebemdaaGreatDoorGSig3
import Derived.Test.YtmgeecdgebemdaaGreatDoorGSig7
import Derived.Test.YtmgeecdgebemdaaGreatDoorGSig0
import Derived.Test.YtmgeecdgebemdaaGreatDoorGSig4
import Derived.Laws.AppendOwn

/- Chapter 3's ReadsOf of the model: the numbers of the variables that a valid expression names, in ascending order, in new memory; nothing that was there is written. -/
namespace Go.Proofs.YtmgeecdgebemdaaGreatDoor.expr
open Go.ChangeShapes Go.WideShapes Go.ChangeAt Go.RowKit Go.Proofs.YtmgeecdgebemdaaGreatDoor.row Go.Proofs.YtmgeecdgebemdaaGreatDoor.val

def readsV (o a b : Int) : List Int := if exprOk o a b then rd a b 8 else []
/-- A new row of these numbers. -/
def NewInts (w : World) (L : List Int) (e : Ending) (w' : World) : Prop :=
  ∃ ad n cap, e = .returned (.slice ad n cap) ∧ w'.ownsRow w.heap.size 3 1 (.slice ad n cap) n (ivs L) ∧ Below w.heap.size w w'

set_option maxHeartbeats 1000000 in
set_option maxRecDepth 100000 in
theorem spec_reads_no (w : World) (o a b : Int) (he : exprOk o a b = false) :
    Calls Tryz.prog 237 #[ev o a b] w (NewInts w []) := by
  have hx := Box.new w #[.int .i64 o, .int .i64 a, .int .i64 b] 94
  have hn := below_new w (.cells #[.int .i64 o, .int .i64 a, .int .i64 b] 94)
  have H0 := Lib.hid (And.intro hx hn)
  clear hx hn
  have HE := Lib.hid he
  clear he
  go_enter Tryz.func237, Tryz.ntmps237
  go_wp2
  go_loopw [3, 4] (fun v i wr => v = .slice (some ⟨w.heap.size + 1, 0, none⟩) 0 0 ∧ i = .int .i64 0 ∧ wr.ownsRow w.heap.size 3 1 (.slice (some ⟨w.heap.size + 1, 0, none⟩) 0 0) 0 (ivs []) ∧ Box w.heap.size #[.int .i64 o, .int .i64 a, .int .i64 b] 94 wr ∧ Below w.heap.size w wr) (fun _ _ _ => 0)
  case atStart =>
    have hs : (w.alloc (.cells #[.int .i64 o, .int .i64 a, .int .i64 b] 94)).heap.size = w.heap.size + 1 := by simp
    refine ⟨by simp, rfl, ?_, H0.out.1.alloc _, below_then H0.out.2 (below_new _ _)⟩
    have := World.ownsRow_made (base := w.heap.size) (e := 3) (size := 1) (w.alloc (.cells #[.int .i64 o, .int .i64 a, .int .i64 b] 94)) #[] 0 (by simp) (by decide) rfl
    rw [hs] at this
    exact this
  case round =>
    obtain ⟨rfl, rfl, hown, hbox, hbel⟩ := hrel
    have c0 := hbox.cell 0
    have c1 := hbox.cell 1
    have c2 := hbox.cell 2
    have H1 := Lib.hid (And.intro hown hbel)
    clear hown hbel hbox
    go_wp2_with (go_at_call 151; refine (spec_exprok _ _ _ _ HE.out _).mono ?_; rintro e w2 ⟨rfl, hb2⟩)
    go_ret
    exact ⟨_, _, _, rfl, H1.out.1.kept (grown_below hb2 none) (by simp [Value.ownBlock]), below_then H1.out.2 hb2⟩
set_option maxHeartbeats 2000000 in
set_option maxRecDepth 100000 in
theorem spec_reads_ok (w : World) (o a b : Int) (he : exprOk o a b = true) :
    Calls Tryz.prog 237 #[ev o a b] w (NewInts w (rd a b 8)) := by
  obtain ⟨i0, hi, hz0, hz1, hz2⟩ := info_parts infoInt
  have hx := Box.new w #[.int .i64 o, .int .i64 a, .int .i64 b] 94
  have hn := below_new w (.cells #[.int .i64 o, .int .i64 a, .int .i64 b] 94)
  have H0 := Lib.hid (And.intro hx hn)
  clear hx hn
  have HE := Lib.hid he
  clear he
  go_enter Tryz.func237, Tryz.ntmps237
  go_wp2
  go_loopw [3, 4] (fun v i wr => ∃ (k n cap : Nat) (ad : Option Addr), k ≤ 8 ∧ i = .int .i64 k ∧ v = .slice ad n cap ∧ n ≤ k ∧ wr.ownsRow (w.heap.size + 1) 3 1 (.slice ad n cap) n (ivs (rd a b k)) ∧ Box w.heap.size #[.int .i64 o, .int .i64 a, .int .i64 b] 94 wr ∧ Below w.heap.size w wr) (fun _ i _ => 8 - (intOf i).toNat)
  case atStart =>
    have hs : (w.alloc (.cells #[.int .i64 o, .int .i64 a, .int .i64 b] 94)).heap.size = w.heap.size + 1 := by simp
    refine ⟨0, 0, 0, some ⟨w.heap.size + 1, 0, none⟩, Nat.zero_le _, rfl, by simp, Nat.le_refl _, ?_, H0.out.1.alloc _, below_then H0.out.2 (below_new _ _)⟩
    have := World.ownsRow_made (base := w.heap.size + 1) (e := 3) (size := 1) (w.alloc (.cells #[.int .i64 o, .int .i64 a, .int .i64 b] 94)) #[] 0 (by simp) (by decide) rfl
    rw [hs] at this
    exact this
  case round =>
    obtain ⟨k, n, cap, ad, hk, rfl, rfl, hnk, hown, hbox, hbel⟩ := hrel
    have c0 := hbox.cell 0
    have c1 := hbox.cell 1
    have c2 := hbox.cell 2
    by_cases hlt : k < 8
    · have hI : (k : Int) < 8 := by omega
      have H1 := Lib.hid (And.intro hown (And.intro hbox hbel))
      clear hown hbel hbox
      go_wp2_with (go_at_call 151; refine (spec_exprok _ _ _ _ HE.out _).mono ?_; rintro e w2 ⟨rfl, hb2⟩; refine Hid.out ?_)
      have hown2 := H1.out.1.kept (grown_below hb2 none) (by cases ad <;> simp [Value.ownBlock])
      have hbox2 := H1.out.2.1.below hb2
      have hbel2 := below_then H1.out.2.2 hb2
      clear c0 c1 c2 hb2 H1
      have c0 := hbox2.cell 0
      have c1 := hbox2.cell 1
      have c2 := hbox2.cell 2
      have hsz := hbox2.lt
      by_cases hyes : a = -1 - (k : Int) ∨ b = -1 - (k : Int)
      · have HRD := Lib.hid (rd_yes hyes)
        have HN : Hid (∀ j, (Value.slice ad n cap).ownBlock = some j → w.heap.size + 1 ≤ j) := fun j hj => (hown2.lt j hj).1
        have H2 := Lib.hid (And.intro hbox2 hbel2)
        have HO2 := Lib.hid hown2
        rcases (show (a == -1 - (k : Int)) = true ∨ ((a == -1 - (k : Int)) = false ∧ (b == -1 - (k : Int)) = true) by by_cases h : a = -1 - (k : Int); exact Or.inl (by simp [h]); exact Or.inr ⟨by simp [h], by rcases hyes with h' | h'; exact absurd h' h; simp [h']⟩) with t1 | ⟨t1, t2⟩
        all_goals
          clear hyes hown2 hbox2 hbel2
          refine Lib.hid ?_
          go_wp2_with (at_builtin; refine wpList_append_own _ rfl _ _ 27 rfl (w.heap.size + 1) 3 i0 (.int .i64 0) 1 8 Tryz.underlying27 hi hz0 hz1 hz2 rfl (by decide) _ _ _ rfl (HO2.out.alloc _) ⟨w2.heap.size, 0, none⟩ 1 1 [.int .i64 k] rfl rfl (World.news_of_block (cs := #[.int .i64 k]) (t := 3) (fr := (0, 0)) (heap_alloc_new w2 _)) (by simp [Value.oneCell']) (by unfold maxLen; omega) (by omega) (by simp; omega) ?_; intro v3 w3 hown3 hgrow3 _; refine Hid.out ?_)
          rw [ivs_snoc, ← HRD.out] at hown3
          have hbox3 := (H2.out.1.alloc (.cells #[.int .i64 k] 3)).grown hgrow3 (fun e => by have := HN.out _ e.symm; omega)
          have hbel3 := (below_then H2.out.2 (below_new w2 (.cells #[.int .i64 k] 3))).grown hgrow3 (by have := H2.out.2.size; simp; omega) (fun j hj => by have := HN.out j hj; omega)
          have HR := Lib.hid (And.intro hown3 (And.intro hbox3 hbel3))
          have hform := hown3.form (by omega)
          obtain ⟨g3, cap3, rfl, _, _⟩ := hform
          clear hown3 hbox3 hbel3 hgrow3 c0 c1 c2
          refine Lib.hid ?_
          go_wp2
          go_roundw
          case rel => exact ⟨k + 1, n + 1, cap3, _, by omega, by go_num, rfl, by omega, HR.out.1, HR.out.2.1, HR.out.2.2⟩
          case measure => simp [intOf]; omega
      · have HRD := Lib.hid (rd_no hyes)
        have t1 : (a == -1 - (k : Int)) = false := by simp; omega
        have t2 : (b == -1 - (k : Int)) = false := by simp; omega
        rw [← HRD.out] at hown2
        have HR := Lib.hid (And.intro hown2 (And.intro hbox2 hbel2))
        clear hyes hown2 hbox2 hbel2
        refine Lib.hid ?_
        go_wp2
        go_roundw
        case rel => exact ⟨k + 1, n, cap, ad, by omega, by go_num, rfl, by omega, HR.out.1, HR.out.2.1, HR.out.2.2⟩
        case measure => simp [intOf]; omega
    · have hk8 : k = 8 := by omega
      subst hk8
      have HR := Lib.hid (And.intro hown hbel)
      clear hown hbox hbel
      go_wp2
      go_ret
      exact ⟨_, _, _, rfl, HR.out.1.mono (by omega), HR.out.2⟩
theorem spec_reads (w : World) (o a b : Int) : Calls Tryz.prog 237 #[ev o a b] w (NewInts w (readsV o a b)) := by
  cases he : exprOk o a b
  · simpa [readsV, he] using spec_reads_no w o a b he
  · simpa [readsV, he] using spec_reads_ok w o a b he
end Go.Proofs.YtmgeecdgebemdaaGreatDoor.expr

/- Executions that tell an observer each statement ahead of its effect, with the value that it assigns or sends. Plain mathematics. -/
namespace Go.Proofs.YtmgeecdgebemdaaGreatDoor.exe
open Go Go.ChangeShapes Go.WideShapes Go.ChangeAt Go.RowKit Go.Proofs.YtmgeecdgebemdaaGreatDoor.row Go.Proofs.YtmgeecdgebemdaaGreatDoor.val Go.Proofs.YtmgeecdgebemdaaGreatDoor.expr Go.Proofs.YtmgeecdgebemdaaGreatDoor.stm Go.Proofs.YtmgeecdgebemdaaGreatDoor.blk Go.Proofs.YtmgeecdgebemdaaGreatDoor.sets

theorem part_par {L : List Sm} {c m a b : Nat} {T : Fst} (h : c + m ≤ L.length) (hr : Par (blk.part L c m) a b T) : b ≤ m → Par L (c + a) (c + b) T := by
  induction hr with
  | nil a => intro _; exact .nil _
  | one a b T s hs ho h6 hr ih =>
    intro hb
    have hl := hr.le
    refine .one _ _ _ s (by rw [← part_at (show a < m by omega)]; exact hs) ho h6 ?_
    have := ih hb
    rw [show c + (a + 1) = c + a + 1 by omega] at this; exact this
  | nest a e b B T s hs he hbb hr ih1 ih2 =>
    intro hb
    have hl := hr.le
    have hae := he.1
    have h1 := ih1 (by omega)
    have h2 := ih2 hb
    rw [show c + (a + 1) = c + a + 1 by omega] at h1
    rw [show c + (e + 1) = c + e + 1 by omega] at h2
    exact .nest _ (c + e) _ _ _ s (by rw [← part_at (show a < m by omega)]; exact hs) (part_end h he) h1 h2
theorem par_flat {L : List Sm} {s : Sm} {T : Fst} (hl : 1 ≤ L.length) (hs : L[0]? = some s) (ho : opn s = false) (h6 : s.k ≠ 6) (h : Par (blk.part L 1 (L.length - 1)) 0 (blk.part L 1 (L.length - 1)).length T) : Par L 0 L.length (.one s T) := by
  have hp : 1 + (L.length - 1) ≤ L.length := by omega
  rw [part_len hp] at h
  have h1 := part_par hp h (Nat.le_refl _)
  rw [Nat.add_zero, show 1 + (L.length - 1) = L.length by omega] at h1
  exact .one 0 _ T s hs ho h6 h1
theorem par_nest {L : List Sm} {s : Sm} {e : Nat} {B T : Fst} (hs : L[0]? = some s) (he : IsEnd L 0 e) (hx : Par (blk.part L 1 (e - 1)) 0 (blk.part L 1 (e - 1)).length B) (h : Par (blk.part L (e + 1) (L.length - (e + 1))) 0 (blk.part L (e + 1) (L.length - (e + 1))).length T) :
    Par L 0 L.length (.nest s B T) := by
  have h0 := he.1
  have h1 := he.2.1
  have hp : 1 + (e - 1) ≤ L.length := by omega
  have hq : (e + 1) + (L.length - (e + 1)) ≤ L.length := by omega
  rw [part_len hp] at hx
  rw [part_len hq] at h
  have k1 := part_par hp hx (Nat.le_refl _)
  have k2 := part_par hq h (Nat.le_refl _)
  rw [Nat.add_zero, show 1 + (e - 1) = e by omega] at k1
  rw [Nat.add_zero, show (e + 1) + (L.length - (e + 1)) = L.length by omega] at k2
  exact .nest 0 e _ B T s hs he k1 k2
/-- The value that a statement assigns or sends. -/
def valS (src : Int → Nat → Int) (s : Sm) (x : Sx) : Int := if s.k = 1 ∨ s.k = 3 then evalV x.V s.o s.a s.b else if s.k = 2 then src s.n x.U.length else 0
theorem valS_eval {src : Int → Nat → Int} {s : Sm} {x : Sx} (h : s.k = 1 ∨ s.k = 3) : valS src s x = evalV x.V s.o s.a s.b := by unfold valS; rw [if_pos h]
theorem valS_src {src : Int → Nat → Int} {s : Sm} {x : Sx} (h : s.k = 2) : valS src s x = src s.n x.U.length := by unfold valS; rw [if_neg (by omega), if_pos h]
theorem valS_no {src : Int → Nat → Int} {s : Sm} {x : Sx} (h : s.k = 4 ∨ s.k = 5) : valS src s x = 0 := by unfold valS; rw [if_neg (by omega), if_neg (by omega)]
theorem valS_val {src : Int → Nat → Int} (hsrc : ∀ q n, isVal (src q n) = true) (s : Sm) (x : Sx) : isVal (valS src s x) = true := by
  unfold valS
  split
  · exact evalV_val _ _ _ _
  split
  · exact hsrc _ _
  · decide
/-- What an observer makes of what it is told; a measure of it. -/
structure Obm where
  (τ : Type) (nxt : τ → Sx → Sm → Int → τ) (len : τ → Int)
  (grow : ∀ t x s v, len (nxt t x s v) ≤ len t + 5)
  (pos : ∀ t, 0 ≤ len t)
abbrev Obm.Z (o : Obm) : Type := Sx × o.τ
section
variable (src : Int → Nat → Int) (o : Obm)
def stepZ (s : Sm) (z : o.Z) : o.Z := (step1 src s z.1, o.nxt z.2 z.1 s (valS src s z.1))
def tellZ (s : Sm) (z : o.Z) : o.Z := (z.1, o.nxt z.2 z.1 s (valS src s z.1))
def repZ (f : o.Z → o.Z) : Nat → o.Z → o.Z
  | 0, z => z
  | n + 1, z => repZ f n (f z)
def execZ : Fst → o.Z → o.Z
  | .nil, z => z
  | .one s r, z => execZ r (stepZ src o s z)
  | .nest s b r, z => execZ r (repZ o (execZ b) (its s z.1) (tellZ src o s z))
end
section
variable {src : Int → Nat → Int} {o : Obm}
theorem repZ_zero (f : o.Z → o.Z) (z : o.Z) : repZ o f 0 z = z := rfl
theorem repZ_succ (f : o.Z → o.Z) (n : Nat) (z : o.Z) : repZ o f (n + 1) z = repZ o f n (f z) := rfl
theorem repZ_last (f : o.Z → o.Z) : ∀ (n : Nat) (z : o.Z), repZ o f (n + 1) z = f (repZ o f n z)
  | 0, _ => rfl
  | n + 1, z => by rw [repZ_succ, repZ_last f n (f z), repZ_succ]
theorem repZ_ind {f : o.Z → o.Z} {P : o.Z → Prop} (h : ∀ z, P z → P (f z)) : ∀ (n : Nat) (z : o.Z), P z → P (repZ o f n z)
  | 0, _, hz => hz
  | n + 1, z, hz => repZ_ind h n (f z) (h z hz)
theorem repZ_fst {b : Fst} (h : ∀ z, (execZ src o b z).1 = exec src b z.1) : ∀ (n : Nat) (z : o.Z), (repZ o (execZ src o b) n z).1 = rep (exec src b) n z.1
  | 0, _ => rfl
  | n + 1, z => by rw [repZ_succ, repZ_fst h n, h, rep_succ]
/-- An observer changes nothing of what is executed. -/
theorem execZ_fst : ∀ (T : Fst) (z : o.Z), (execZ src o T z).1 = exec src T z.1
  | .nil, _ => rfl
  | .one s r, z => by simp only [execZ, exec]; rw [execZ_fst r]; rfl
  | .nest s b r, z => by simp only [execZ, exec]; rw [execZ_fst r, repZ_fst (fun y => execZ_fst b y)]; rfl
/-- How much is sent, sensed and told at most. -/
def cntZ : Fst → Int
  | .nil => 0
  | .one _ r => 6 + cntZ r
  | .nest s b r => 6 + max 1 s.n * cntZ b + cntZ r
theorem cntZ_nonneg : ∀ T : Fst, 0 ≤ cntZ T
  | .nil => by simp [cntZ]
  | .one _ r => by have := cntZ_nonneg r; simp only [cntZ]; omega
  | .nest s b r => by
    have h1 := cntZ_nonneg b
    have h2 := cntZ_nonneg r
    have h3 : 0 ≤ max 1 s.n * cntZ b := Int.mul_nonneg (by omega) h1
    simp only [cntZ]; omega
theorem cntZ_bound {L : List Sm} (hb : IsBlk L) {a b : Nat} {T : Fst} (h : Par L a b T) : ∀ H : Int, hAt L a = H → cntZ T ≤ (b - a : Int) * (6 * p5 H) := by
  induction h with
  | nil a => intro H _; simp [cntZ]
  | one a b T s hs ho h6 hr ih =>
    intro H hH
    have h1 := hAt_succ hs
    rw [dlt_flat ho h6] at h1
    have h2 := ih H (by omega)
    have : (1 : Int) ≤ p5 H := by unfold p5; split <;> (try split) <;> (try split) <;> omega
    have e : ((b : Int) - a) * (6 * p5 H) = ((b : Int) - ((a + 1 : Nat) : Int)) * (6 * p5 H) + 6 * p5 H := by
      rw [show (b : Int) - a = ((b : Int) - ((a + 1 : Nat) : Int)) + 1 by omega, Int.add_mul, Int.one_mul]
    rw [e]; simp only [cntZ]; omega
  | nest a e b B T s hs he hbb hr ih1 ih2 =>
    intro H hH
    obtain ⟨s2, hs2, ho2⟩ := he.opens
    have h1 := hAt_succ hs2
    rw [dlt_opn ho2] at h1
    have h2 := (blk_bounds hb (a + 1)).2
    have h3 := (blk_bounds hb a).1
    have hx := ih1 (H + 1) (by omega)
    have hx0 := cntZ_nonneg B
    have hy := ih2 H (by rw [he.2.2.1, hH])
    have hn := n_le (blk_stOk hb hs)
    have hae := he.1
    have hle := hr.le
    obtain ⟨m, hm⟩ : ∃ m, max 1 s.n = m := ⟨_, rfl⟩
    have hm1 : 1 ≤ m ∧ m ≤ 5 := by omega
    simp only [cntZ]
    rw [hm]
    have hmx5 : m * cntZ B ≤ 5 * cntZ B := Int.mul_le_mul_of_nonneg_right hm1.2 hx0
    rcases (show H = 0 ∨ H = 1 ∨ H = 2 by omega) with rfl | rfl | rfl
    · simp only [p5] at hx hy ⊢; simp at hx hy ⊢; omega
    · simp only [p5] at hx hy ⊢; simp at hx hy ⊢; omega
    · simp only [p5] at hx hy ⊢; simp at hx hy ⊢; omega
theorem cntZ_small {L : List Sm} (hb : IsBlk L) {T : Fst} (h : Par L 0 L.length T) : cntZ T ≤ 18000 := by
  have h1 := cntZ_bound hb h (hAt L 0) rfl
  have h2 : p5 (hAt L 0) ≤ 125 ∧ 0 ≤ p5 (hAt L 0) := by unfold p5; split <;> (try split) <;> (try split) <;> omega
  have h4 := hb.2.2
  have h5 : ((L.length : Int) - (0 : Nat)) * (6 * p5 (hAt L 0)) ≤ ((L.length : Int) - (0 : Nat)) * 750 := Int.mul_le_mul_of_nonneg_left (by omega) (by omega)
  omega
def totZ (z : o.Z) : Int := tot z.1 + o.len z.2
theorem totZ_step (s : Sm) (z : o.Z) : totZ (stepZ src o s z) ≤ totZ z + 6 := by
  have h1 := tot_step src s z.1
  have h2 := o.grow z.2 z.1 s (valS src s z.1)
  unfold totZ stepZ; dsimp only; omega
theorem totZ_tell (s : Sm) (z : o.Z) : totZ (tellZ src o s z) ≤ totZ z + 6 := by
  have h2 := o.grow z.2 z.1 s (valS src s z.1)
  unfold totZ tellZ; dsimp only; omega
theorem repZ_tot {f : o.Z → o.Z} {c : Int} (h : ∀ z, totZ (f z) ≤ totZ z + c) : ∀ (n : Nat) (z : o.Z), totZ (repZ o f n z) ≤ totZ z + n * c
  | 0, z => by rw [repZ_zero]; simp
  | n + 1, z => by
    rw [repZ_succ]
    have h1 := repZ_tot h n (f z)
    have h2 := h z
    have h3 : ((n + 1 : Nat) : Int) * c = n * c + c := by rw [Int.natCast_add, Int.add_mul]; simp
    omega
theorem execZ_tot : ∀ (T : Fst) (z : o.Z), totZ (execZ src o T z) ≤ totZ z + cntZ T
  | .nil, z => by simp [execZ, cntZ]
  | .one s r, z => by
    have h1 := execZ_tot r (stepZ src o s z)
    have h2 := totZ_step (src := src) s z
    simp only [execZ, cntZ]; omega
  | .nest s b r, z => by
    have h1 := execZ_tot r (repZ o (execZ src o b) (its s z.1) (tellZ src o s z))
    have h2 := repZ_tot (fun y => execZ_tot b y) (its s z.1) (tellZ src o s z)
    have h3 : (its s z.1 : Int) * cntZ b ≤ max 1 s.n * cntZ b := Int.mul_le_mul_of_nonneg_right (its_le s z.1) (cntZ_nonneg b)
    have h4 := totZ_tell (src := src) s z
    simp only [execZ, cntZ]; omega
/-- The state 'z' has been reached, and 'M' is still to run. -/
def RestZ (src : Int → Nat → Int) (o : Obm) (L : List Sm) (z0 : o.Z) (M : List Sm) (z : o.Z) : Prop := ∀ T, Par M 0 M.length T → ∃ T0, Par L 0 L.length T0 ∧ execZ src o T0 z0 = execZ src o T z ∧ totZ z + cntZ T ≤ totZ z0 + cntZ T0
theorem RestZ.start (src : Int → Nat → Int) (o : Obm) (L : List Sm) (z0 : o.Z) : RestZ src o L z0 L z0 := fun T h => ⟨T, h, rfl, Int.le_refl _⟩
theorem RestZ.done {L : List Sm} {z0 z : o.Z} (h : RestZ src o L z0 [] z) {T0 : Fst} (hT : Par L 0 L.length T0) : execZ src o T0 z0 = z := by
  obtain ⟨T, h1, h2, _⟩ := h .nil (.nil 0)
  rw [hT.unique h1, h2]; rfl
theorem RestZ.one {L M : List Sm} {z0 z : o.Z} {n : Nat} {s : Sm} (h : RestZ src o L z0 M z) (hb : IsBlk M) (hn : M.length = n) (hs : M[0]? = some s) (ho : opn s = false) :
    IsBlk (blk.part M (0 + 1) (n - (0 + 1))) ∧ RestZ src o L z0 (blk.part M (0 + 1) (n - (0 + 1))) (stepZ src o s z) := by
  subst hn
  have hlt := (List.getElem?_eq_some_iff.1 hs).1
  have h1 := hAt_succ hs
  rw [hAt_zero] at h1
  have h6 : s.k ≠ 6 := fun h6 => by
    rw [dlt_end h6] at h1
    have := (blk_bounds hb (0 + 1)).1; omega
  rw [dlt_flat ho h6] at h1
  refine ⟨rest_blk hb (by omega) (by omega), fun T hT => ?_⟩
  obtain ⟨T0, k1, k2, k3⟩ := h _ (par_flat (by omega) hs ho h6 hT)
  refine ⟨T0, k1, k2, ?_⟩
  have := totZ_step (src := src) s z
  simp only [cntZ] at k3
  omega
theorem RestZ.nest {L M : List Sm} {z0 z : o.Z} {B : Fst} {n e : Nat} {s : Sm} (h : RestZ src o L z0 M z) (hb : IsBlk M) (hn : M.length = n) (hs : M[0]? = some s) (he : IsEnd M 0 e) (hB : Par (blk.part M 1 (e - 1)) 0 (blk.part M 1 (e - 1)).length B) :
    IsBlk (blk.part M (e + 1) (n - (e + 1))) ∧ RestZ src o L z0 (blk.part M (e + 1) (n - (e + 1))) (repZ o (execZ src o B) (its s z.1) (tellZ src o s z)) := by
  subst hn
  have h1 := he.2.1
  refine ⟨rest_blk hb (by omega) (by rw [he.2.2.1, hAt_zero]), fun T hT => ?_⟩
  obtain ⟨T0, k1, k2, k3⟩ := h _ (par_nest hs he hB hT)
  refine ⟨T0, k1, k2, ?_⟩
  have h2 := repZ_tot (fun y => execZ_tot (src := src) B y) (its s z.1) (tellZ src o s z)
  have h3 : (its s z.1 : Int) * cntZ B ≤ max 1 s.n * cntZ B := Int.mul_le_mul_of_nonneg_right (its_le s z.1) (cntZ_nonneg B)
  have h4 := totZ_tell (src := src) s z
  simp only [cntZ] at k3
  omega
/-- What has been sent, sensed and told stays below the bound of the whole. -/
theorem RestZ.small {L M : List Sm} {z0 z : o.Z} {m : Int} (h : RestZ src o L z0 M z) (hm : ∀ T0, Par L 0 L.length T0 → totZ z0 + cntZ T0 ≤ m) : ∀ T, Par M 0 M.length T → totZ z + cntZ T ≤ m := fun T hT => by
  obtain ⟨T0, k1, _, k3⟩ := h T hT
  have := hm T0 k1
  omega
theorem RestZ.tot {L M : List Sm} {z0 z : o.Z} {m : Int} (h : RestZ src o L z0 M z) (hM : IsBlk M) (hm : ∀ T0, Par L 0 L.length T0 → totZ z0 + cntZ T0 ≤ m) : totZ z ≤ m := by
  obtain ⟨T, hT⟩ := par_ex hM
  have := h.small hm T hT
  have := cntZ_nonneg T
  omega
end
theorem step_varsP {src : Int → Nat → Int} (hsrc : ∀ q n, isVal (src q n) = true) (s : Sm) {x : Sx} (h : varsOk x.V = true) : varsOk (step1 src s x).V = true := by
  rcases step_cases src s x with ⟨_, e⟩ | ⟨_, e⟩ | ⟨_, e⟩ | ⟨_, _, e⟩ <;> rw [e]
  · exact vars_set h (evalV_val _ _ _ _) _
  · exact vars_set h (hsrc _ _) _
  · exact h
  · exact h
theorem exec_varsP {src : Int → Nat → Int} (hsrc : ∀ q n, isVal (src q n) = true) : ∀ (T : Fst) {x : Sx}, varsOk x.V = true → varsOk (exec src T x).V = true
  | .nil, _, h => h
  | .one s r, _, h => exec_varsP hsrc r (step_varsP hsrc s h)
  | .nest _ b r, x, h => exec_varsP hsrc r (rep_ind (P := fun y => varsOk y.V = true) (fun _ hy => exec_varsP hsrc b hy) _ x h)
theorem execZ_vars {src : Int → Nat → Int} {o : Obm} (hsrc : ∀ q n, isVal (src q n) = true) (T : Fst) {z : o.Z} (h : varsOk z.1.V = true) : varsOk (execZ src o T z).1.V = true := by
  rw [execZ_fst]; exact exec_varsP hsrc T h
/-- An observer that makes nothing of what it is told. -/
def deaf : Obm := ⟨Unit, fun t _ _ _ => t, fun _ => 0, fun _ _ _ _ => by omega, fun _ => by omega⟩
end Go.Proofs.YtmgeecdgebemdaaGreatDoor.exe

/- A struct in one block that holds rows of its own, each in new memory and apart from the others: what stays, and what turns, where one of them is written. -/
namespace Go.Proofs.YtmgeecdgebemdaaGreatDoor.rss
open Go Go.ChangeShapes Go.WideShapes Go.ChangeAt Go.RowKit Go.Proofs.YtmgeecdgebemdaaGreatDoor.row

/-- A row: the slice, how many elements, the cells, the element's type and size. -/
structure RS where
  (v : Value) (n : Nat) (xs : List Value) (e : TypeId) (s : Nat)
abbrev Own (r : RS) (B : Nat) (w : World) : Prop := w.ownsRow B r.e r.s r.v r.n r.xs
/-- No block stands in two places. -/
def Sep (l : List (Option Nat)) : Prop := ∀ (i j b : Nat), l[i]? = some (some b) → l[j]? = some (some b) → i = j
theorem Sep.set {l : List (Option Nat)} (h : Sep l) {N : Nat} (hb : ∀ (j b : Nat), l[j]? = some (some b) → b < N) (i : Nat) {x : Option Nat} (hx : l[i]? = some x ∨ ∀ b, x = some b → N ≤ b) : Sep (l.set i x) := by
  intro p q b hp hq
  rw [List.getElem?_set] at hp hq
  by_cases h1 : i = p <;> by_cases h2 : i = q
  · omega
  · rw [if_pos h1] at hp; rw [if_neg h2] at hq
    split at hp
    · have hxb : x = some b := Option.some.inj hp
      rcases hx with hx | hx
      · rw [hxb] at hx; have := h i q b hx hq; omega
      · have := hx b hxb; have := hb q b hq; omega
    · cases hp
  · rw [if_neg h1] at hp; rw [if_pos h2] at hq
    split at hq
    · have hxb : x = some b := Option.some.inj hq
      rcases hx with hx | hx
      · rw [hxb] at hx; have := h p i b hp hx; omega
      · have := hx b hxb; have := hb p b hp; omega
    · cases hq
  · rw [if_neg h1] at hp; rw [if_neg h2] at hq
    exact h p q b hp hq
abbrev blks (g : Nat) (l : List RS) : List (Option Nat) := some g :: l.map fun r => r.v.ownBlock
structure RsAt (B g : Nat) (l : List RS) (w : World) : Prop where
  low : B ≤ g
  lt : g < w.heap.size
  own : ∀ (j : Nat) (r : RS), l[j]? = some r → Own r B w
  sep : Sep (blks g l)
theorem blks_at {g : Nat} {l : List RS} {j : Nat} {r : RS} (h : l[j]? = some r) : (blks g l)[j + 1]? = some r.v.ownBlock := by simp [h]
theorem RsAt.bound {B g : Nat} {l : List RS} {w : World} (h : RsAt B g l w) : ∀ (j b : Nat), (blks g l)[j]? = some (some b) → b < w.heap.size
  | 0, b, e => by
    have : some g = some b := Option.some.inj e
    cases this; exact h.lt
  | j + 1, b, e => by
    have e' : (l.map fun r => r.v.ownBlock)[j]? = some (some b) := e
    rw [List.getElem?_map] at e'
    cases hr : l[j]? with
    | none => rw [hr] at e'; cases e'
    | some r =>
      rw [hr] at e'
      exact ((h.own j r hr).lt b (Option.some.inj e')).2
theorem RsAt.ne_g {B g : Nat} {l : List RS} {w : World} (h : RsAt B g l w) {j : Nat} {r : RS} (hr : l[j]? = some r) : r.v.ownBlock ≠ some g := fun e => by
  have := h.sep 0 (j + 1) g rfl (by rw [blks_at hr, e])
  omega
theorem RsAt.apart {B g : Nat} {l : List RS} {w : World} (h : RsAt B g l w) {i j : Nat} {r r' : RS} (hr : l[i]? = some r) (hr' : l[j]? = some r') (hij : i ≠ j) : r.v.ownBlock = none ∨ r.v.ownBlock ≠ r'.v.ownBlock := by
  cases e : r.v.ownBlock with
  | none => exact .inl rfl
  | some b =>
    right
    intro e2
    have := h.sep (i + 1) (j + 1) b (by rw [blks_at hr, e]) (by rw [blks_at hr', ← e2])
    omega
theorem RsAt.below {B g : Nat} {l : List RS} {w w' : World} (h : RsAt B g l w) (hb : Below w.heap.size w w') : RsAt B g l w' :=
  ⟨h.low, Nat.lt_of_lt_of_le h.lt hb.size, fun j r hr => (h.own j r hr).kept (grown_below hb none) (by cases r.v.ownBlock <;> simp), h.sep⟩
/-- The block itself is written. -/
theorem RsAt.put {B g : Nat} {l : List RS} {w w' : World} (h : RsAt B g l w) (hg : w.grownBy w' (some g)) : RsAt B g l w' :=
  ⟨h.low, Nat.lt_of_lt_of_le h.lt hg.size, fun j r hr => (h.own j r hr).kept hg (.inr (h.ne_g hr)), h.sep⟩
/-- One row is written or has moved. -/
theorem RsAt.grow {B g : Nat} {l : List RS} {w w' : World} (h : RsAt B g l w) {i : Nat} {r r' : RS} (hi : l[i]? = some r) (hg : w.grownBy w' r.v.ownBlock) (ho : Own r' B w') (hat : r'.v.ownBlock = r.v.ownBlock ∨ ∀ b, r'.v.ownBlock = some b → w.heap.size ≤ b) : RsAt B g (l.set i r') w' := by
  have hil := (List.getElem?_eq_some_iff.1 hi).1
  refine ⟨h.low, Nat.lt_of_lt_of_le h.lt hg.size, fun j q hq => ?_, ?_⟩
  · rw [List.getElem?_set] at hq
    by_cases hij : i = j
    · rw [if_pos hij, if_pos hil] at hq
      cases hq; exact ho
    · rw [if_neg hij] at hq
      exact (h.own j q hq).kept hg (h.apart hq hi (fun e => hij e.symm))
  · have e : blks g (l.set i r') = (blks g l).set (i + 1) r'.v.ownBlock := by simp [blks, List.map_set]
    rw [e]
    exact h.sep.set h.bound (i + 1) (hat.imp (fun e => by rw [blks_at hi, e]) id)
/-- From 'w' to 'w'' only these blocks and new ones are written; the blocks that are held then are of these or new. -/
structure Mv (l : List (Option Nat)) (w : World) (l' : List (Option Nat)) (w' : World) : Prop where
  os : w'.os = w.os
  tape : w'.tape = w.tape
  output : w'.output = w.output
  size : w.heap.size ≤ w'.heap.size
  block : ∀ b, b < w.heap.size → (∀ j : Nat, l[j]? ≠ some (some b)) → w'.heap[b]? = w.heap[b]?
  sub : ∀ (j b : Nat), l'[j]? = some (some b) → b < w.heap.size → ∃ i : Nat, l[i]? = some (some b)
theorem Mv.refl (l : List (Option Nat)) (w : World) : Mv l w l w := ⟨rfl, rfl, rfl, Nat.le_refl _, fun _ _ _ => rfl, fun j _ h _ => ⟨j, h⟩⟩
theorem Mv.trans {l l' l2 : List (Option Nat)} {w w' w2 : World} (h : Mv l w l' w') (k : Mv l' w' l2 w2) : Mv l w l2 w2 :=
  ⟨k.os.trans h.os, k.tape.trans h.tape, k.output.trans h.output, Nat.le_trans h.size k.size,
    fun b hb hn => (k.block b (Nat.lt_of_lt_of_le hb h.size) (fun j e => by obtain ⟨i, hi⟩ := h.sub j b e hb; exact hn i hi)).trans (h.block b hb hn),
    fun j b e hb => by obtain ⟨i, hi⟩ := k.sub j b e (Nat.lt_of_lt_of_le hb h.size); exact h.sub i b hi hb⟩
theorem Mv.of_below {w w' : World} (l : List (Option Nat)) (hb : Below w.heap.size w w') : Mv l w l w' := ⟨hb.os, hb.tape, hb.output, hb.size, fun b h _ => hb.block b h, fun j _ h _ => ⟨j, h⟩⟩
theorem Mv.of_grown {l : List (Option Nat)} {w w' : World} {i : Nat} {o : Option Nat} (hi : l[i]? = some o) (hg : w.grownBy w' o) {x : Option Nat} (hx : x = o ∨ ∀ b, x = some b → w.heap.size ≤ b) : Mv l w (l.set i x) w' :=
  ⟨hg.os, hg.tape, hg.output, hg.size, fun b hb hn => hg.block b hb (fun e => hn i (by rw [hi, ← e])), fun j b e hb => by
    rw [List.getElem?_set] at e
    by_cases hij : i = j
    · rw [if_pos hij] at e
      split at e
      · have hxb : x = some b := Option.some.inj e
        rcases hx with hx | hx
        · exact ⟨i, by rw [hi, ← hx, hxb]⟩
        · have := hx b hxb; omega
      · cases e
    · rw [if_neg hij] at e; exact ⟨j, e⟩⟩
theorem Mv.below {l l' : List (Option Nat)} {w w' : World} (h : Mv l w l' w') {B : Nat} (hl : ∀ (j b : Nat), l[j]? = some (some b) → B ≤ b) (hB : B ≤ w.heap.size) : Below B w w' :=
  ⟨h.os, h.tape, h.output, h.size, fun b hb => h.block b (by omega) (fun j e => by have := hl j b e; omega)⟩
theorem RsAt.base {B g : Nat} {l : List RS} {w : World} (h : RsAt B g l w) : ∀ (j b : Nat), (blks g l)[j]? = some (some b) → B ≤ b
  | 0, b, e => by
    have : some g = some b := Option.some.inj e
    cases this; exact h.low
  | j + 1, b, e => by
    have e' : (l.map fun r => r.v.ownBlock)[j]? = some (some b) := e
    rw [List.getElem?_map] at e'
    cases hr : l[j]? with
    | none => rw [hr] at e'; cases e'
    | some r =>
      rw [hr] at e'
      exact ((h.own j r hr).lt b (Option.some.inj e')).1
/-- A block that is none of these stays. -/
theorem Mv.box {l l' : List (Option Nat)} {w w' : World} (h : Mv l w l' w') {q : Nat} {cs : Array Value} {t : TypeId} (hx : Box q cs t w) (hn : ∀ j : Nat, l[j]? ≠ some (some q)) : Box q cs t w' := (h.block q hx.lt hn).trans hx
/-- A block that lay before stays apart. -/
theorem Mv.out {l l' : List (Option Nat)} {w w' : World} (h : Mv l w l' w') {q : Nat} (hq : q < w.heap.size) (hn : ∀ j : Nat, l[j]? ≠ some (some q)) : ∀ j : Nat, l'[j]? ≠ some (some q) := fun j e => by
  obtain ⟨i, hi⟩ := h.sub j q e hq
  exact hn i hi
/-- One row is written or has moved, and then the block: what the struct holds. -/
theorem RsAt.app {B g : Nat} {l : List RS} {w w' : World} {cs : Array Value} {t : TypeId} (h : RsAt B g l w) (hx : Box g cs t w) {i : Nat} {r r' : RS} (hi : l[i]? = some r) (hg : w.grownBy w' r.v.ownBlock) (ho : Own r' B w') (hat : r'.v.ownBlock = r.v.ownBlock ∨ ∀ b, r'.v.ownBlock = some b → w.heap.size ≤ b) (c : Nat) (u : Value) :
    RsAt B g (l.set i r') (w'.setCell ⟨g, c, none⟩ u) ∧ Box g (cs.setIfInBounds c u) t (w'.setCell ⟨g, c, none⟩ u) ∧ Mv (blks g l) w (blks g (l.set i r')) (w'.setCell ⟨g, c, none⟩ u) ∧ Box g cs t w' := by
  have hx' := hx.grown hg (fun e => h.ne_g hi e.symm)
  have e : blks g (l.set i r') = (blks g l).set (i + 1) r'.v.ownBlock := by simp [blks, List.map_set]
  refine ⟨(h.grow hi hg ho hat).put (grown_setCell w' g c u), hx'.set c u, ?_, hx'⟩
  have m1 : Mv (blks g l) w (blks g (l.set i r')) w' := by rw [e]; exact Mv.of_grown (blks_at hi) hg hat
  have m2 := Mv.of_grown (l := blks g (l.set i r')) (i := 0) (o := some g) rfl (grown_setCell w' g c u) (x := some g) (.inl rfl)
  exact m1.trans m2
/-- A cell of a row is written. -/
theorem RsAt.cellset {B g : Nat} {l : List RS} {w w' : World} {cs : Array Value} {t : TypeId} (h : RsAt B g l w) (hx : Box g cs t w) {i : Nat} {r r' : RS} (hi : l[i]? = some r) (hg : w.grownBy w' r.v.ownBlock) (ho : Own r' B w') (hv : r'.v = r.v) :
    RsAt B g (l.set i r') w' ∧ Box g cs t w' ∧ Mv (blks g l) w (blks g (l.set i r')) w' := by
  have e : blks g (l.set i r') = (blks g l).set (i + 1) r'.v.ownBlock := by simp [blks, List.map_set]
  refine ⟨h.grow hi hg ho (.inl (by rw [hv])), hx.grown hg (fun e => h.ne_g hi e.symm), ?_⟩
  rw [e]
  exact Mv.of_grown (blks_at hi) hg (.inl (by rw [hv]))
end Go.Proofs.YtmgeecdgebemdaaGreatDoor.rss
