/- Several texts in one: VLogB VExeN VExeE VMemV VApS. -/
import Derived.Test.YtmgeecdgebemdaaGreatDoorGSigV21
import Derived.Test.YtmgeecdgebemdaaGreatDoorGSigV19
import Derived.Test.YtmgeecdgebemdaaGreatDoorGSigV31
import Derived.Test.YtmgeecdgebemdaaGreatDoorGSigV29
import Derived.Test.YtmgeecdgebemdaaGreatDoorGSigV8
import Derived.Test.YtmgeecdgebemdaaGreatDoorGSigV24
import Derived.Laws.Rows
import Derived.Test.YtmgeecdgebemdaaGreatDoorGSigV10
import Derived.Maps.AppendAt
import Derived.Laws.AppendOwnNone
import Derived.Lib.SliceRun
import Derived.RegionTactic

/- The model's MustLog, NeedsLog, IsRestartable, LogRoom: what the plain relations say; nothing that was there is written. -/
namespace Go.Proofs.YtmgeecdgebemdaaGreatDoor.sets
open Go Go.ChangeShapes Go.WideShapes Go.ChangeAt Go.RowKit Go.Proofs.YtmgeecdgebemdaaGreatDoor.row Go.Proofs.YtmgeecdgebemdaaGreatDoor.val Go.Proofs.YtmgeecdgebemdaaGreatDoor.stm Go.Proofs.YtmgeecdgebemdaaGreatDoor.blk Go.Proofs.YtmgeecdgebemdaaGreatDoor.expr Go.Proofs.YtmgeecdgebemdaaGreatDoor.prg
theorem tf_yes {L : List Int} {k : Nat} {x : Int} {p : Int → Bool} (hx : L[k]? = some x) (hp : p x = true) : (L.take (k + 1)).filter p = (L.take k).filter p ++ [x] := by
  rw [List.take_add_one, hx]; simp [List.filter_append, hp]
theorem tf_no {L : List Int} {k : Nat} {x : Int} {p : Int → Bool} (hx : L[k]? = some x) (hp : p x = false) : (L.take (k + 1)).filter p = (L.take k).filter p := by
  rw [List.take_add_one, hx]; simp [List.filter_append, hp]
theorem tf_len (L : List Int) (k : Nat) (p : Int → Bool) : ((L.take k).filter p).length ≤ L.length := Nat.le_trans (List.length_filter_le _ _) (by rw [List.length_take]; omega)
set_option maxHeartbeats 8000000 in
set_option maxRecDepth 100000 in
theorem spec_l08ok (ab : Option Addr) (nb cb : Nat) (t : Tk) (hn : (nb : Int) ≤ 1048576) (w : World) (h : StRow w ab nb t.b) (r : Bool) (hr : r = true ↔ (IsBlk t.b ∧ exprOk t.o t.x t.y = true)) :
    Calls Tryz.prog 169 #[tkV ab nb cb t] w (BelB w r) := by
  obtain ⟨B, o, x, y⟩ := t
  obtain ⟨W, hW⟩ : ∃ W, W = w.alloc (.cells #[.slice ab nb cb, .int .i64 o, .int .i64 x, .int .i64 y] 96) := ⟨_, rfl⟩
  have hbx : Box w.heap.size #[.slice ab nb cb, .int .i64 o, .int .i64 x, .int .i64 y] 96 W := by rw [hW]; exact Box.new _ _ _
  have hBW : Below w.heap.size w W := by rw [hW]; exact below_new _ _
  have H := Lib.hid (And.intro hBW (h.below hBW))
  have HX := Lib.hid hbx
  have HW := Lib.hid hW.symm
  have c0 : W.cell? ⟨w.heap.size, 0, none⟩ = some (.slice ab nb cb) := hbx.cell 0
  obtain ⟨rb, hrb⟩ := blk_dec B
  have HRB := Lib.hid hrb
  clear h hbx hBW hW
  cases rb
  · have hrf : r = false := by rw [← Bool.not_eq_true]; intro e; have := hrb.2 (hr.1 e).1; cases this
    clear hrb hr
    subst hrf
    go_enter Tryz.func169, Tryz.ntmps169
    go_wp2_with (go_at_call 150; rw [HW.out]; (with_reducible refine (spec_blockok ab nb cb B hn _ H.out.2 false HRB.out).mono ?_); rintro e w2 ⟨rfl, hb2⟩)
    go_ret
    exact ⟨rfl, below_then H.out.1 hb2⟩
  · have hre : exprOk o x y = r := by
      have h1 := hrb.1 rfl
      cases r
      · rw [← Bool.not_eq_true]; intro e; have := hr.2 ⟨h1, e⟩; cases this
      · exact (hr.1 rfl).2
    have HRE := Lib.hid hre
    clear hrb hr hre
    go_enter Tryz.func169, Tryz.ntmps169
    go_wp2_with (go_at_call 150; rw [HW.out]; (with_reducible refine (spec_blockok ab nb cb B hn _ H.out.2 true HRB.out).mono ?_); rintro e w2 ⟨rfl, hb2⟩; refine Hid.out ?_)
    have HX2 := Lib.hid (HX.out.below hb2)
    have d1 : w2.cell? ⟨w.heap.size, 1, none⟩ = some (.int .i64 o) := HX2.out.cell 1
    have d2 : w2.cell? ⟨w.heap.size, 2, none⟩ = some (.int .i64 x) := HX2.out.cell 2
    have d3 : w2.cell? ⟨w.heap.size, 3, none⟩ = some (.int .i64 y) := HX2.out.cell 3
    have HB2 := Lib.hid (below_then H.out.1 hb2)
    clear hb2
    refine Lib.hid ?_
    go_wp2_with (go_at_call 151; (with_reducible refine (spec_exprok o x y r HRE.out _).mono ?_); rintro e w3 ⟨rfl, hb3⟩)
    go_ret
    exact ⟨rfl, below_then HB2.out hb3⟩
/-- A row in a block of its own between 'lo' and 'hi'. -/
def OwnIn (w : World) (lo hi : Nat) (a : Option Addr) (n c : Nat) (L : List Int) : Prop := w.ownsRow lo 3 1 (.slice a n c) n (ivs L) ∧ ∀ q, (Value.slice a n c).ownBlock = some q → lo ≤ q ∧ q < hi
theorem OwnIn.kept {w w' : World} {lo hi g : Nat} {a : Option Addr} {n c : Nat} {L : List Int} (h : OwnIn w lo hi a n c L) (hg : w.grownBy w' (some g)) (hne : g < lo ∨ hi ≤ g) : OwnIn w' lo hi a n c L := by
  refine ⟨h.1.kept hg ?_, h.2⟩
  cases hq : (Value.slice a n c).ownBlock with
  | none => exact .inl rfl
  | some q => right; intro e; have := h.2 q hq; have := Option.some.inj e; omega
theorem OwnIn.below {w w' : World} {lo hi : Nat} {a : Option Addr} {n c : Nat} {L : List Int} (h : OwnIn w lo hi a n c L) (hb : Below w.heap.size w w') : OwnIn w' lo hi a n c L :=
  ⟨h.1.kept (grown_below hb none) (by cases hq : (Value.slice a n c).ownBlock <;> simp), h.2⟩
theorem OwnIn.of {w : World} {lo lo' : Nat} {a : Option Addr} {n c : Nat} {L : List Int} (h : w.ownsRow lo 3 1 (.slice a n c) n (ivs L)) (hl : lo' ≤ lo) : OwnIn w lo' w.heap.size a n c L :=
  ⟨h.mono hl, fun q hq => by have := h.lt q hq; omega⟩
theorem OwnIn.mono {w : World} {lo hi hi' : Nat} {a : Option Addr} {n c : Nat} {L : List Int} (h : OwnIn w lo hi a n c L) (hl : hi ≤ hi') : OwnIn w lo hi' a n c L :=
  ⟨h.1, fun q hq => by have := h.2 q hq; omega⟩
/-- What stays while the model's loop appends: three rows; nothing below 'w' is written. -/
def KeptL (w w6 wr : World) (a4 : Option Addr) (n4 c4 : Nat) (a5 : Option Addr) (n5 c5 : Nat) (a6 : Option Addr) (n6 c6 : Nat) (lo : Nat) (fm fu ff : Nat → Bool) : Prop :=
  OwnIn wr lo w6.heap.size a4 n4 c4 (lst fm 8) ∧ OwnIn wr lo w6.heap.size a5 n5 c5 (lst fu 8) ∧ OwnIn wr lo w6.heap.size a6 n6 c6 (lst ff 8) ∧ (Below w.heap.size w wr ∧ w.heap.size + 1 < lo ∧ lo ≤ w6.heap.size) ∧ w6.heap.size ≤ wr.heap.size
theorem KeptL.next {w w6 wr w1 w4 : World} {a4 a5 a6 : Option Addr} {n4 c4 n5 c5 n6 c6 lo g m c : Nat} {fm fu ff : Nat → Bool} (h : KeptL w w6 wr a4 n4 c4 a5 n5 c5 a6 n6 c6 lo fm fu ff) (hb : Below wr.heap.size wr w1) (hg : w1.grownBy w4 (Value.slice (some ⟨g, 0, none⟩) m c).ownBlock) (hgg : g = w.heap.size + 1 ∨ w6.heap.size ≤ g) :
    KeptL w w6 w4 a4 n4 c4 a5 n5 c5 a6 n6 c6 lo fm fu ff := by
  have hne : g < lo ∨ w6.heap.size ≤ g := by have := h.2.2.2.1.2.1; omega
  have hs1 := hb.size
  have hs2 := hg.size
  have hs3 := h.2.2.2.1.1.size
  have hs4 := h.2.2.2.2
  refine ⟨(h.1.below hb).kept hg hne, (h.2.1.below hb).kept hg hne, (h.2.2.1.below hb).kept hg hne, ⟨(h.2.2.2.1.1.trans (hb.mono hs3)).grown hg (by omega) (fun j hj => ?_), h.2.2.2.1.2⟩, by omega⟩
  have : g = j := Option.some.inj hj
  have := h.2.2.2.1.2
  omega
theorem own_next {wr w4 : World} {b lo6 g m c k : Nat} {v4 : Value} {x : Value} {ty : TypeId} {e : TypeId} {s n4 : Nat} {xs : List Value} (_ : w4.ownsRow b e s v4 n4 xs) (hat : v4.ownBlock = (Value.slice (some ⟨g, 0, none⟩) m c).ownBlock ∨ v4.ownBlock = some (wr.alloc (.cells #[x] ty)).heap.size) (hg : g = k ∨ lo6 ≤ g) (hs : lo6 ≤ wr.heap.size) :
    ∀ g4, v4.ownBlock = some g4 → g4 = k ∨ lo6 ≤ g4 := fun g4 h4 => by
  rcases hat with h | h
  · rw [h4] at h
    have : g4 = g := Option.some.inj h
    omega
  · rw [h4, World.size_alloc] at h
    have := Option.some.inj h
    omega
set_option maxHeartbeats 8000000 in
set_option maxRecDepth 100000 in
theorem spec_mustlog (ab : Option Addr) (nb cb : Nat) (t : Tk) (hn : (nb : Int) ≤ 1048576) (w : World) (h : StRow w ab nb t.b) (f : Nat → Bool) (hf : Is f (LogP t)) :
    Calls Tryz.prog 130 #[tkV ab nb cb t] w (NewInts w (lst f 8)) := by
  obtain ⟨i0, hi, hz0, hz1, hz2⟩ := info_parts infoInt
  obtain ⟨r, hr⟩ := tsk_dec t
  have HTO := Lib.hid (show ∀ w', StRow w' ab nb t.b → Calls Tryz.prog 169 #[tkV ab nb cb t] w' (BelB w' r) from fun w' h' => spec_l08ok ab nb cb t hn w' h' r hr)
  obtain ⟨W, hW⟩ : ∃ W, (w.alloc (.cells #[.slice ab nb cb, .int .i64 t.o, .int .i64 t.x, .int .i64 t.y] 96)).alloc (.cells #[] 3) = W := ⟨_, rfl⟩
  have hbx : Box w.heap.size #[.slice ab nb cb, .int .i64 t.o, .int .i64 t.x, .int .i64 t.y] 96 W := by rw [← hW]; exact (Box.new _ _ _).alloc _
  have hBW : Below w.heap.size w W := by rw [← hW]; exact below_then (below_new _ _) (below_new _ _)
  have hO : W.ownsRow w.heap.size 3 1 (.slice (some ⟨w.heap.size + 1, 0, none⟩) 0 0) 0 (ivs []) := by
    have h9 := World.ownsRow_made (base := w.heap.size) (e := 3) (size := 1) (w.alloc (.cells #[.slice ab nb cb, .int .i64 t.o, .int .i64 t.x, .int .i64 t.y] 96)) #[] 0 (by simp) (by decide) rfl
    rw [World.size_alloc] at h9
    rw [← hW]; exact h9
  have hWs : W.heap.size = w.heap.size + 2 := by rw [← hW]; simp
  have H := Lib.hid (And.intro hbx (And.intro hBW (And.intro (h.below hBW) hO)))
  have HF := Lib.hid hf
  have hlen : t.b.length = nb := h.1
  clear h hbx hBW hO hf
  cases r
  · have HFL := Lib.hid (show lst f 8 = [] from log_none (fun h => by have := hr.2 h; cases this) HF.out)
    clear hr
    go_enter Tryz.func130, Tryz.ntmps130
    go_wp2_with (first
      | (refine wpList_load_row rfl 96 _ rfl w.heap.size rfl _ _ _ _ H.out.1 Tryz.underlying96 rfl (by kernel_rfl) ?_)
      | (go_at_call 169; (with_reducible refine (HTO.out _ H.out.2.2.1).mono ?_); rintro e w2 ⟨rfl, hb2⟩))
    go_ret
    exact ⟨_, _, _, rfl, by rw [HFL.out]; exact H.out.2.2.2.kept (grown_below hb2 none) (by simp [Value.ownBlock]), below_then H.out.2.1 hb2⟩
  · have HT := Lib.hid (hr.1 rfl)
    obtain ⟨fm, hfm⟩ := is_ex (fun v => IsBlk t.b ∧ MayTo t.b nb v)
    obtain ⟨fu, hfu⟩ := is_ex (fun v => IsBlk t.b ∧ WAt t.b nb v)
    obtain ⟨ff, hff⟩ := is_ex (FirstP t)
    have HLF := Lib.hid (show (lst fm 8).filter (fun x => decide (x ∈ lst ff 8) || !decide (x ∈ lst fu 8)) = lst f 8 from log_model HT.out (by rw [hlen]; exact hfm) (by rw [hlen]; exact hfu) hff HF.out)
    have HFM := Lib.hid (And.intro hfm (And.intro hfu hff))
    clear hr hfm hfu hff
    go_enter Tryz.func130, Tryz.ntmps130
    go_wp2_with (first
      | (refine wpList_load_row rfl 96 _ rfl w.heap.size rfl _ _ _ _ H.out.1 Tryz.underlying96 rfl (by kernel_rfl) ?_)
      | (go_at_call 169; (with_reducible refine (HTO.out _ H.out.2.2.1).mono ?_); rintro e w2 ⟨rfl, hb2⟩; refine Hid.out ?_))
    have H2 := Lib.hid (And.intro (H.out.1.below hb2) (And.intro (below_then H.out.2.1 hb2) (And.intro (H.out.2.2.1.below hb2) (H.out.2.2.2.kept (grown_below hb2 none) (by simp [Value.ownBlock])))))
    have hs2 := hb2.size
    have c0 : w2.cell? ⟨w.heap.size, 0, none⟩ = some (.slice ab nb cb) := H2.out.1.cell 0
    clear hb2
    refine Lib.hid ?_
    go_wp2_with (go_at_call 170; (with_reducible refine (spec_maywrite ab nb cb t.b hn _ H2.out.2.2.1 fm HFM.out.1).mono ?_); rintro e w4 ⟨a4, n4, c4, rfl, ho4, hb4⟩; refine Hid.out ?_)
    have hn4 : n4 ≤ 8 := by have h1 := own_len ho4; have h2 := lst_len fm 8; omega
    have hs4 := hb4.size
    have H4 := Lib.hid (And.intro (H2.out.1.below hb4) (And.intro (below_then H2.out.2.1 hb4) (And.intro (H2.out.2.2.1.below hb4) (And.intro (H2.out.2.2.2.kept (grown_below hb4 none) (by simp [Value.ownBlock])) (OwnIn.of ho4 (Nat.le_refl _))))))
    have d0 : w4.cell? ⟨w.heap.size, 0, none⟩ = some (.slice ab nb cb) := H4.out.1.cell 0
    clear hb4 ho4 c0
    refine Lib.hid ?_
    go_wp2_with (go_at_call 171; (with_reducible refine (spec_mustwrite ab nb cb t.b hn _ H4.out.2.2.1 fu HFM.out.2.1).mono ?_); rintro e w5 ⟨a5, n5, c5, rfl, ho5, hb5⟩; refine Hid.out ?_)
    have hn5 : n5 ≤ 8 := by have h1 := own_len ho5; have h2 := lst_len fu 8; omega
    have hs5 := hb5.size
    have H5 := Lib.hid (And.intro (H4.out.1.below hb5) (And.intro (below_then H4.out.2.1 hb5) (And.intro (H4.out.2.2.1.below hb5) (And.intro (H4.out.2.2.2.1.kept (grown_below hb5 none) (by simp [Value.ownBlock])) (And.intro (H4.out.2.2.2.2.below hb5) (OwnIn.of ho5 hs4))))))
    clear hb5 ho5 d0
    refine Lib.hid ?_
    go_wp2_with (first
      | (refine wpList_load_row rfl 96 _ rfl w.heap.size rfl _ _ _ _ H5.out.1 Tryz.underlying96 rfl (by kernel_rfl) ?_)
      | (go_at_call 172; (with_reducible refine (spec_mayread ab nb cb t hn _ H5.out.2.2.1 ff HFM.out.2.2).mono ?_); rintro e w6 ⟨a6, n6, c6, rfl, ho6, hb6⟩; refine Hid.out ?_))
    have hn6 : n6 ≤ 8 := by have h1 := own_len ho6; have h2 := lst_len ff 8; omega
    have hs6 := hb6.size
    obtain ⟨lo, hlo⟩ : ∃ lo, lo = w2.heap.size := ⟨_, rfl⟩
    have hlw : w.heap.size + 1 < lo := by omega
    have H6 := Lib.hid (And.intro (H5.out.2.2.2.1.kept (grown_below hb6 none) (by simp [Value.ownBlock])) (show KeptL w w6 w6 a4 n4 c4 a5 n5 c5 a6 n6 c6 lo fm fu ff from ⟨hlo ▸ (H5.out.2.2.2.2.1.below hb6).mono (by omega), hlo ▸ (H5.out.2.2.2.2.2.below hb6).mono hs6, hlo ▸ OwnIn.of ho6 (by omega), ⟨below_then H5.out.2.1 hb6, hlw, by omega⟩, Nat.le_refl _⟩))
    clear hb6 ho6 hlo hWs hW
    refine Lib.hid ?_
    go_wp2
    go_loopw [3, 7] (fun v i wr => ∃ (k n g c : Nat), k ≤ n4 ∧ i = .int .i64 k ∧ v = .slice (some ⟨g, 0, none⟩) n c ∧ Hid (wr.ownsRow w.heap.size 3 1 (.slice (some ⟨g, 0, none⟩) n c) n (ivs (((lst fm 8).take k).filter (fun x => decide (x ∈ lst ff 8) || !decide (x ∈ lst fu 8))))) ∧ (g = w.heap.size + 1 ∨ w6.heap.size ≤ g) ∧ Hid (KeptL w w6 wr a4 n4 c4 a5 n5 c5 a6 n6 c6 lo fm fu ff)) (fun _ i _ => n4 - (intOf i).toNat)
    case atStart => exact ⟨0, 0, w.heap.size + 1, 0, Nat.zero_le _, rfl, rfl, H6.out.1, .inl rfl, H6.out.2⟩
    case round =>
      obtain ⟨k, n, g, c, hk, rfl, rfl, HO, hg, HR⟩ := hrel
      have hnl : n ≤ 8 := by have h1 := own_len HO.out; have h2 := tf_len (lst fm 8) k (fun x => decide (x ∈ lst ff 8) || !decide (x ∈ lst fu 8)); have h3 := lst_len fm 8; omega
      by_cases hlt : k < n4
      · have hI : (k : Int) < n4 := by omega
        have HRF := Lib.hid (Row.of_own HR.out.2.2.1.1)
        have HRU := Lib.hid (Row.of_own HR.out.2.1.1)
        obtain ⟨b, off, x, ha, hlb, hx, hc⟩ := (Row.of_own HR.out.1.1).2 k hlt
        subst ha
        have hws := HR.out.2.2.2.1.1.size
        cases hr1 : decide (x ∈ lst ff 8)
        · have HP1 := Lib.hid hr1
          clear hr1
          cases hr2 : decide (x ∈ lst fu 8)
          · have HP2 := Lib.hid hr2
            clear hr2
            have HG := Lib.hid (tf_yes (p := fun x => decide (x ∈ lst ff 8) || !decide (x ∈ lst fu 8)) hx (by simp [HP1.out, HP2.out]))
            clear hx
            go_wp2_with (first
              | (go_at_call 173; (with_reducible refine (spec_hasvar wr a6 n6 c6 (lst ff 8) x false (by omega) HRF.out HP1.out).mono ?_); rintro e wz ⟨rfl, rfl⟩)
              | (go_at_call 173; (with_reducible refine (spec_hasvar wr a5 n5 c5 (lst fu 8) x false (by omega) HRU.out HP2.out).mono ?_); rintro e wz ⟨rfl, rfl⟩)
              | (at_builtin; refine wpList_append_own_at _ rfl _ _ 27 rfl w.heap.size 3 i0 (.int .i64 0) 1 8 Tryz.underlying27 hi hz0 hz1 hz2 rfl (by decide) _ _ _ rfl (HO.out.alloc _) ⟨wr.heap.size, 0, none⟩ 1 1 [.int .i64 x] rfl rfl (World.news_of_block (cs := #[.int .i64 x]) (t := 3) (fr := (0, 0)) (heap_alloc_new wr _)) (by simp [Value.oneCell']) (by unfold maxLen; omega) (by omega) (by simp; omega) ?_; intro v4 w4 hown4 hgrow4 _ hat4; refine Hid.out ?_))
            rw [ivs_snoc, ← HG.out] at hown4
            have hB4 := below_new wr (.cells #[.int .i64 x] 3)
            have e4 := own_next hown4 hat4 hg HR.out.2.2.2.2
            have K4 := Lib.hid (HR.out.next hB4 hgrow4 hg)
            obtain ⟨g4, cp4, rfl, hg4, _⟩ := hown4.form (by omega)
            have HO4 := Lib.hid hown4
            have hgg := e4 g4 rfl
            clear hown4 hgrow4 hat4 hB4 e4 hc
            refine Lib.hid ?_
            go_wp2
            go_roundw
            case rel => exact ⟨k + 1, n + 1, g4, cp4, by omega, by go_num, rfl, HO4, hgg, K4⟩
            case measure => simp [intOf]; omega
          · have HP2 := Lib.hid hr2
            clear hr2
            have HG := Lib.hid (tf_no (p := fun x => decide (x ∈ lst ff 8) || !decide (x ∈ lst fu 8)) hx (by simp [HP1.out, HP2.out]))
            rw [← HG.out] at HO
            clear hx
            go_wp2_with (first
              | (go_at_call 173; (with_reducible refine (spec_hasvar wr a6 n6 c6 (lst ff 8) x false (by omega) HRF.out HP1.out).mono ?_); rintro e wz ⟨rfl, rfl⟩)
              | (go_at_call 173; (with_reducible refine (spec_hasvar wr a5 n5 c5 (lst fu 8) x true (by omega) HRU.out HP2.out).mono ?_); rintro e wz ⟨rfl, rfl⟩))
            go_roundw
            case rel => exact ⟨k + 1, n, g, c, by omega, by go_num, rfl, HO, hg, HR⟩
            case measure => simp [intOf]; omega
        · have HP1 := Lib.hid hr1
          clear hr1
          have HG := Lib.hid (tf_yes (p := fun x => decide (x ∈ lst ff 8) || !decide (x ∈ lst fu 8)) hx (by simp [HP1.out]))
          clear hx
          go_wp2_with (first
            | (go_at_call 173; (with_reducible refine (spec_hasvar wr a6 n6 c6 (lst ff 8) x true (by omega) HRF.out HP1.out).mono ?_); rintro e wz ⟨rfl, rfl⟩)
            | (at_builtin; refine wpList_append_own_at _ rfl _ _ 27 rfl w.heap.size 3 i0 (.int .i64 0) 1 8 Tryz.underlying27 hi hz0 hz1 hz2 rfl (by decide) _ _ _ rfl (HO.out.alloc _) ⟨wr.heap.size, 0, none⟩ 1 1 [.int .i64 x] rfl rfl (World.news_of_block (cs := #[.int .i64 x]) (t := 3) (fr := (0, 0)) (heap_alloc_new wr _)) (by simp [Value.oneCell']) (by unfold maxLen; omega) (by omega) (by simp; omega) ?_; intro v4 w4 hown4 hgrow4 _ hat4; refine Hid.out ?_))
          rw [ivs_snoc, ← HG.out] at hown4
          have hB4 := below_new wr (.cells #[.int .i64 x] 3)
          have e4 := own_next hown4 hat4 hg HR.out.2.2.2.2
          have K4 := Lib.hid (HR.out.next hB4 hgrow4 hg)
          obtain ⟨g4, cp4, rfl, hg4, _⟩ := hown4.form (by omega)
          have HO4 := Lib.hid hown4
          have hgg := e4 g4 rfl
          clear hown4 hgrow4 hat4 hB4 e4 hc
          refine Lib.hid ?_
          go_wp2
          go_roundw
          case rel => exact ⟨k + 1, n + 1, g4, cp4, by omega, by go_num, rfl, HO4, hgg, K4⟩
          case measure => simp [intOf]; omega
      · obtain rfl : k = n4 := by omega
        have hI : ¬ (k : Int) < k := by omega
        have hl4 := own_len HR.out.1.1
        go_wp2
        go_ret
        refine ⟨_, _, _, rfl, ?_, HR.out.2.2.2.1.1⟩
        have h9 := HO.out
        rw [List.take_of_length_le (by omega), HLF.out] at h9
        exact h9
end Go.Proofs.YtmgeecdgebemdaaGreatDoor.sets

/- An effect as a value, and in new memory. -/
namespace Go.Proofs.YtmgeecdgebemdaaGreatDoor.exe
open Go Go.ChangeShapes Go.WideShapes Go.ChangeAt Go.RowKit Go.Proofs.YtmgeecdgebemdaaGreatDoor.row Go.Proofs.YtmgeecdgebemdaaGreatDoor.val Go.Proofs.YtmgeecdgebemdaaGreatDoor.expr
end Go.Proofs.YtmgeecdgebemdaaGreatDoor.exe

/- The model's l12Effect, TaskEffect, SensesOf: what the plain relations say, in new memory; nothing that was there is written. -/
namespace Go.Proofs.YtmgeecdgebemdaaGreatDoor.exe
open Go Go.ChangeShapes Go.WideShapes Go.ChangeAt Go.RowKit Go.Proofs.YtmgeecdgebemdaaGreatDoor.row Go.Proofs.YtmgeecdgebemdaaGreatDoor.val Go.Proofs.YtmgeecdgebemdaaGreatDoor.expr Go.Proofs.YtmgeecdgebemdaaGreatDoor.stm Go.Proofs.YtmgeecdgebemdaaGreatDoor.blk Go.Proofs.YtmgeecdgebemdaaGreatDoor.prg Go.Proofs.YtmgeecdgebemdaaGreatDoor.sets
end Go.Proofs.YtmgeecdgebemdaaGreatDoor.exe

/- Chapter 9's MemVars, MemSent and MemNew at every row of numbers: the program's and the model's answers are the same lists. -/
namespace Go.Proofs.YtmgeecdgebemdaaGreatDoor.mem
open Go.ChangeShapes Go.WideShapes Go.ChangeAt Go.RowKit Go.Proofs.YtmgeecdgebemdaaGreatDoor.row Go.Proofs.YtmgeecdgebemdaaGreatDoor.val Go.Proofs.YtmgeecdgebemdaaGreatDoor.expr Go.Proofs.YtmgeecdgebemdaaGreatDoor.ctl
end Go.Proofs.YtmgeecdgebemdaaGreatDoor.mem

/- append of a slice that the caller owns, nil or not; the head of a row of numbers; the load of a struct behind a test that holds. -/
namespace Go.Proofs.YtmgeecdgebemdaaGreatDoor.aps
open Go Go.ChangeShapes Go.WideShapes Go.ChangeAt Go.RowKit Go.Proofs.YtmgeecdgebemdaaGreatDoor.row
section
variable {P : Program} (w : World)
theorem run_append_src (t ty : TypeId) (base base2 : Nat) (e : TypeId) (i : TypeInfo) (z : Value) (size bytes : Nat) (ht : P.underlying t = some (.slice e)) (hi : P.info? e = some i) (hz : i.zero = some z)
    (hsize : i.size = size) (hby : i.bytes = bytes) (hzs : z.cells.size = size) (hsz : 0 < size)
    (v : Value) (n : Nat) (xs : List Value) (hown : w.ownsRow base e size v n xs) (vx : Value) (m : Nat) (ys : List Value) (hX : w.ownsRow base2 e size vx m ys) (h1 : ∀ u ∈ ys, u.oneCell' = true)
    (h63 : n + m ≤ maxLen) (hbytes : (n + m) * bytes ≤ 140737488355328) (hbase : base ≤ w.heap.size) :
    ∃ v' w', (Builtin.append_ #[t, t] ty #[v, vx]).run P w = .ok v' w' ∧ w'.ownsRow base e size v' (n + m) (xs ++ ys) ∧ w.grownBy w' v.ownBlock ∧ (v'.ownBlock = v.ownBlock ∨ v'.ownBlock = some w.heap.size) := by
  rcases hX.2 with ⟨rfl, rfl⟩ | ⟨g, cap, cur, rfl, _⟩
  · have hy : ys = [] := List.eq_nil_of_length_eq_zero (by have := hX.1; simpa using this)
    subst hy
    exact ⟨v, w, run_append_owned_none (P := P) (w := w) base t ty e i size ht hi v n xs hown, by simpa using hown, ⟨rfl, rfl, rfl, Nat.le_refl _, fun _ _ _ => rfl⟩, .inl rfl⟩
  · obtain ⟨v', w', hr, h2, h3, _, h5⟩ := run_append_own_at (P := P) w base t ty e i z size bytes ht hi hz hsize hby hzs hsz v n xs hown ⟨g, 0, none⟩ m cap ys hX.1 (hX.cells (g := g) rfl) h1 h63 hbytes hbase
    exact ⟨v', w', hr, h2, h3, h5⟩
theorem step_append_src {ops : Array Oper} {o : Oper} {a : Act} {K : Act → World → Prop} {Q : Exit → Act → World → Prop} {E : Prop} (hgd : o.guard = none) (s x : Operand) (t : TypeId)
    (ho : o.op = .call { callee := .builtin .append, args := #[s, x], argTypes := #[t, t] })
    (base base2 : Nat) (e : TypeId) (i : TypeInfo) (z : Value) (size bytes : Nat) (ht : P.underlying t = some (.slice e)) (hi : P.info? e = some i) (hz : i.zero = some z)
    (hsize : i.size = size) (hby : i.bytes = bytes) (hzs : z.cells.size = size) (hsz : 0 < size)
    (v : Value) (n : Nat) (xs : List Value) (hs : a.eval s = v) (hown : w.ownsRow base e size v n xs) (vx : Value) (m : Nat) (ys : List Value) (hx : a.eval x = vx) (hX : w.ownsRow base2 e size vx m ys) (h1 : ∀ u ∈ ys, u.oneCell' = true)
    (h63 : n + m ≤ maxLen) (hbytes : (n + m) * bytes ≤ 140737488355328) (hbase : base ≤ w.heap.size)
    (h : ∀ v' w', w'.ownsRow base e size v' (n + m) (xs ++ ys) → w.grownBy w' v.ownBlock → (v'.ownBlock = v.ownBlock ∨ v'.ownBlock = some w.heap.size) → K (a.put o.dst v') w') :
    if Region.wanted o (yielded ops a.tmps) = true then Oper.wp P o a w K Q else E := by
  have hw : Region.wanted o (yielded ops a.tmps) = true := by simp [Region.wanted, hgd]
  rw [if_pos hw]
  obtain ⟨v', w', hr, h2, h3, h4⟩ := run_append_src (P := P) w t o.type base base2 e i z size bytes ht hi hz hsize hby hzs hsz v n xs hown vx m ys hX h1 h63 hbytes hbase
  unfold Oper.wp execOp
  simp only [ho, resolve, invoke, builtin, Sem.run_bind, Sem.run_pure, Result.andThen_ok, List.map_toArray, List.map_cons, List.map_nil, hs, hx, hr]
  exact h v' w' h2 h3 h4
end
theorem made_ati (w : World) (k B : Nat) (hk : w.heap.size = k) (hB : B ≤ k) (e : TypeId) : (w.alloc (.cells #[] e)).ownsRow B e 1 (.slice (some ⟨k, 0, none⟩) 0 0) 0 [] := by
  subst hk; exact World.ownsRow_made w #[] 0 hB (Nat.zero_le _) rfl
theorem own_sliceA {w : World} {B : Nat} {ty : TypeId} {v : Value} {n : Nat} {xs : List Value} (h : w.ownsRow B ty 1 v n xs) : ∃ ad cap, v = .slice ad n cap ∧ n ≤ cap ∧ (0 < n → ∃ g, ad = some ⟨g, 0, none⟩) := by
  rcases h.2 with ⟨e, e0⟩ | ⟨g, c, cur, e, _, _, hnc, _⟩
  · exact ⟨_, _, by rw [e, e0], by omega, fun h0 => by omega⟩
  · exact ⟨_, _, e, hnc, fun _ => ⟨g, rfl⟩⟩
theorem ivs_one (A : List Int) : ∀ u ∈ ivs A, u.oneCell' = true := by
  intro u hu
  obtain ⟨x, _, rfl⟩ := List.mem_map.1 hu
  rfl
theorem elemI : Tryz.prog.underlying 27 = some (.slice (Tryz.prog.elem 27)) := by kernel_rfl
theorem sizeI (w : World) : (sizeOf (Tryz.prog.elem 27)).run Tryz.prog w = .ok 1 w := by kernel_rfl
end Go.Proofs.YtmgeecdgebemdaaGreatDoor.aps
