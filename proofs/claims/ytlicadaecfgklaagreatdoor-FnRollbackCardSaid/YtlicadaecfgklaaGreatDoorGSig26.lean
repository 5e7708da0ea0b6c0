/- Several texts in one: LogB LogI ApS. -/
import Derived.Test.YtlicadaecfgklaaGreatDoorGSig19
import Derived.Test.YtlicadaecfgklaaGreatDoorGSig18
import Derived.Test.YtlicadaecfgklaaGreatDoorGSig25
import Derived.Test.YtlicadaecfgklaaGreatDoorGSig24
import Derived.Deep.RegionHeld3
import Derived.Test.YtlicadaecfgklaaGreatDoorGSig6
import Derived.Maps.AppendAt
import Derived.Laws.AppendOwnNone
import Derived.Lib.SliceRun
import Derived.RegionTactic

/- The model's MustLog, NeedsLog, IsRestartable, LogRoom: what the plain relations say; nothing that was there is written. -/
namespace Go.Proofs.YtlicadaecfgklaaGreatDoor.sets
open Go Go.ChangeShapes Go.WideShapes Go.ChangeAt Go.RowKit Go.Proofs.YtlicadaecfgklaaGreatDoor.row Go.Proofs.YtlicadaecfgklaaGreatDoor.val Go.Proofs.YtlicadaecfgklaaGreatDoor.stm Go.Proofs.YtlicadaecfgklaaGreatDoor.blk Go.Proofs.YtlicadaecfgklaaGreatDoor.expr Go.Proofs.YtlicadaecfgklaaGreatDoor.prg

theorem tf_yes {L : List Int} {k : Nat} {x : Int} {p : Int → Bool} (hx : L[k]? = some x) (hp : p x = true) : (L.take (k + 1)).filter p = (L.take k).filter p ++ [x] := by
  rw [List.take_add_one, hx]; simp [List.filter_append, hp]
theorem tf_no {L : List Int} {k : Nat} {x : Int} {p : Int → Bool} (hx : L[k]? = some x) (hp : p x = false) : (L.take (k + 1)).filter p = (L.take k).filter p := by
  rw [List.take_add_one, hx]; simp [List.filter_append, hp]
theorem tf_len (L : List Int) (k : Nat) (p : Int → Bool) : ((L.take k).filter p).length ≤ L.length := Nat.le_trans (List.length_filter_le _ _) (by rw [List.length_take]; omega)
/-- The task is valid and logs nothing. -/
def RestP (t : Tk) : Prop := (IsBlk t.b ∧ exprOk t.o t.x t.y = true) ∧ logN t = 0
theorem rest_ex (t : Tk) : ∃ r : Bool, r = true ↔ RestP t := by
  classical exact ⟨decide (RestP t), decide_eq_true_iff⟩
theorem need_ex (t : Tk) (q : Int) : ∃ r : Bool, decide (q ∈ lst (logF t) 8) = r := ⟨_, rfl⟩
set_option maxHeartbeats 8000000 in
set_option maxRecDepth 100000 in
theorem spec_l08ok (ab : Option Addr) (nb cb : Nat) (t : Tk) (hn : (nb : Int) ≤ 1048576) (w : World) (h : StRow w ab nb t.b) (r : Bool) (hr : r = true ↔ (IsBlk t.b ∧ exprOk t.o t.x t.y = true)) :
    Calls Tryz.prog 162 #[tkV ab nb cb t] w (BelB w r) := by
  obtain ⟨B, o, x, y⟩ := t
  obtain ⟨W, hW⟩ : ∃ W, W = w.alloc (.cells #[.slice ab nb cb, .int .i64 o, .int .i64 x, .int .i64 y] 74) := ⟨_, rfl⟩
  have hbx : Box w.heap.size #[.slice ab nb cb, .int .i64 o, .int .i64 x, .int .i64 y] 74 W := by rw [hW]; exact Box.new _ _ _
  have hBW : Below w.heap.size w W := by rw [hW]; exact below_new _ _
  have H := Lib.hid (And.intro hBW (h.below hBW))
  have HX := Lib.hid hbx
  have HW := Lib.hid hW.symm
  have c0 : W.cell? ⟨w.heap.size, 0, none⟩ = some (.slice ab nb cb) := hbx.cell 0
  obtain ⟨rb, hrb⟩ := blk_dec B
  have HRB := Lib.hid hrb
  clear h hbx hBW hW
  cases rb
  · have hrf : r = false := by rw [← Bool.not_eq_true]; intro e; have := hrb.2 (hr.1 e).1; cases this
    clear hrb hr
    subst hrf
    go_enter Tryz.func162, Tryz.ntmps162
    go_wp2_with (go_at_call 115; rw [HW.out]; (with_reducible refine (spec_blockok ab nb cb B hn _ H.out.2 false HRB.out).mono ?_); rintro e w2 ⟨rfl, hb2⟩)
    go_ret
    exact ⟨rfl, below_then H.out.1 hb2⟩
  · have hre : exprOk o x y = r := by
      have h1 := hrb.1 rfl
      cases r
      · rw [← Bool.not_eq_true]; intro e; have := hr.2 ⟨h1, e⟩; cases this
      · exact (hr.1 rfl).2
    have HRE := Lib.hid hre
    clear hrb hr hre
    go_enter Tryz.func162, Tryz.ntmps162
    go_wp2_with (go_at_call 115; rw [HW.out]; (with_reducible refine (spec_blockok ab nb cb B hn _ H.out.2 true HRB.out).mono ?_); rintro e w2 ⟨rfl, hb2⟩; refine Hid.out ?_)
    have HX2 := Lib.hid (HX.out.below hb2)
    have d1 : w2.cell? ⟨w.heap.size, 1, none⟩ = some (.int .i64 o) := HX2.out.cell 1
    have d2 : w2.cell? ⟨w.heap.size, 2, none⟩ = some (.int .i64 x) := HX2.out.cell 2
    have d3 : w2.cell? ⟨w.heap.size, 3, none⟩ = some (.int .i64 y) := HX2.out.cell 3
    have HB2 := Lib.hid (below_then H.out.1 hb2)
    clear hb2
    refine Lib.hid ?_
    go_wp2_with (go_at_call 116; (with_reducible refine (spec_exprok o x y r HRE.out _).mono ?_); rintro e w3 ⟨rfl, hb3⟩)
    go_ret
    exact ⟨rfl, below_then HB2.out hb3⟩
/-- A row in a block of its own between 'lo' and 'hi'. -/
def OwnIn (w : World) (lo hi : Nat) (a : Option Addr) (n c : Nat) (L : List Int) : Prop := w.ownsRow lo 3 1 (.slice a n c) n (ivs L) ∧ ∀ q, (Value.slice a n c).ownBlock = some q → lo ≤ q ∧ q < hi
theorem OwnIn.kept {w w' : World} {lo hi g : Nat} {a : Option Addr} {n c : Nat} {L : List Int} (h : OwnIn w lo hi a n c L) (hg : w.grownBy w' (some g)) (hne : g < lo ∨ hi ≤ g) : OwnIn w' lo hi a n c L := by
  refine ⟨h.1.kept hg ?_, h.2⟩
  cases hq : (Value.slice a n c).ownBlock with
  | none => exact .inl rfl
  | some q => right; intro e; have := h.2 q hq; have := Option.some.inj e; omega
theorem OwnIn.below {w w' : World} {lo hi : Nat} {a : Option Addr} {n c : Nat} {L : List Int} (h : OwnIn w lo hi a n c L) (hb : Below w.heap.size w w') : OwnIn w' lo hi a n c L :=
  ⟨h.1.kept (grown_below hb none) (by cases hq : (Value.slice a n c).ownBlock <;> simp), h.2⟩
theorem OwnIn.of {w : World} {lo lo' : Nat} {a : Option Addr} {n c : Nat} {L : List Int} (h : w.ownsRow lo 3 1 (.slice a n c) n (ivs L)) (hl : lo' ≤ lo) : OwnIn w lo' w.heap.size a n c L :=
  ⟨h.mono hl, fun q hq => by have := h.lt q hq; omega⟩
theorem OwnIn.mono {w : World} {lo hi hi' : Nat} {a : Option Addr} {n c : Nat} {L : List Int} (h : OwnIn w lo hi a n c L) (hl : hi ≤ hi') : OwnIn w lo hi' a n c L :=
  ⟨h.1, fun q hq => by have := h.2 q hq; omega⟩
/-- What stays while the model's loop appends: three rows; nothing below 'w' is written. -/
def KeptL (w w6 wr : World) (a4 : Option Addr) (n4 c4 : Nat) (a5 : Option Addr) (n5 c5 : Nat) (a6 : Option Addr) (n6 c6 : Nat) (lo : Nat) (fm fu ff : Nat → Bool) : Prop :=
  OwnIn wr lo w6.heap.size a4 n4 c4 (lst fm 8) ∧ OwnIn wr lo w6.heap.size a5 n5 c5 (lst fu 8) ∧ OwnIn wr lo w6.heap.size a6 n6 c6 (lst ff 8) ∧ (Below w.heap.size w wr ∧ w.heap.size + 1 < lo ∧ lo ≤ w6.heap.size) ∧ w6.heap.size ≤ wr.heap.size
theorem KeptL.next {w w6 wr w1 w4 : World} {a4 a5 a6 : Option Addr} {n4 c4 n5 c5 n6 c6 lo g m c : Nat} {fm fu ff : Nat → Bool} (h : KeptL w w6 wr a4 n4 c4 a5 n5 c5 a6 n6 c6 lo fm fu ff) (hb : Below wr.heap.size wr w1) (hg : w1.grownBy w4 (Value.slice (some ⟨g, 0, none⟩) m c).ownBlock) (hgg : g = w.heap.size + 1 ∨ w6.heap.size ≤ g) :
    KeptL w w6 w4 a4 n4 c4 a5 n5 c5 a6 n6 c6 lo fm fu ff := by
  have hne : g < lo ∨ w6.heap.size ≤ g := by have := h.2.2.2.1.2.1; omega
  have hs1 := hb.size
  have hs2 := hg.size
  have hs3 := h.2.2.2.1.1.size
  have hs4 := h.2.2.2.2
  refine ⟨(h.1.below hb).kept hg hne, (h.2.1.below hb).kept hg hne, (h.2.2.1.below hb).kept hg hne, ⟨(h.2.2.2.1.1.trans (hb.mono hs3)).grown hg (by omega) (fun j hj => ?_), h.2.2.2.1.2⟩, by omega⟩
  have : g = j := Option.some.inj hj
  have := h.2.2.2.1.2
  omega
theorem own_next {wr w4 : World} {b lo6 g m c k : Nat} {v4 : Value} {x : Value} {ty : TypeId} {e : TypeId} {s n4 : Nat} {xs : List Value} (_ : w4.ownsRow b e s v4 n4 xs) (hat : v4.ownBlock = (Value.slice (some ⟨g, 0, none⟩) m c).ownBlock ∨ v4.ownBlock = some (wr.alloc (.cells #[x] ty)).heap.size) (hg : g = k ∨ lo6 ≤ g) (hs : lo6 ≤ wr.heap.size) :
    ∀ g4, v4.ownBlock = some g4 → g4 = k ∨ lo6 ≤ g4 := fun g4 h4 => by
  rcases hat with h | h
  · rw [h4] at h
    have : g4 = g := Option.some.inj h
    omega
  · rw [h4, World.size_alloc] at h
    have := Option.some.inj h
    omega
set_option maxHeartbeats 8000000 in
set_option maxRecDepth 100000 in
theorem spec_mustlog (ab : Option Addr) (nb cb : Nat) (t : Tk) (hn : (nb : Int) ≤ 1048576) (w : World) (h : StRow w ab nb t.b) (f : Nat → Bool) (hf : Is f (LogP t)) :
    Calls Tryz.prog 123 #[tkV ab nb cb t] w (NewInts w (lst f 8)) := by
  obtain ⟨i0, hi, hz0, hz1, hz2⟩ := info_parts infoInt
  obtain ⟨r, hr⟩ := tsk_dec t
  have HTO := Lib.hid (show ∀ w', StRow w' ab nb t.b → Calls Tryz.prog 162 #[tkV ab nb cb t] w' (BelB w' r) from fun w' h' => spec_l08ok ab nb cb t hn w' h' r hr)
  obtain ⟨W, hW⟩ : ∃ W, (w.alloc (.cells #[.slice ab nb cb, .int .i64 t.o, .int .i64 t.x, .int .i64 t.y] 74)).alloc (.cells #[] 3) = W := ⟨_, rfl⟩
  have hbx : Box w.heap.size #[.slice ab nb cb, .int .i64 t.o, .int .i64 t.x, .int .i64 t.y] 74 W := by rw [← hW]; exact (Box.new _ _ _).alloc _
  have hBW : Below w.heap.size w W := by rw [← hW]; exact below_then (below_new _ _) (below_new _ _)
  have hO : W.ownsRow w.heap.size 3 1 (.slice (some ⟨w.heap.size + 1, 0, none⟩) 0 0) 0 (ivs []) := by
    have h9 := World.ownsRow_made (base := w.heap.size) (e := 3) (size := 1) (w.alloc (.cells #[.slice ab nb cb, .int .i64 t.o, .int .i64 t.x, .int .i64 t.y] 74)) #[] 0 (by simp) (by decide) rfl
    rw [World.size_alloc] at h9
    rw [← hW]; exact h9
  have hWs : W.heap.size = w.heap.size + 2 := by rw [← hW]; simp
  have H := Lib.hid (And.intro hbx (And.intro hBW (And.intro (h.below hBW) hO)))
  have HF := Lib.hid hf
  have hlen : t.b.length = nb := h.1
  clear h hbx hBW hO hf
  cases r
  · have HFL := Lib.hid (show lst f 8 = [] from log_none (fun h => by have := hr.2 h; cases this) HF.out)
    clear hr
    go_enter Tryz.func123, Tryz.ntmps123
    go_wp2_with (first
      | (refine wpList_load_row rfl 74 _ rfl w.heap.size rfl _ _ _ _ H.out.1 Tryz.underlying74 rfl (by kernel_rfl) ?_)
      | (go_at_call 162; (with_reducible refine (HTO.out _ H.out.2.2.1).mono ?_); rintro e w2 ⟨rfl, hb2⟩))
    go_ret
    exact ⟨_, _, _, rfl, by rw [HFL.out]; exact H.out.2.2.2.kept (grown_below hb2 none) (by simp [Value.ownBlock]), below_then H.out.2.1 hb2⟩
  · have HT := Lib.hid (hr.1 rfl)
    obtain ⟨fm, hfm⟩ := is_ex (fun v => IsBlk t.b ∧ MayTo t.b nb v)
    obtain ⟨fu, hfu⟩ := is_ex (fun v => IsBlk t.b ∧ WAt t.b nb v)
    obtain ⟨ff, hff⟩ := is_ex (FirstP t)
    have HLF := Lib.hid (show (lst fm 8).filter (fun x => decide (x ∈ lst ff 8) || !decide (x ∈ lst fu 8)) = lst f 8 from log_model HT.out (by rw [hlen]; exact hfm) (by rw [hlen]; exact hfu) hff HF.out)
    have HFM := Lib.hid (And.intro hfm (And.intro hfu hff))
    clear hr hfm hfu hff
    go_enter Tryz.func123, Tryz.ntmps123
    go_wp2_with (first
      | (refine wpList_load_row rfl 74 _ rfl w.heap.size rfl _ _ _ _ H.out.1 Tryz.underlying74 rfl (by kernel_rfl) ?_)
      | (go_at_call 162; (with_reducible refine (HTO.out _ H.out.2.2.1).mono ?_); rintro e w2 ⟨rfl, hb2⟩; refine Hid.out ?_))
    have H2 := Lib.hid (And.intro (H.out.1.below hb2) (And.intro (below_then H.out.2.1 hb2) (And.intro (H.out.2.2.1.below hb2) (H.out.2.2.2.kept (grown_below hb2 none) (by simp [Value.ownBlock])))))
    have hs2 := hb2.size
    have c0 : w2.cell? ⟨w.heap.size, 0, none⟩ = some (.slice ab nb cb) := H2.out.1.cell 0
    clear hb2
    refine Lib.hid ?_
    go_wp2_with (go_at_call 163; (with_reducible refine (spec_maywrite ab nb cb t.b hn _ H2.out.2.2.1 fm HFM.out.1).mono ?_); rintro e w4 ⟨a4, n4, c4, rfl, ho4, hb4⟩; refine Hid.out ?_)
    have hn4 : n4 ≤ 8 := by have h1 := own_len ho4; have h2 := lst_len fm 8; omega
    have hs4 := hb4.size
    have H4 := Lib.hid (And.intro (H2.out.1.below hb4) (And.intro (below_then H2.out.2.1 hb4) (And.intro (H2.out.2.2.1.below hb4) (And.intro (H2.out.2.2.2.kept (grown_below hb4 none) (by simp [Value.ownBlock])) (OwnIn.of ho4 (Nat.le_refl _))))))
    have d0 : w4.cell? ⟨w.heap.size, 0, none⟩ = some (.slice ab nb cb) := H4.out.1.cell 0
    clear hb4 ho4 c0
    refine Lib.hid ?_
    go_wp2_with (go_at_call 164; (with_reducible refine (spec_mustwrite ab nb cb t.b hn _ H4.out.2.2.1 fu HFM.out.2.1).mono ?_); rintro e w5 ⟨a5, n5, c5, rfl, ho5, hb5⟩; refine Hid.out ?_)
    have hn5 : n5 ≤ 8 := by have h1 := own_len ho5; have h2 := lst_len fu 8; omega
    have hs5 := hb5.size
    have H5 := Lib.hid (And.intro (H4.out.1.below hb5) (And.intro (below_then H4.out.2.1 hb5) (And.intro (H4.out.2.2.1.below hb5) (And.intro (H4.out.2.2.2.1.kept (grown_below hb5 none) (by simp [Value.ownBlock])) (And.intro (H4.out.2.2.2.2.below hb5) (OwnIn.of ho5 hs4))))))
    clear hb5 ho5 d0
    refine Lib.hid ?_
    go_wp2_with (first
      | (refine wpList_load_row rfl 74 _ rfl w.heap.size rfl _ _ _ _ H5.out.1 Tryz.underlying74 rfl (by kernel_rfl) ?_)
      | (go_at_call 165; (with_reducible refine (spec_mayread ab nb cb t hn _ H5.out.2.2.1 ff HFM.out.2.2).mono ?_); rintro e w6 ⟨a6, n6, c6, rfl, ho6, hb6⟩; refine Hid.out ?_))
    have hn6 : n6 ≤ 8 := by have h1 := own_len ho6; have h2 := lst_len ff 8; omega
    have hs6 := hb6.size
    obtain ⟨lo, hlo⟩ : ∃ lo, lo = w2.heap.size := ⟨_, rfl⟩
    have hlw : w.heap.size + 1 < lo := by omega
    have H6 := Lib.hid (And.intro (H5.out.2.2.2.1.kept (grown_below hb6 none) (by simp [Value.ownBlock])) (show KeptL w w6 w6 a4 n4 c4 a5 n5 c5 a6 n6 c6 lo fm fu ff from ⟨hlo ▸ (H5.out.2.2.2.2.1.below hb6).mono (by omega), hlo ▸ (H5.out.2.2.2.2.2.below hb6).mono hs6, hlo ▸ OwnIn.of ho6 (by omega), ⟨below_then H5.out.2.1 hb6, hlw, by omega⟩, Nat.le_refl _⟩))
    clear hb6 ho6 hlo hWs hW
    refine Lib.hid ?_
    go_wp2
    go_loopw [3, 7] (fun v i wr => ∃ (k n g c : Nat), k ≤ n4 ∧ i = .int .i64 k ∧ v = .slice (some ⟨g, 0, none⟩) n c ∧ Hid (wr.ownsRow w.heap.size 3 1 (.slice (some ⟨g, 0, none⟩) n c) n (ivs (((lst fm 8).take k).filter (fun x => decide (x ∈ lst ff 8) || !decide (x ∈ lst fu 8))))) ∧ (g = w.heap.size + 1 ∨ w6.heap.size ≤ g) ∧ Hid (KeptL w w6 wr a4 n4 c4 a5 n5 c5 a6 n6 c6 lo fm fu ff)) (fun _ i _ => n4 - (intOf i).toNat)
    case atStart => exact ⟨0, 0, w.heap.size + 1, 0, Nat.zero_le _, rfl, rfl, H6.out.1, .inl rfl, H6.out.2⟩
    case round =>
      obtain ⟨k, n, g, c, hk, rfl, rfl, HO, hg, HR⟩ := hrel
      have hnl : n ≤ 8 := by have h1 := own_len HO.out; have h2 := tf_len (lst fm 8) k (fun x => decide (x ∈ lst ff 8) || !decide (x ∈ lst fu 8)); have h3 := lst_len fm 8; omega
      by_cases hlt : k < n4
      · have hI : (k : Int) < n4 := by omega
        have HRF := Lib.hid (Row.of_own HR.out.2.2.1.1)
        have HRU := Lib.hid (Row.of_own HR.out.2.1.1)
        obtain ⟨b, off, x, ha, hlb, hx, hc⟩ := (Row.of_own HR.out.1.1).2 k hlt
        subst ha
        have hws := HR.out.2.2.2.1.1.size
        cases hr1 : decide (x ∈ lst ff 8)
        · have HP1 := Lib.hid hr1
          clear hr1
          cases hr2 : decide (x ∈ lst fu 8)
          · have HP2 := Lib.hid hr2
            clear hr2
            have HG := Lib.hid (tf_yes (p := fun x => decide (x ∈ lst ff 8) || !decide (x ∈ lst fu 8)) hx (by simp [HP1.out, HP2.out]))
            clear hx
            go_wp2_with (first
              | (go_at_call 166; (with_reducible refine (spec_hasvar wr a6 n6 c6 (lst ff 8) x false (by omega) HRF.out HP1.out).mono ?_); rintro e wz ⟨rfl, rfl⟩)
              | (go_at_call 166; (with_reducible refine (spec_hasvar wr a5 n5 c5 (lst fu 8) x false (by omega) HRU.out HP2.out).mono ?_); rintro e wz ⟨rfl, rfl⟩)
              | (at_builtin; refine wpList_append_own_at _ rfl _ _ 27 rfl w.heap.size 3 i0 (.int .i64 0) 1 8 Tryz.underlying27 hi hz0 hz1 hz2 rfl (by decide) _ _ _ rfl (HO.out.alloc _) ⟨wr.heap.size, 0, none⟩ 1 1 [.int .i64 x] rfl rfl (World.news_of_block (cs := #[.int .i64 x]) (t := 3) (fr := (0, 0)) (heap_alloc_new wr _)) (by simp [Value.oneCell']) (by unfold maxLen; omega) (by omega) (by simp; omega) ?_; intro v4 w4 hown4 hgrow4 _ hat4; refine Hid.out ?_))
            rw [ivs_snoc, ← HG.out] at hown4
            have hB4 := below_new wr (.cells #[.int .i64 x] 3)
            have e4 := own_next hown4 hat4 hg HR.out.2.2.2.2
            have K4 := Lib.hid (HR.out.next hB4 hgrow4 hg)
            obtain ⟨g4, cp4, rfl, hg4, _⟩ := hown4.form (by omega)
            have HO4 := Lib.hid hown4
            have hgg := e4 g4 rfl
            clear hown4 hgrow4 hat4 hB4 e4 hc
            refine Lib.hid ?_
            go_wp2
            go_roundw
            case rel => exact ⟨k + 1, n + 1, g4, cp4, by omega, by go_num, rfl, HO4, hgg, K4⟩
            case measure => simp [intOf]; omega
          · have HP2 := Lib.hid hr2
            clear hr2
            have HG := Lib.hid (tf_no (p := fun x => decide (x ∈ lst ff 8) || !decide (x ∈ lst fu 8)) hx (by simp [HP1.out, HP2.out]))
            rw [← HG.out] at HO
            clear hx
            go_wp2_with (first
              | (go_at_call 166; (with_reducible refine (spec_hasvar wr a6 n6 c6 (lst ff 8) x false (by omega) HRF.out HP1.out).mono ?_); rintro e wz ⟨rfl, rfl⟩)
              | (go_at_call 166; (with_reducible refine (spec_hasvar wr a5 n5 c5 (lst fu 8) x true (by omega) HRU.out HP2.out).mono ?_); rintro e wz ⟨rfl, rfl⟩))
            go_roundw
            case rel => exact ⟨k + 1, n, g, c, by omega, by go_num, rfl, HO, hg, HR⟩
            case measure => simp [intOf]; omega
        · have HP1 := Lib.hid hr1
          clear hr1
          have HG := Lib.hid (tf_yes (p := fun x => decide (x ∈ lst ff 8) || !decide (x ∈ lst fu 8)) hx (by simp [HP1.out]))
          clear hx
          go_wp2_with (first
            | (go_at_call 166; (with_reducible refine (spec_hasvar wr a6 n6 c6 (lst ff 8) x true (by omega) HRF.out HP1.out).mono ?_); rintro e wz ⟨rfl, rfl⟩)
            | (at_builtin; refine wpList_append_own_at _ rfl _ _ 27 rfl w.heap.size 3 i0 (.int .i64 0) 1 8 Tryz.underlying27 hi hz0 hz1 hz2 rfl (by decide) _ _ _ rfl (HO.out.alloc _) ⟨wr.heap.size, 0, none⟩ 1 1 [.int .i64 x] rfl rfl (World.news_of_block (cs := #[.int .i64 x]) (t := 3) (fr := (0, 0)) (heap_alloc_new wr _)) (by simp [Value.oneCell']) (by unfold maxLen; omega) (by omega) (by simp; omega) ?_; intro v4 w4 hown4 hgrow4 _ hat4; refine Hid.out ?_))
          rw [ivs_snoc, ← HG.out] at hown4
          have hB4 := below_new wr (.cells #[.int .i64 x] 3)
          have e4 := own_next hown4 hat4 hg HR.out.2.2.2.2
          have K4 := Lib.hid (HR.out.next hB4 hgrow4 hg)
          obtain ⟨g4, cp4, rfl, hg4, _⟩ := hown4.form (by omega)
          have HO4 := Lib.hid hown4
          have hgg := e4 g4 rfl
          clear hown4 hgrow4 hat4 hB4 e4 hc
          refine Lib.hid ?_
          go_wp2
          go_roundw
          case rel => exact ⟨k + 1, n + 1, g4, cp4, by omega, by go_num, rfl, HO4, hgg, K4⟩
          case measure => simp [intOf]; omega
      · obtain rfl : k = n4 := by omega
        have hI : ¬ (k : Int) < k := by omega
        have hl4 := own_len HR.out.1.1
        go_wp2
        go_ret
        refine ⟨_, _, _, rfl, ?_, HR.out.2.2.2.1.1⟩
        have h9 := HO.out
        rw [List.take_of_length_le (by omega), HLF.out] at h9
        exact h9
end Go.Proofs.YtlicadaecfgklaaGreatDoor.sets

/- The program's without, MustLog, NeedsLog, IsRestartable, LogRoom: what the plain relations say; nothing that was there is written. -/
namespace Go.Proofs.YtlicadaecfgklaaGreatDoor.sets
open Go Go.ChangeShapes Go.WideShapes Go.ChangeAt Go.RowKit Go.Proofs.YtlicadaecfgklaaGreatDoor.row Go.Proofs.YtlicadaecfgklaaGreatDoor.val Go.Proofs.YtlicadaecfgklaaGreatDoor.stm Go.Proofs.YtlicadaecfgklaaGreatDoor.blk Go.Proofs.YtlicadaecfgklaaGreatDoor.expr Go.Proofs.YtlicadaecfgklaaGreatDoor.prg

theorem below_grow1 {w wr w4 : World} {g m c n : Nat} {xs : List Value} {x : Value} {ty e : TypeId} {s : Nat} (hb : Below w.heap.size w wr) (ho : wr.ownsRow w.heap.size e s (.slice (some ⟨g, 0, none⟩) m c) n xs) (hg : (wr.alloc (.cells #[x] ty)).grownBy w4 (Value.slice (some ⟨g, 0, none⟩) m c).ownBlock) : Below w.heap.size w w4 :=
  (below_then hb (below_new wr _)).grown hg (by have := hb.size; simp; omega) (fun j hj => (ho.lt j hj).1)
set_option maxHeartbeats 8000000 in
set_option maxRecDepth 100000 in
theorem impl_without (a : Option Addr) (na ca : Nat) (L : List Int) (ab : Option Addr) (nb cb : Nat) (B : List Int) (hna : (na : Int) ≤ 1048576) (hnb : (nb : Int) ≤ 1048576) (w : World) (hL : Row w a na L) (hB : Row w ab nb B) :
    Calls Tryz.prog 59 #[.slice a na ca, .slice ab nb cb] w (NewInts w (L.filter (fun x => !decide (x ∈ B)))) := by
  obtain ⟨i0, hi, hz0, hz1, hz2⟩ := info_parts infoInt
  have HL := Lib.hid hL
  have HB := Lib.hid hB
  have hlen := hL.1
  clear hL hB
  go_enter Tryz.func59, Tryz.ntmps59
  go_wp2
  go_loopw [5, 7, 11] (fun v _ i wr => ∃ (k n g c : Nat), k ≤ na ∧ i = .int .i64 k ∧ v = .slice (some ⟨g, 0, none⟩) n c ∧ Hid (wr.ownsRow w.heap.size 3 1 (.slice (some ⟨g, 0, none⟩) n c) n (ivs ((L.take k).filter (fun x => !decide (x ∈ B))))) ∧ Hid (Below w.heap.size w wr)) (fun _ _ i _ => na - (intOf i).toNat)
  case atStart => exact ⟨0, 0, w.heap.size, 0, Nat.zero_le _, rfl, rfl, World.ownsRow_made w #[] 0 (Nat.le_refl _) (by decide) rfl, below_new w _⟩
  case round =>
    obtain ⟨k, n, g, c, hk, rfl, rfl, HO, HR⟩ := hrel
    have hnl : n ≤ na := by have h1 := own_len HO.out; have h2 := tf_len L k (fun x => !decide (x ∈ B)); omega
    by_cases hlt : k < na
    · have hI : (k : Int) < na := by omega
      have HRB := Lib.hid (HB.out.below HR.out)
      obtain ⟨b, off, x, rfl, hlb, hx, hc⟩ := (HL.out.below HR.out).2 k hlt
      have hws := HR.out.size
      cases hr : decide (x ∈ B)
      · have HP := Lib.hid hr
        clear hr
        have HG := Lib.hid (tf_yes (p := fun x => !decide (x ∈ B)) hx (by simp [HP.out]))
        clear hx
        go_wp2_with (first
          | (go_at_call 111; (with_reducible refine (contains_any wr ab nb cb B x false (by omega) HRB.out HP.out).mono ?_); rintro e wr ⟨rfl, rfl⟩)
          | (at_builtin; refine wpList_append_own_at _ rfl _ _ 27 rfl w.heap.size 3 i0 (.int .i64 0) 1 8 Tryz.underlying27 hi hz0 hz1 hz2 rfl (by decide) _ _ _ rfl (HO.out.alloc _) ⟨wr.heap.size, 0, none⟩ 1 1 [.int .i64 x] rfl rfl (World.news_of_block (cs := #[.int .i64 x]) (t := 3) (fr := (0, 0)) (heap_alloc_new wr _)) (by simp [Value.oneCell']) (by unfold maxLen; omega) (by omega) (by simp; omega) ?_; intro v4 w4 hown4 hgrow4 _ hat4; refine Hid.out ?_))
        rw [ivs_snoc, ← HG.out] at hown4
        have hb4 := below_grow1 HR.out HO.out hgrow4
        obtain ⟨g4, cp4, rfl, hg4, _⟩ := hown4.form (by omega)
        have HO4 := Lib.hid hown4
        have HR4 := Lib.hid hb4
        clear hown4 hgrow4 hat4 hb4 hc
        refine Lib.hid ?_
        go_wp2
        go_roundw
        case rel => exact ⟨k + 1, n + 1, g4, cp4, by omega, by go_num, rfl, HO4, HR4⟩
        case measure => simp [intOf]; omega
      · have HP := Lib.hid hr
        clear hr
        have HG := Lib.hid (tf_no (p := fun x => !decide (x ∈ B)) hx (by simp [HP.out]))
        rw [← HG.out] at HO
        clear hx
        go_wp2_with (first
          | (go_at_call 111; (with_reducible refine (contains_any wr ab nb cb B x true (by omega) HRB.out HP.out).mono ?_); rintro e wr ⟨rfl, rfl⟩))
        go_roundw
        case rel => exact ⟨k + 1, n, g, c, by omega, by go_num, rfl, HO, HR⟩
        case measure => simp [intOf]; omega
    · obtain rfl : k = na := by omega
      have hI : ¬ (k : Int) < k := by omega
      go_wp2
      go_ret
      refine ⟨_, _, _, rfl, ?_, HR.out⟩
      have h9 := HO.out
      rw [List.take_of_length_le (by omega)] at h9
      exact h9
theorem kept4 {w w' : World} {a : Nat} {x0 x1 x2 x3 : Value} (hb : Below w.heap.size w w') (ha : a < w.heap.size)
    (h : w.cell? ⟨a, 0, none⟩ = some x0 ∧ w.cell? ⟨a, 1, none⟩ = some x1 ∧ w.cell? ⟨a, 2, none⟩ = some x2 ∧ w.cell? ⟨a, 3, none⟩ = some x3) :
    w'.cell? ⟨a, 0, none⟩ = some x0 ∧ w'.cell? ⟨a, 1, none⟩ = some x1 ∧ w'.cell? ⟨a, 2, none⟩ = some x2 ∧ w'.cell? ⟨a, 3, none⟩ = some x3 := by
  have e : ∀ (o : Nat), w'.cell? ⟨a, o, none⟩ = w.cell? ⟨a, o, none⟩ := fun o => hb.cell (p := ⟨a, o, none⟩) ha
  rw [e 0, e 1, e 2, e 3]
  exact h
theorem filter_len8 (f : Nat → Bool) (p : Int → Bool) : ((lst f 8).filter p).length ≤ 8 := Nat.le_trans (List.length_filter_le _ _) (lst_len f 8)
set_option maxHeartbeats 8000000 in
set_option maxRecDepth 100000 in
theorem impl_mustlog (ab : Option Addr) (nb cb : Nat) (t : Tk) (hn : (nb : Int) ≤ 1048576) (hcap : nb ≤ cb) (w : World) (h : StRow w ab nb t.b) (f : Nat → Bool) (hf : Is f (LogP t)) :
    Calls Tryz.prog 46 #[tkV ab nb cb t] w (NewInts w (lst f 8)) := by
  obtain ⟨r, hr⟩ := tsk_dec t
  have HTO := Lib.hid (show ∀ w', StRow w' ab nb t.b → Calls Tryz.prog 93 #[tkV ab nb cb t] w' (BelB w' r) from fun w' h' => impl_taskok ab nb cb t hn w' h' r hr)
  have hlen : t.b.length = nb := h.1
  obtain ⟨W, hW⟩ : ∃ W, w.alloc (.cells #[.slice ab nb cb, .int .i64 t.o, .int .i64 t.x, .int .i64 t.y] 74) = W := ⟨_, rfl⟩
  have hbx : Box w.heap.size #[.slice ab nb cb, .int .i64 t.o, .int .i64 t.x, .int .i64 t.y] 74 W := by rw [← hW]; exact Box.new _ _ _
  have hBW : Below w.heap.size w W := by rw [← hW]; exact below_new _ _
  have H := Lib.hid (And.intro hbx (And.intro hBW (h.below hBW)))
  clear h hbx hBW
  have HF := Lib.hid hf
  clear hf
  cases r
  · have HFL := Lib.hid (show lst f 8 = [] from log_none (fun h => by have := hr.2 h; cases this) HF.out)
    clear hr
    go_enter Tryz.func46, Tryz.ntmps46
    go_wp2_with (first
      | (refine wpList_load_row rfl 74 _ rfl w.heap.size rfl _ _ _ _ H.out.1 Tryz.underlying74 rfl (by kernel_rfl) ?_)
      | (go_at_call 93; (with_reducible refine (HTO.out _ H.out.2.2).mono ?_); rintro e w2 ⟨rfl, hb2⟩))
    go_ret
    exact ⟨none, 0, 0, rfl, by rw [HFL.out]; exact World.ownsRow_nil _ _ _ _, below_then H.out.2.1 hb2⟩
  · have HT := Lib.hid (hr.1 rfl)
    obtain ⟨fm, hfm⟩ := is_ex (fun v => IsBlk t.b ∧ MayTo t.b nb v)
    obtain ⟨fu, hfu⟩ := is_ex (fun v => IsBlk t.b ∧ WAt t.b nb v)
    obtain ⟨ff, hff⟩ := is_ex (FirstP t)
    obtain ⟨K, hK⟩ : ∃ K, (lst fu 8).filter (fun y => !decide (y ∈ lst ff 8)) = K := ⟨_, rfl⟩
    have hK8 : K.length ≤ 8 := by rw [← hK]; exact filter_len8 _ _
    have HLF := Lib.hid (show (lst fm 8).filter (fun x => !decide (x ∈ K)) = lst f 8 from by rw [← hK]; exact log_prog HT.out (by rw [hlen]; exact hfm) (by rw [hlen]; exact hfu) hff HF.out)
    have HFM := Lib.hid (And.intro hfm (And.intro hfu hff))
    have HWI := Lib.hid (show ∀ (w' : World) (a1 : Option Addr) (m1 k1 : Nat) (a2 : Option Addr) (m2 k2 : Nat), (m1 : Int) ≤ 1048576 → (m2 : Int) ≤ 1048576 → Row w' a1 m1 (lst fu 8) → Row w' a2 m2 (lst ff 8) → Calls Tryz.prog 59 #[.slice a1 m1 k1, .slice a2 m2 k2] w' (NewInts w' K) from fun w' a1 m1 k1 a2 m2 k2 q1 q2 q3 q4 => by rw [← hK]; exact impl_without a1 m1 k1 _ a2 m2 k2 _ q1 q2 w' q3 q4)
    clear hr hfm hfu hff hK
    go_enter Tryz.func46, Tryz.ntmps46
    go_wp2_with (first
      | (refine wpList_load_row rfl 74 _ rfl w.heap.size rfl _ _ _ _ H.out.1 Tryz.underlying74 rfl (by kernel_rfl) ?_)
      | (go_at_call 93; (with_reducible refine (HTO.out _ H.out.2.2).mono ?_); rintro e w2 ⟨rfl, hb2⟩; refine Hid.out ?_))
    have H2 := Lib.hid (And.intro (H.out.1.below hb2) (And.intro (below_then H.out.2.1 hb2) (H.out.2.2.below hb2)))
    clear hb2 hW
    have HD := Lib.hid (show Below w2.heap.size w2 w2.drew from Below.drew (Below.refl _ w2))
    have HBX := Lib.hid (H2.out.1.below HD.out)
    have c8 : w2.drew.cell? ⟨w.heap.size, 0, none⟩ = some (.slice ab nb cb) ∧ w2.drew.cell? ⟨w.heap.size, 1, none⟩ = some (.int .i64 t.o) ∧ w2.drew.cell? ⟨w.heap.size, 2, none⟩ = some (.int .i64 t.x) ∧ w2.drew.cell? ⟨w.heap.size, 3, none⟩ = some (.int .i64 t.y) := ⟨HBX.out.cell 0, HBX.out.cell 1, HBX.out.cell 2, HBX.out.cell 3⟩
    have l8 : w.heap.size < w2.drew.heap.size := HBX.out.lt
    have HSR := Lib.hid (H2.out.2.2.below HD.out)
    refine Lib.hid ?_
    go_wp2
    go_region_held3 (fun w' => w'.cell? ⟨w.heap.size, 0, none⟩ = some (.slice ab nb cb) ∧ w'.cell? ⟨w.heap.size, 1, none⟩ = some (.int .i64 t.o) ∧ w'.cell? ⟨w.heap.size, 2, none⟩ = some (.int .i64 t.x) ∧ w'.cell? ⟨w.heap.size, 3, none⟩ = some (.int .i64 t.y))
      (first
        | (with_reducible exact c8)
        | (with_reducible exact kept4 hb5 (Nat.lt_of_lt_of_le l8 (Nat.le_trans hb3.size hb4.size)) (kept4 hb4 (Nat.lt_of_lt_of_le l8 hb3.size) (kept4 hb3 l8 c8)))
        | (with_reducible exact kept4 hb4 (Nat.lt_of_lt_of_le l8 hb3.size) (kept4 hb3 l8 c8))
        | (with_reducible exact kept4 hb3 l8 c8))
      (first
        | (go_at_call 94; (with_reducible refine (impl_mustwrite ab nb cb t.b hn hcap _ HSR.out fu HFM.out.2.1).mono ?_); rintro e w3 ⟨a3, n3, c3, rfl, ho3, hb3⟩; have hn3 : (n3 : Int) ≤ 8 := by (have h1 := own_len ho3; have h2 := lst_len fu 8; omega))
        | (go_at_call 95; (with_reducible refine (impl_mayread ab nb cb t hn _ (HSR.out.below hb3) ff HFM.out.2.2).mono ?_); rintro e w4 ⟨a4, n4, c4, rfl, ho4, hb4⟩; have hn4 : (n4 : Int) ≤ 8 := by (have h1 := own_len ho4; have h2 := lst_len ff 8; omega))
        | (go_at_call 59; (with_reducible refine (HWI.out _ a3 n3 c3 a4 n4 c4 (by omega) (by omega) ((Row.of_own ho3).below hb4) (Row.of_own ho4)).mono ?_); rintro e w5 ⟨a5, n5, c5, rfl, ho5, hb5⟩))
    all_goals
      have hn5 : (n5 : Int) ≤ 8 := by have h1 := own_len ho5; omega
      have hb25 := below_then HD.out (below_then hb3 (below_then hb4 hb5))
      have H5 := Lib.hid (And.intro (H2.out.1.below hb25) (And.intro (below_then H2.out.2.1 hb25) (And.intro (H2.out.2.2.below hb25) (Row.of_own ho5))))
      have d0 : w5.cell? ⟨w.heap.size, 0, none⟩ = some (.slice ab nb cb) := H5.out.1.cell 0
      clear hb25 hb3 hb4 hb5 ho3 ho4 ho5 c8 l8
      refine Lib.hid ?_
      go_wp2_with (go_at_call 60; (with_reducible refine (impl_maywrite ab nb cb t.b hn hcap _ H5.out.2.2.1 fm HFM.out.1).mono ?_); rintro e w6 ⟨a6, n6, c6, rfl, ho6, hb6⟩; refine Hid.out ?_)
      have hn6 : (n6 : Int) ≤ 8 := by have h1 := own_len ho6; have h2 := lst_len fm 8; omega
      have H6 := Lib.hid (And.intro (below_then H5.out.2.1 hb6) (And.intro (Row.of_own ho6) (H5.out.2.2.2.below hb6)))
      clear hb6 ho6 d0
      refine Lib.hid ?_
      go_wp2_with (go_at_call 59; (with_reducible refine (impl_without a6 n6 c6 _ a5 n5 c5 _ (by omega) (by omega) _ H6.out.2.1 H6.out.2.2).mono ?_); rintro e w7 ⟨a7, n7, c7, rfl, ho7, hb7⟩)
      go_ret
      exact ⟨_, _, _, rfl, by rw [← HLF.out]; exact ho7.mono H6.out.1.size, below_then H6.out.1 hb7⟩
end Go.Proofs.YtlicadaecfgklaaGreatDoor.sets

/- append of a slice that the caller owns, nil or not; the head of a row of numbers; the load of a struct behind a test that holds. -/
namespace Go.Proofs.YtlicadaecfgklaaGreatDoor.aps
open Go Go.ChangeShapes Go.WideShapes Go.ChangeAt Go.RowKit Go.Proofs.YtlicadaecfgklaaGreatDoor.row

section
variable {P : Program} (w : World)
theorem run_append_src (t ty : TypeId) (base base2 : Nat) (e : TypeId) (i : TypeInfo) (z : Value) (size bytes : Nat) (ht : P.underlying t = some (.slice e)) (hi : P.info? e = some i) (hz : i.zero = some z)
    (hsize : i.size = size) (hby : i.bytes = bytes) (hzs : z.cells.size = size) (hsz : 0 < size)
    (v : Value) (n : Nat) (xs : List Value) (hown : w.ownsRow base e size v n xs) (vx : Value) (m : Nat) (ys : List Value) (hX : w.ownsRow base2 e size vx m ys) (h1 : ∀ u ∈ ys, u.oneCell' = true)
    (h63 : n + m ≤ maxLen) (hbytes : (n + m) * bytes ≤ 140737488355328) (hbase : base ≤ w.heap.size) :
    ∃ v' w', (Builtin.append_ #[t, t] ty #[v, vx]).run P w = .ok v' w' ∧ w'.ownsRow base e size v' (n + m) (xs ++ ys) ∧ w.grownBy w' v.ownBlock ∧ (v'.ownBlock = v.ownBlock ∨ v'.ownBlock = some w.heap.size) := by
  rcases hX.2 with ⟨rfl, rfl⟩ | ⟨g, cap, cur, rfl, _⟩
  · have hy : ys = [] := List.eq_nil_of_length_eq_zero (by have := hX.1; simpa using this)
    subst hy
    exact ⟨v, w, run_append_owned_none (P := P) (w := w) base t ty e i size ht hi v n xs hown, by simpa using hown, ⟨rfl, rfl, rfl, Nat.le_refl _, fun _ _ _ => rfl⟩, .inl rfl⟩
  · obtain ⟨v', w', hr, h2, h3, _, h5⟩ := run_append_own_at (P := P) w base t ty e i z size bytes ht hi hz hsize hby hzs hsz v n xs hown ⟨g, 0, none⟩ m cap ys hX.1 (hX.cells (g := g) rfl) h1 h63 hbytes hbase
    exact ⟨v', w', hr, h2, h3, h5⟩
theorem step_append_src {ops : Array Oper} {o : Oper} {a : Act} {K : Act → World → Prop} {Q : Exit → Act → World → Prop} {E : Prop} (hgd : o.guard = none) (s x : Operand) (t : TypeId)
    (ho : o.op = .call { callee := .builtin .append, args := #[s, x], argTypes := #[t, t] })
    (base base2 : Nat) (e : TypeId) (i : TypeInfo) (z : Value) (size bytes : Nat) (ht : P.underlying t = some (.slice e)) (hi : P.info? e = some i) (hz : i.zero = some z)
    (hsize : i.size = size) (hby : i.bytes = bytes) (hzs : z.cells.size = size) (hsz : 0 < size)
    (v : Value) (n : Nat) (xs : List Value) (hs : a.eval s = v) (hown : w.ownsRow base e size v n xs) (vx : Value) (m : Nat) (ys : List Value) (hx : a.eval x = vx) (hX : w.ownsRow base2 e size vx m ys) (h1 : ∀ u ∈ ys, u.oneCell' = true)
    (h63 : n + m ≤ maxLen) (hbytes : (n + m) * bytes ≤ 140737488355328) (hbase : base ≤ w.heap.size)
    (h : ∀ v' w', w'.ownsRow base e size v' (n + m) (xs ++ ys) → w.grownBy w' v.ownBlock → (v'.ownBlock = v.ownBlock ∨ v'.ownBlock = some w.heap.size) → K (a.put o.dst v') w') :
    if Region.wanted o (yielded ops a.tmps) = true then Oper.wp P o a w K Q else E := by
  have hw : Region.wanted o (yielded ops a.tmps) = true := by simp [Region.wanted, hgd]
  rw [if_pos hw]
  obtain ⟨v', w', hr, h2, h3, h4⟩ := run_append_src (P := P) w t o.type base base2 e i z size bytes ht hi hz hsize hby hzs hsz v n xs hown vx m ys hX h1 h63 hbytes hbase
  unfold Oper.wp execOp
  simp only [ho, resolve, invoke, builtin, Sem.run_bind, Sem.run_pure, Result.andThen_ok, List.map_toArray, List.map_cons, List.map_nil, hs, hx, hr]
  exact h v' w' h2 h3 h4
end
theorem made_ati (w : World) (k B : Nat) (hk : w.heap.size = k) (hB : B ≤ k) (e : TypeId) : (w.alloc (.cells #[] e)).ownsRow B e 1 (.slice (some ⟨k, 0, none⟩) 0 0) 0 [] := by
  subst hk; exact World.ownsRow_made w #[] 0 hB (Nat.zero_le _) rfl
theorem own_sliceA {w : World} {B : Nat} {ty : TypeId} {v : Value} {n : Nat} {xs : List Value} (h : w.ownsRow B ty 1 v n xs) : ∃ ad cap, v = .slice ad n cap ∧ n ≤ cap ∧ (0 < n → ∃ g, ad = some ⟨g, 0, none⟩) := by
  rcases h.2 with ⟨e, e0⟩ | ⟨g, c, cur, e, _, _, hnc, _⟩
  · exact ⟨_, _, by rw [e, e0], by omega, fun h0 => by omega⟩
  · exact ⟨_, _, e, hnc, fun _ => ⟨g, rfl⟩⟩
theorem ivs_one (A : List Int) : ∀ u ∈ ivs A, u.oneCell' = true := by
  intro u hu
  obtain ⟨x, _, rfl⟩ := List.mem_map.1 hu
  rfl
/-- The load of a whole struct behind a test that holds. -/
theorem load_on {P : Program} {ops : Array Oper} {rest : List Oper} {o : Oper} {a : Act} {w : World} {Q : Exit → Act → World → Prop} (hw : Region.wanted o (yielded ops a.tmps) = true) (ty : TypeId) (x : Operand) (ho : o.op = .load ty x)
    (g : Nat) (hx : a.eval x = .pointer (some ⟨g, 0, none⟩)) (t : TypeId) (cs : Array Value) (fr : Nat × Nat) (d : TypeDesc) (hg : w.heap[g]? = some (.cells cs t fr))
    (hu : P.underlying ty = some d) (hd : (match d with | .struct _ | .array _ _ => true | _ => false) = true) (hi : (P.info? ty).map (·.size) = some cs.size)
    (h : wpList P ops Q rest (a.put o.dst (.agg cs)) w) : wpList P ops Q (o :: rest) a w :=
  wpList_step fun K hK => by
    rw [if_pos hw]
    exact wp_load_row ty x ho g hx t cs fr d hg hu hd hi (hK _ _ h)
theorem elemI : Tryz.prog.underlying 27 = some (.slice (Tryz.prog.elem 27)) := by kernel_rfl
theorem sizeI (w : World) : (sizeOf (Tryz.prog.elem 27)).run Tryz.prog w = .ok 1 w := by kernel_rfl
theorem cut_hI (g n cap q : Nat) (Q : Int) (hQ : Q = q) (hc : q ≤ cap) (w : World) : (Instr.sliceAt 27 (.slice (some ⟨g, 0, none⟩) n cap) none (some (.int .i64 Q)) none).run Tryz.prog w = .ok (.slice (some ⟨g, 0, none⟩) q cap) w := by
  subst hQ
  rw [run_sliceAt_slice w _ _ _ _ _ elemI, Go.run_slice_h w _ _ _ _ elemI _ _ (by omega) (by omega), sizeI]
  simp only [Result.andThen, sliced]
  rw [Nat.sub_zero, show ((q : Int)).toNat = q by omega, Nat.zero_mul, Option.map_some, Addr.add_mid, Nat.add_zero, ite_self, Nat.sub_zero]
theorem row_head {w : World} {g n k : Nat} {L : List Int} (h : Row w (some ⟨g, 0, none⟩) n L) (hk : k ≤ n) : Row w (some ⟨g, 0, none⟩) k (L.take k) := by
  refine ⟨by rw [List.length_take, h.1]; omega, fun j hj => ?_⟩
  obtain ⟨q, off, x, e, h1, h2, h3⟩ := h.2 j (by omega)
  exact ⟨q, off, x, e, h1, by rw [List.getElem?_take_of_lt hj]; exact h2, h3⟩
end Go.Proofs.YtlicadaecfgklaaGreatDoor.aps
