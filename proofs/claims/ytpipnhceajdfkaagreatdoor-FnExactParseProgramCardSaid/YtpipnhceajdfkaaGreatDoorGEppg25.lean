/- Several texts in one: SplI SplC Join. -/
import Derived.Test.YtpipnhceajdfkaaGreatDoorGEppg24
import Derived.Laws.Pointers
import Derived.Deep.QuietTactic
import Derived.BigQuiet
import Derived.Test.YtpipnhceajdfkaaGreatDoorShelf

/- The walk of the program's own splitter. -/
namespace Go.Proofs.YtpipnhceajdfkaaGreatDoor.spl
open Go.ChangeShapes Go.WideShapes Go.ChangeAt Go.RowKit Go.Proofs.YtpipnhceajdfkaaGreatDoor.byt

set_option maxHeartbeats 2000000 in
set_option maxRecDepth 100000 in
theorem impl_spl (s : ByteArray) (hs : (s.size : Int) ≤ 600) (w : World) :
    Calls Tryz.prog 87 #[.string s] w (SplOut s.data.toList w) := by
  obtain ⟨i0, hi, hz0, hz1, hz2⟩ := info_parts infoStr
  obtain ⟨j0, hj, jz0, jz1, jz2⟩ := info_parts infoByte
  have hsl : s.data.toList.length = s.size := Array.length_toList
  have HSL := Lib.hid hsl
  clear hsl
  have HM : Hid (((w.alloc (.cells #[] 9)).alloc (.cells #[] 5)).ownsRow w.heap.size 5 1 (.slice (some ⟨w.heap.size + 1, 0, none⟩) 0 0) 0 []) := by
    have h := World.ownsRow_made (base := w.heap.size) (e := 5) (size := 1) (w.alloc (.cells #[] 9)) #[] 0 (by simp) (by decide) rfl
    rw [World.size_alloc] at h
    exact h
  go_enter Tryz.func87, Tryz.ntmps87
  go_wp2
  go_step3
  go_wp2
  go_step3
  go_wp2
  go_loopw [4, 5, 6, 16] (fun v4 v5 vd i wr => ∃ (k : Nat) (F : List (List UInt8)) (cur : List UInt8), k ≤ s.size ∧ i = .int .i64 k ∧ vd = .bool true ∧ Hid (Part s.data.toList k F cur) ∧ wr.ownsRow w.heap.size 9 1 v4 F.length (strCells F) ∧ wr.ownsRow w.heap.size 5 1 v5 cur.length (Lib.byteCells cur) ∧ Below w.heap.size w wr) (fun _ _ _ i _ => s.size - (intOf i).toNat)
  case atStart => exact ⟨0, [], [], Nat.zero_le _, rfl, rfl, part_start _, (World.ownsRow_made w #[] 0 (Nat.le_refl _) (by decide) rfl).alloc _, HM.out, ((Below.refl _ _).alloc (Nat.le_refl _) _).alloc (by simp) _⟩
  case round =>
    obtain ⟨k, F, cur, hk, rfl, rfl, hP, hown4, hown5, hbel⟩ := hrel
    have hb2 := hbel.size
    have hF := part_len hP.out
    have hF2 : (F.length : Int) + cur.length ≤ 600 := by have := HSL.out; omega
    clear hF
    obtain ⟨a4, cap4, rfl⟩ := own_form hown4
    by_cases hlt : k < s.size
    · have hmem := Lib.hid (mem_of s k hlt)
      have hkl : k < s.data.toList.length := by rw [HSL.out]; exact hlt
      have hkI : (k : Int) < s.size := by omega
      have hc1 : (s[k].toNat : Int) < 256 := by have := s[k].toNat_lt; omega
      rcases (show ((s[k].toNat : Int) < 32 ∨ (32 ≤ (s[k].toNat : Int) ∧ 126 < (s[k].toNat : Int))) ∨ ((33 ≤ (s[k].toNat : Int) ∧ (s[k].toNat : Int) ≤ 126) ∨ (32 ≤ (s[k].toNat : Int) ∧ (s[k].toNat : Int) ≤ 32)) by omega) with h | ⟨h, h'⟩ | ⟨h, h'⟩
      · have HB := Lib.hid (bad_byte hmem.out (by omega))
        by_cases hcur : cur = []
        · subst hcur
          obtain ⟨a5, cap5, rfl⟩ := own_form hown5
          clear hown4 hown5
          rcases h with h | ⟨h, h'⟩
          all_goals
            go_wp2
            try rw [Exit.noGoto_ret]
            go_ret2
            exact out_bad HB.out hbel (World.ownsRow_nil _ _ _ _)
        · have hpos : 0 < cur.length := by rcases cur with _ | _ <;> simp at hcur ⊢
          have hposI : (0 : Int) < cur.length := by omega
          obtain ⟨g, cap5, rfl, hg1, hg2⟩ := hown5.form hpos
          have hcv := conv_own hown5
          clear hcur hown5
          rcases h with h | ⟨h, h'⟩
          all_goals
            go_wp2_with (at_builtin; refine wpList_append_own _ rfl _ _ 47 rfl w.heap.size 9 i0 (.string ByteArray.empty) 1 16 Tryz.underlying47 hi hz0 hz1 hz2 rfl (by decide) _ _ _ rfl (hown4.alloc _) ⟨wr.heap.size, 0, none⟩ 1 1 [.string ⟨cur.toArray⟩] rfl rfl (World.news_of_block (cs := #[.string ⟨cur.toArray⟩]) (t := 9) (fr := (0, 0)) (heap_alloc_new wr _)) (by simp [Value.oneCell']) (by unfold maxLen; omega) (by omega) (by simp; omega) ?_; intro v2 w2 hown2 hgrow2 _; refine Hid.out ?_)
            have hbel2 : Below w.heap.size w w2 := (hbel.alloc hb2 _).grown hgrow2 (by simp; omega) (fun j hj => (hown4.lt j hj).1)
            clear hown2 hgrow2
            refine Lib.hid ?_
            go_wp2
            try rw [Exit.noGoto_ret]
            go_ret2
            exact out_bad HB.out hbel2 (World.ownsRow_nil _ _ _ _)
      · have HSC := Lib.hid (part_on hP.out hkl (by have : s.data.toList[k] = s[k] := rfl; rw [this]; omega) (by have : s.data.toList[k] = s[k] := rfl; rw [this]; intro e; rw [e] at h; simp at h))
        obtain ⟨a5, cap5, rfl⟩ := own_form hown5
        have HNE := Lib.hid (own_ne (hown4.alloc (.cells #[.int .u8 (s[k].toNat : Int)] 5)) (hown5.alloc (.cells #[.int .u8 (s[k].toNat : Int)] 5)) (by decide))
        go_wp2_with (at_builtin; refine wpList_append_own _ rfl _ _ 22 rfl w.heap.size 5 j0 (.int .u8 0) 1 1 Tryz.underlying22 hj jz0 jz1 jz2 rfl (by decide) _ _ _ rfl (hown5.alloc _) ⟨wr.heap.size, 0, none⟩ 1 1 [.int .u8 (s[k].toNat : Int)] rfl rfl (World.news_of_block (cs := #[.int .u8 (s[k].toNat : Int)]) (t := 5) (fr := (0, 0)) (heap_alloc_new wr _)) (by simp [Value.oneCell']) (by unfold maxLen; omega) (by omega) (by simp; omega) ?_; intro v2 w2 hown2 hgrow2 _; refine Hid.out ?_)
        have hbel2 : Below w.heap.size w w2 := (hbel.alloc hb2 _).grown hgrow2 (by simp; omega) (fun j hj => (hown5.lt j hj).1)
        have HO4 := Lib.hid ((hown4.alloc _).kept hgrow2 HNE.out)
        rw [byte_push] at hown2
        have HO5 := Lib.hid hown2
        clear hown2 hgrow2 hown4 hown5
        refine Lib.hid ?_
        go_wp2
        go_roundw
        case rel => exact ⟨k + 1, F, _, by omega, by go_num, rfl, HSC, HO4.out, by rw [List.length_append, List.length_singleton]; exact HO5.out, hbel2⟩
        case measure => simp [intOf]; omega
      · have hc32 : s.data.toList[k] = 32 := by
          have e : s.data.toList[k] = s[k] := rfl
          rw [e]; apply UInt8.toNat.inj; show s[k].toNat = 32; omega
        by_cases hcur : cur = []
        · subst hcur
          have HSC := Lib.hid (part_space hP.out hkl hc32)
          obtain ⟨a5, cap5, rfl⟩ := own_form hown5
          have HO4 := Lib.hid hown4
          have HO5 := Lib.hid hown5
          clear hown4 hown5 hc32
          go_wp2
          go_roundw
          case rel => exact ⟨k + 1, F, [], by omega, by go_num, rfl, HSC, HO4.out, HO5.out, hbel⟩
          case measure => simp [intOf]; omega
        · have HSC := Lib.hid (part_cut hP.out hkl hc32 hcur)
          have hpos : 0 < cur.length := by rcases cur with _ | _ <;> simp at hcur ⊢
          have hposI : (0 : Int) < cur.length := by omega
          have HNE := Lib.hid (own_ne (hown5.alloc (.cells #[.string ⟨cur.toArray⟩] 9)) (hown4.alloc (.cells #[.string ⟨cur.toArray⟩] 9)) (by decide))
          obtain ⟨g, cap5, rfl, hg1, hg2⟩ := hown5.form hpos
          have hcv := conv_own hown5
          have HC5 := Lib.hid (own_cut hown5)
          clear hcur hc32
          go_wp2_with (at_builtin; refine wpList_append_own _ rfl _ _ 47 rfl w.heap.size 9 i0 (.string ByteArray.empty) 1 16 Tryz.underlying47 hi hz0 hz1 hz2 rfl (by decide) _ _ _ rfl (hown4.alloc _) ⟨wr.heap.size, 0, none⟩ 1 1 [.string ⟨cur.toArray⟩] rfl rfl (World.news_of_block (cs := #[.string ⟨cur.toArray⟩]) (t := 9) (fr := (0, 0)) (heap_alloc_new wr _)) (by simp [Value.oneCell']) (by unfold maxLen; omega) (by omega) (by simp; omega) ?_; intro v2 w2 hown2 hgrow2 _; refine Hid.out ?_)
          have hbel2 : Below w.heap.size w w2 := (hbel.alloc hb2 _).grown hgrow2 (by simp; omega) (fun j hj => (hown4.lt j hj).1)
          have HO5 := Lib.hid (own_cut ((hown5.alloc _).kept hgrow2 HNE.out))
          rw [cells_push] at hown2
          have HO4 := Lib.hid hown2
          clear hown2 hgrow2 hown4 hown5 hcv
          refine Lib.hid ?_
          go_wp2
          go_roundw
          case rel => exact ⟨k + 1, _, [], by omega, by go_num, rfl, HSC, by have := HO4.out; simpa using this, HO5.out, hbel2⟩
          case measure => simp [intOf]; omega
    · have hkl : s.data.toList.length ≤ k := by rw [HSL.out]; omega
      have HE := Lib.hid (part_end hP.out hkl)
      have HA := Lib.hid (part_all hP.out hkl)
      have hkJ : (s.size : Int) ≤ k := by omega
      by_cases hcur : cur = []
      · subst hcur
        have HE1 := Lib.hid (show fieldsOf s.data.toList = F by rw [HE.out, if_pos rfl])
        obtain ⟨a5, cap5, rfl⟩ := own_form hown5
        have HO4 := Lib.hid hown4
        clear hown4 hown5 hkl
        by_cases h24 : (24 : Int) < F.length
        · have HB := Lib.hid (bad_many (l := s.data.toList) (by rw [HE1.out]; omega))
          go_wp2
          try rw [Exit.noGoto_ret]
          go_ret2
          exact out_bad HB.out hbel (World.ownsRow_nil _ _ _ _)
        · have HG := Lib.hid (good (l := s.data.toList) (by rw [HSL.out]; omega) HA.out (by rw [HE1.out]; omega))
          go_wp2
          try rw [Exit.noGoto_ret]
          go_ret2
          exact out_good HG.out hbel (by rw [HE1.out]; exact HO4.out)
      · have HE1 := Lib.hid (show fieldsOf s.data.toList = F ++ [cur] by rw [HE.out, if_neg hcur])
        have hpos : 0 < cur.length := by rcases cur with _ | _ <;> simp at hcur ⊢
        have hposI : (0 : Int) < cur.length := by omega
        obtain ⟨g, cap5, rfl, hg1, hg2⟩ := hown5.form hpos
        have hcv := conv_own hown5
        clear hcur hkl hown5
        go_wp2_with (at_builtin; refine wpList_append_own _ rfl _ _ 47 rfl w.heap.size 9 i0 (.string ByteArray.empty) 1 16 Tryz.underlying47 hi hz0 hz1 hz2 rfl (by decide) _ _ _ rfl (hown4.alloc _) ⟨wr.heap.size, 0, none⟩ 1 1 [.string ⟨cur.toArray⟩] rfl rfl (World.news_of_block (cs := #[.string ⟨cur.toArray⟩]) (t := 9) (fr := (0, 0)) (heap_alloc_new wr _)) (by simp [Value.oneCell']) (by unfold maxLen; omega) (by omega) (by simp; omega) ?_; intro v2 w2 hown2 hgrow2 _; refine Hid.out ?_)
        have hbel2 : Below w.heap.size w w2 := (hbel.alloc hb2 _).grown hgrow2 (by simp; omega) (fun j hj => (hown4.lt j hj).1)
        rw [cells_push] at hown2
        obtain ⟨a2, cap2, rfl⟩ := own_form hown2
        have HO4 := Lib.hid hown2
        clear hown2 hgrow2 hown4 hcv
        by_cases h24 : (24 : Int) < (F.length : Int) + 1
        · have HB := Lib.hid (bad_many (l := s.data.toList) (by rw [HE1.out]; simp; omega))
          refine Lib.hid ?_
          go_wp2
          try rw [Exit.noGoto_ret]
          go_ret2
          exact out_bad HB.out hbel2 (World.ownsRow_nil _ _ _ _)
        · have HG := Lib.hid (good (l := s.data.toList) (by rw [HSL.out]; omega) HA.out (by rw [HE1.out]; simp; omega))
          refine Lib.hid ?_
          go_wp2
          try rw [Exit.noGoto_ret]
          go_ret2
          exact out_good HG.out hbel2 (by rw [HE1.out]; have := HO4.out; simpa using this)
end Go.Proofs.YtpipnhceajdfkaaGreatDoor.spl

/- What the splitters hand back at every line, the row read as strings. -/
namespace Go.Proofs.YtpipnhceajdfkaaGreatDoor.spl
open Go.ChangeShapes Go.WideShapes Go.ChangeAt Go.RowKit Go.Proofs.YtpipnhceajdfkaaGreatDoor.byt

def strs (L : List ByteArray) : List Value := L.map Value.string
theorem strCells_strs (F : List (List UInt8)) : strCells F = strs (F.map fun f => ⟨f.toArray⟩) := by simp [strCells, strs]
theorem spec_long (s : ByteArray) (hs : (600 : Int) < s.size) (w : World) :
    Calls Tryz.prog 43 #[.string s] w (SplOut s.data.toList w) := by
  have HB := Lib.hid (bad_long (l := s.data.toList) (by have : s.data.toList.length = s.size := Array.length_toList; omega))
  have HO := Lib.hid (World.ownsRow_made (base := w.heap.size) (e := 9) (size := 1) w #[] 0 (Nat.le_refl _) (by decide) rfl)
  go_enter Tryz.func43, Tryz.ntmps43
  go_wp2
  go_ret2
  exact out_bad HB.out ((Below.refl _ _).alloc (Nat.le_refl _) _) HO.out
theorem impl_long (s : ByteArray) (hs : (600 : Int) < s.size) (w : World) :
    Calls Tryz.prog 87 #[.string s] w (SplOut s.data.toList w) := by
  have HB := Lib.hid (bad_long (l := s.data.toList) (by have : s.data.toList.length = s.size := Array.length_toList; omega))
  go_enter Tryz.func87, Tryz.ntmps87
  go_wp2
  go_step3
  go_wp2
  try rw [Exit.noGoto_ret]
  go_ret2
  exact out_bad HB.out (Below.refl _ _) (World.ownsRow_nil _ _ _ _)
def SplS (l : List UInt8) (w : World) (e : Ending) (w' : World) : Prop :=
  ∃ (a : Option Addr) (n cap : Nat) (L : List ByteArray), e = .returned (.tuple #[.slice a n cap, .bool (okB l)]) ∧ w'.ownsRow w.heap.size 9 1 (.slice a n cap) n (strs L) ∧ Hid (L = (fieldsR l).map (fun f => ⟨f.toArray⟩)) ∧ Hid (n = (fieldsR l).length) ∧ Below w.heap.size w w'
theorem splS {l : List UInt8} {w : World} {e : Ending} {w' : World} (h : SplOut l w e w') : SplS l w e w' := by
  obtain ⟨a, n, cap, he, ho, hb⟩ := h
  have hn := own_len ho
  rw [← hn, strCells_strs] at ho
  exact ⟨a, n, cap, _, he, ho, rfl, hn, hb⟩
theorem spec_all (s : ByteArray) (w : World) : Calls Tryz.prog 43 #[.string s] w (SplS s.data.toList w) := by
  by_cases h : (600 : Int) < s.size
  · exact (spec_long s h w).mono fun _ _ h => splS h
  · exact (spec_spl s (by omega) w).mono fun _ _ h => splS h
theorem impl_all (s : ByteArray) (w : World) : Calls Tryz.prog 87 #[.string s] w (SplS s.data.toList w) := by
  by_cases h : (600 : Int) < s.size
  · exact (impl_long s h w).mono fun _ _ h => splS h
  · exact (impl_spl s (by omega) w).mono fun _ _ h => splS h
theorem impl_list (A : List UInt8) (w : World) : Calls Tryz.prog 87 #[.string ⟨A.toArray⟩] w (SplS A w) := impl_all ⟨A.toArray⟩ w
theorem fields_bd (l : List UInt8) : (fieldsR l).length ≤ 24 := by
  unfold fieldsR
  split
  · rename_i h; simp [okB] at h; omega
  · simp
theorem own_at {w : World} {base : Nat} {a : Option Addr} {n cap : Nat} {L : List ByteArray} (h : w.ownsRow base 9 1 (.slice a n cap) n (strs L)) {k : Nat} (hk : k < n) :
    ∃ (g : Nat), a = some ⟨g, 0, none⟩ ∧ base ≤ g ∧ g < w.heap.size ∧ w.cell? ⟨g, k, none⟩ = (L[k]?).map Value.string ∧ k < L.length := by
  have hl : L.length = n := by have := h.1; simp [strs] at this; omega
  obtain ⟨g, c, hv, hb, hg⟩ := h.form (by omega)
  injection hv with h1 h2 h3
  subst h1
  refine ⟨g, rfl, hb, hg, ?_, by omega⟩
  rw [h.cellAt k (by omega)]; simp [strs]
theorem below_kept {w w' : World} (h : Below w.heap.size w w') : w.grownBy w' none := ⟨h.os, h.tape, h.output, h.size, fun k hk _ => h.block k hk⟩
end Go.Proofs.YtpipnhceajdfkaaGreatDoor.spl

/- The library's strings.Join over an owned row of strings, with a space between. -/
namespace Go.Proofs.YtpipnhceajdfkaaGreatDoor.tex
open Go Go.ChangeShapes Go.WideShapes Go.ChangeAt Go.RowKit Go.Proofs.YtpipnhceajdfkaaGreatDoor.spl

/-- The call returns this text; nothing that was there is written. -/
def RetS (w : World) (l : List UInt8) (e : Ending) (w' : World) : Prop := e = .returned (.string ⟨l.toArray⟩) ∧ Below w.heap.size w w'
theorem join_own (xs : List ByteArray) (base : Nat) (v : Value) (n : Nat) (w : World) (ho : w.ownsRow base 9 1 v n (spl.strs xs))
    (hl : (Lib.join (xs.map (·.data.toList)) [32]).length ≤ 1048576) (hn : n ≤ 1048576) :
    Calls Tryz.prog 59 #[v, .string ⟨#[32]⟩] w (RetS w (Lib.join (xs.map (·.data.toList)) [32])) := by
  have hlen : xs.length = n := by have := ho.1; simp [spl.strs] at this; omega
  rcases ho.2 with ⟨rfl, rfl⟩ | ⟨g, cap, cur, rfl, hb, hg, hnc, _, hsz, hcs⟩
  · obtain rfl : xs = [] := List.eq_nil_of_length_eq_zero hlen
    exact (Any.strings_Join_none Tryz.lays156 Tryz.Builder_Extra_156 none 0 ⟨#[32]⟩ w).mono fun e w' ⟨he, hw⟩ => ⟨he, hw ▸ Below.refl _ _⟩
  · subst hlen
    exact Any.strings_Join Tryz.lays156 Tryz.Builder_Extra_156 g 0 cap xs ⟨#[32]⟩ w (fun j x hx => by
      have hj : j < xs.length := (List.getElem?_eq_some_iff.1 hx).1
      have hc := (show w.ownsRow base 9 1 (.slice (some ⟨g, 0, none⟩) xs.length cap) xs.length (spl.strs xs) from ho).cellAt j (by omega)
      rw [Nat.zero_add, hc]
      simp [spl.strs, hx]) (Array.getElem?_eq_some_iff.1 hg).1 (by omega) hnc (by
      have : (⟨#[32]⟩ : ByteArray).data.toList = [32] := rfl
      rw [this]; omega)
end Go.Proofs.YtpipnhceajdfkaaGreatDoor.tex
