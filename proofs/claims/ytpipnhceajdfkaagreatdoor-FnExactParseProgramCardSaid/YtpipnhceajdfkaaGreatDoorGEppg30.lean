/- Several texts in one: PrgL PuI TexR. -/
import Derived.Test.YtpipnhceajdfkaaGreatDoorGEppg27
import Derived.Lib.Split
import Derived.Lib.SplitLaws
import Derived.Lib.IndexLaws
import Derived.Lib.IndexBytes
import Derived.Test.YtpipnhceajdfkaaGreatDoorGEppg24
import Derived.Lib.AtoiErrMem
import Derived.Test.YtpipnhceajdfkaaGreatDoorGEppg28

/- The lines of a text and the fields of a task's line, as cutting at one byte gives them. Plain mathematics. -/
namespace Go.Proofs.YtpipnhceajdfkaaGreatDoor.prg
open Go Go.Proofs.YtpipnhceajdfkaaGreatDoor.stm Go.Proofs.YtpipnhceajdfkaaGreatDoor.blk Go.Proofs.YtpipnhceajdfkaaGreatDoor.tex Go.Proofs.YtpipnhceajdfkaaGreatDoor.expr Go.Proofs.YtpipnhceajdfkaaGreatDoor.spl

/-- Bytes ahead of the first piece. -/
def preH (a : List UInt8) : List (List UInt8) → List (List UInt8)
  | [] => []
  | h :: t => (a ++ h) :: t
/-- A text cut at every 'c'. -/
def cutL (c : UInt8) : List UInt8 → List (List UInt8)
  | [] => [[]]
  | d :: r => if d = c then [] :: cutL c r else preH [d] (cutL c r)
theorem cutL_hit (c : UInt8) (r : List UInt8) : cutL c (c :: r) = [] :: cutL c r := by rw [cutL, if_pos rfl]
theorem cutL_miss {c d : UInt8} (h : d ≠ c) (r : List UInt8) : cutL c (d :: r) = preH [d] (cutL c r) := by rw [cutL, if_neg h]
theorem preH_ne {a : List UInt8} {L : List (List UInt8)} (h : L ≠ []) : preH a L ≠ [] := by cases L <;> simp_all [preH]
theorem preH_nil (L : List (List UInt8)) : preH [] L = L := by cases L <;> rfl
theorem preH_app (a b : List UInt8) (L : List (List UInt8)) : preH a (preH b L) = preH (a ++ b) L := by cases L <;> simp [preH]
theorem cutL_ne (c : UInt8) : ∀ s : List UInt8, cutL c s ≠ []
  | [] => by simp [cutL]
  | d :: r => by
    by_cases h : d = c
    · subst h; rw [cutL_hit]; simp
    · rw [cutL_miss h]; exact preH_ne (cutL_ne c r)
theorem index_cons {c d : UInt8} (h : d ≠ c) (s : List UInt8) : Lib.index (d :: s) [c] = if Lib.index s [c] == -1 then -1 else Lib.index s [c] + 1 := by
  rw [Lib.index_one, Lib.index_one]
  show (if (d == c) = true then (0 : Int) else if (Lib.indexByte s c == -1) = true then -1 else Lib.indexByte s c + 1) = _
  rw [if_neg (by simpa using h)]
theorem index_ge (s : List UInt8) (c : UInt8) : -1 ≤ Lib.index s [c] := by rw [Lib.index_one]; exact Lib.indexByte_ge s c
theorem splitK_cons {c d : UInt8} (h : d ≠ c) : ∀ (k : Nat) (s : List UInt8), Lib.splitK [c] 0 k (d :: s) = preH [d] (Lib.splitK [c] 0 k s)
  | 0, s => rfl
  | k + 1, s => by
    unfold Lib.splitK
    rw [index_cons h]
    by_cases hi : Lib.index s [c] = -1
    · rw [if_pos (by simp [hi]), if_pos (by simp [hi])]; rfl
    · have hg := index_ge s c
      obtain ⟨i, e⟩ : ∃ i : Nat, Lib.index s [c] = i := ⟨(Lib.index s [c]).toNat, by omega⟩
      rw [if_neg (by simp [e]; omega), if_neg (by simp [e]), e]
      simp [preH]
theorem splitK_count (c : UInt8) : ∀ s : List UInt8, Lib.splitK [c] 0 (s.count c) s = cutL c s
  | [] => rfl
  | d :: r => by
    by_cases h : d = c
    · subst h
      rw [List.count_cons_self, cutL_hit, ← splitK_count d r]
      have e : Lib.index (d :: r) [d] = 0 := by rw [Lib.index_one]; show (if (d == d) = true then (0 : Int) else _) = 0; simp
      show (if (Lib.index (d :: r) [d] == -1) = true then [d :: r] else (d :: r).take ((Lib.index (d :: r) [d]).toNat + 0) :: Lib.splitK [d] 0 (r.count d) ((d :: r).drop ((Lib.index (d :: r) [d]).toNat + 1))) = _
      rw [e]
      rfl
    · rw [List.count_cons_of_ne h, cutL_miss h, splitK_cons h, splitK_count c r]
theorem split_cut (c : UInt8) (s : List UInt8) : Lib.splitK [c] 0 (Lib.count s [c]) s = cutL c s := by rw [Lib.count_one, splitK_count]
theorem cutL_app {c : UInt8} : ∀ (a r : List UInt8), (∀ d ∈ a, d ≠ c) → cutL c (a ++ c :: r) = a :: cutL c r
  | [], r, _ => cutL_hit c r
  | d :: a, r, h => by
    rw [List.cons_append, cutL_miss (h d (List.mem_cons_self ..)), cutL_app a r (fun x hx => h x (List.mem_cons_of_mem _ hx))]; rfl
theorem cutL_one {c : UInt8} : ∀ (a : List UInt8), (∀ d ∈ a, d ≠ c) → cutL c a = [a]
  | [], _ => rfl
  | d :: a, h => by
    rw [cutL_miss (h d (List.mem_cons_self ..)), cutL_one a (fun x hx => h x (List.mem_cons_of_mem _ hx))]; rfl
/-- Without the last piece, if that is empty. -/
def dropE (L : List (List UInt8)) : List (List UInt8) := if L.getLast? = some [] then L.dropLast else L
theorem dropE_cons (x : List UInt8) {L : List (List UInt8)} (h : L ≠ []) : dropE (x :: L) = x :: dropE L := by
  obtain ⟨y, M, rfl⟩ := List.exists_cons_of_ne_nil h
  unfold dropE
  rw [List.getLast?_cons_cons]
  split <;> rfl
theorem lines_drop : ∀ (s acc : List UInt8), linesAux acc s = dropE (preH acc (cutL 10 s))
  | [], acc => by
    by_cases h : acc = []
    · subst h; rfl
    · rw [lines_end h]
      show _ = dropE [acc ++ []]
      unfold dropE
      rw [List.append_nil, List.getLast?_singleton, if_neg (by simpa using h)]
  | d :: s, acc => by
    by_cases h : d = 10
    · subst h
      rw [lines_cut, cutL_hit, lines_drop s [], preH_nil]
      show _ = dropE ((acc ++ []) :: cutL 10 s)
      rw [List.append_nil, dropE_cons acc (cutL_ne 10 s)]
    · rw [lines_go h, cutL_miss h, preH_app, lines_drop s (acc ++ [d])]
theorem linesOf_drop (s : List UInt8) : linesOf s = dropE (cutL 10 s) := by unfold linesOf; rw [lines_drop, preH_nil]
theorem good_ne32 {c : UInt8} (h : goodC c) : c ≠ 32 := by
  rintro rfl
  unfold goodC at h
  revert h; decide
theorem head_nums (o x y : Int) : cutL 32 ((taskW ++ exT o x y).drop 5) = [Lib.itoa o, Lib.itoa x, Lib.itoa y] := by
  rw [exT_eq]
  have e : (taskW ++ ([32] ++ Lib.itoa o ++ [32] ++ Lib.itoa x ++ [32] ++ Lib.itoa y)).drop 5 = Lib.itoa o ++ 32 :: (Lib.itoa x ++ 32 :: Lib.itoa y) := by simp
  rw [e, cutL_app _ _ (fun d hd => good_ne32 (itoa_good o d hd)), cutL_app _ _ (fun d hd => good_ne32 (itoa_good x d hd)), cutL_one _ (fun d hd => good_ne32 (itoa_good y d hd))]
theorem head_pre (o x y : Int) : ([116, 97, 115, 107, 32] : List UInt8).isPrefixOf (taskW ++ exT o x y) = true := by
  rw [exT_eq]; simp
end Go.Proofs.YtpipnhceajdfkaaGreatDoor.prg

/- The walk of the program's own parser: it ends as it must. -/
namespace Go.Proofs.YtpipnhceajdfkaaGreatDoor.pu
open Go Go.ChangeShapes Go.WideShapes Go.ChangeAt Go.RowKit Go.Proofs.YtpipnhceajdfkaaGreatDoor.byt Go.Proofs.YtpipnhceajdfkaaGreatDoor.dec Go.Proofs.YtpipnhceajdfkaaGreatDoor.lay

theorem atoi_ok (s : ByteArray) (hs : s.size ≤ 1048576) (v : Int) (h : Lib.atoiAll s.data.toList = .ok v) (w : World) :
    Calls Tryz.prog 86 #[.string s] w fun e w' => e = .returned (.tuple #[.int .i64 v, .nilIface]) ∧ Below w.heap.size w w' :=
  (Go.Proofs.Any.strconv_Atoi_ok Tryz.laysC172 s (by omega) v h w).mono fun e w' ⟨he, hw⟩ => ⟨he, by
    rcases hw with rfl | ⟨t, rfl⟩
    · exact Below.refl _ _
    · exact Lib.bytesWorld_below _ _ _⟩

/-- The parser's error: some number, and an error that is not nil. -/
def BadOut (w : World) (e : Ending) (w' : World) : Prop := ∃ (x : Int) (N : Nat), e = .returned (.tuple #[.int .i64 x, .iface 162 (.pointer (some ⟨N, 0, none⟩))]) ∧ Below w.heap.size w w'

theorem atoi_bad (s : ByteArray) (hs : s.size ≤ 1048576) (h : ∀ v, Lib.atoiAll s.data.toList ≠ .ok v) (w : World) {a0 a1 : Addr}
    (hv0 : w.var? Tryz.prog "strconv.ErrRange" = some #[.iface 189 (.pointer (some a0))]) (hv1 : w.var? Tryz.prog "strconv.ErrSyntax" = some #[.iface 189 (.pointer (some a1))]) :
    Calls Tryz.prog 86 #[.string s] w (BadOut w) := by
  cases hh : Lib.atoiAll s.data.toList
  · exact absurd hh (h _)
  · exact (Go.Proofs.Any.strconv_Atoi_syntax_var Tryz.laysC172 s (by omega) hh _ _ w hv1).mono fun e w' ⟨N, he, _, _, hb⟩ => ⟨0, N, he, hb⟩
  · exact (Go.Proofs.Any.strconv_Atoi_range_var Tryz.laysC172 s (by omega) hh _ _ w hv0).mono fun e w' ⟨N, he, _, _, hb⟩ => ⟨_, N, he, hb⟩

end Go.Proofs.YtpipnhceajdfkaaGreatDoor.pu

/- The program's readNumbers: the numbers of fields, or that one of them is none. -/
namespace Go.Proofs.YtpipnhceajdfkaaGreatDoor.tex
open Go Go.ChangeShapes Go.WideShapes Go.ChangeAt Go.RowKit Go.Proofs.YtpipnhceajdfkaaGreatDoor.row Go.Proofs.YtpipnhceajdfkaaGreatDoor.val Go.Proofs.YtpipnhceajdfkaaGreatDoor.stm Go.Proofs.YtpipnhceajdfkaaGreatDoor.expr Go.Proofs.YtpipnhceajdfkaaGreatDoor.spl Go.Proofs.YtpipnhceajdfkaaGreatDoor.lay Go.Proofs.YtpipnhceajdfkaaGreatDoor.pu

/-- The parser's two errors are there, and stay, whatever the call does at its own blocks. -/
def ErrsOk (B : Nat) (w : World) : Prop := ∀ w', Below B w w' →
  (∃ a, w'.var? Tryz.prog "strconv.ErrRange" = some #[.iface 189 (.pointer (some a))]) ∧ (∃ a, w'.var? Tryz.prog "strconv.ErrSyntax" = some #[.iface 189 (.pointer (some a))])
theorem ErrsOk.on {B : Nat} {w w1 : World} (h : ErrsOk B w) (hb : Below B w w1) : ErrsOk B w1 := fun w' h' => h w' (hb.trans h')
theorem var_below {P : Program} {w w' : World} {n : String} {cs : Array Value} (hb : Below w.heap.size w w') (h : w.var? P n = some cs) : w'.var? P n = some cs := by
  unfold World.var? at *
  cases hg : P.globalNamed n with
  | none => simp [hg] at h
  | some g =>
    simp only [hg, Option.bind_some] at h ⊢
    have hlt : g < w.heap.size := by
      rcases Nat.lt_or_ge g w.heap.size with h' | h'
      · exact h'
      · rw [Array.getElem?_eq_none h'] at h; simp at h
    rw [hb.block g hlt]
    exact h
theorem errsOk_of {w : World} (h : (∃ a, w.var? Tryz.prog "strconv.ErrRange" = some #[.iface 189 (.pointer (some a))]) ∧ (∃ a, w.var? Tryz.prog "strconv.ErrSyntax" = some #[.iface 189 (.pointer (some a))])) : ErrsOk w.heap.size w :=
  fun _ hb => ⟨h.1.imp fun _ h => var_below hb h, h.2.imp fun _ h => var_below hb h⟩

/-- The slice at 'a' of 'n' elements reads as the list of strings 'L'. -/
def SRow (w : World) (a : Option Addr) (n : Nat) (L : List ByteArray) : Prop :=
  L.length = n ∧ ∀ k, k < n → ∃ (b off : Nat) (x : ByteArray), a = some ⟨b, off, none⟩ ∧ b < w.heap.size ∧ L[k]? = some x ∧ w.cell? ⟨b, off + k, none⟩ = some (.string x)
theorem SRow.below {w w' : World} {a : Option Addr} {n : Nat} {L : List ByteArray} (h : SRow w a n L) (hb : Below w.heap.size w w') : SRow w' a n L :=
  ⟨h.1, fun k hk => by
    obtain ⟨b, off, x, rfl, hlt, hx, hc⟩ := h.2 k hk
    exact ⟨b, off, x, rfl, Nat.lt_of_lt_of_le hlt hb.size, hx, (hb.cell (p := ⟨b, off + k, none⟩) hlt).trans hc⟩⟩
theorem SRow.of_own {w : World} {base : Nat} {a : Option Addr} {n cap : Nat} {L : List ByteArray} (h : w.ownsRow base 9 1 (.slice a n cap) n (spl.strs L)) : SRow w a n L := by
  have hl : L.length = n := by have := h.1; simp [spl.strs] at this; omega
  refine ⟨hl, fun k hk => ?_⟩
  obtain ⟨g, rfl, _, hg, hc, hk2⟩ := own_at h hk
  exact ⟨g, 0, L[k], rfl, hg, by simp [hk2], by rw [Nat.zero_add, hc]; simp [hk2]⟩
theorem SRow.tail {w : World} {g off n : Nat} {x : ByteArray} {L : List ByteArray} (h : SRow w (some ⟨g, off, none⟩) n (x :: L)) : SRow w (some ⟨g, off + 1, none⟩) (n - 1) L := by
  have h1 := h.1
  simp at h1
  refine ⟨by omega, fun k hk => ?_⟩
  obtain ⟨b, o, y, he, hlt, hx, hc⟩ := h.2 (k + 1) (by omega)
  injection he with he; injection he with e1 e2 _
  subst e1 e2
  exact ⟨g, off + 1, y, rfl, hlt, by simpa using hx, by rw [show off + 1 + k = off + (k + 1) by omega]; exact hc⟩

/-- What reading numbers gives. -/
def RdOut (P : List ByteArray) (w : World) (e : Ending) (w' : World) : Prop :=
  (∃ (a : Option Addr) (c : Nat) (L : List Int), e = .returned (.tuple #[.slice a L.length c, .bool true]) ∧ Row w' a L.length L ∧ Hid (P.map (fun s => Lib.atoiAll s.data.toList) = L.map .ok) ∧ Below w.heap.size w w') ∨
  (e = .returned (.tuple #[.slice none 0 0, .bool false]) ∧ Hid (∃ s ∈ P, ∀ v, Lib.atoiAll s.data.toList ≠ .ok v) ∧ Below w.heap.size w w')
theorem row_of_ints {w : World} {base : Nat} {a : Option Addr} {n cap : Nat} {L : List Int} (h : w.ownsRow base 3 1 (.slice a n cap) n (ivs L)) : Row w a n L := Row.of_own h
theorem atoi_next {P : List ByteArray} {k : Nat} {x : ByteArray} {v : Int} {L : List Int} (h : (P.take k).map (fun s => Lib.atoiAll s.data.toList) = L.map .ok) (hx : P[k]? = some x) (hv : Lib.atoiAll x.data.toList = .ok v) :
    (P.take (k + 1)).map (fun s => Lib.atoiAll s.data.toList) = (L ++ [v]).map .ok := by
  rw [List.take_add_one, List.map_append, List.map_append, h]
  simp [hx, hv]
set_option maxHeartbeats 2000000 in
set_option maxRecDepth 100000 in
theorem read_nums (a : Option Addr) (n c : Nat) (P : List ByteArray) (hs : ∀ s ∈ P, s.size ≤ 1048576) (hn : n ≤ 100000) (w : World) (hR : SRow w a n P) (hE : ErrsOk w.heap.size w) :
    Calls Tryz.prog 64 #[.slice a n c] w (RdOut P w) := by
  obtain ⟨j0, hj, jz0, jz1, jz2⟩ := info_parts infoInt
  have HR := Lib.hid hR
  have HE := Lib.hid hE
  have HS := Lib.hid hs
  clear hR hE hs
  go_enter Tryz.func64, Tryz.ntmps64
  go_wp2
  go_loopw [4, 12] (fun v4 i wr => ∃ (k : Nat) (L : List Int), k ≤ n ∧ i = .int .i64 k ∧ L.length = k ∧ wr.ownsRow w.heap.size 3 1 v4 k (ivs L) ∧ Hid ((P.take k).map (fun s => Lib.atoiAll s.data.toList) = L.map .ok) ∧ Below w.heap.size w wr) (fun _ i _ => n - (intOf i).toNat)
  case atStart => exact ⟨0, [], Nat.zero_le _, rfl, rfl, World.ownsRow_made w #[] 0 (Nat.le_refl _) (by decide) rfl, rfl, below_new w _⟩
  case round =>
    obtain ⟨k, L, hk, rfl, hLk, hown, hH, hbel⟩ := hrel
    have hb2 := hbel.size
    obtain ⟨a4, cap4, rfl⟩ := own_form hown
    by_cases hlt : k < n
    · have hkI : (k : Int) < n := by omega
      obtain ⟨g, off, x, rfl, hg, hx, hcell⟩ := HR.out.2 k hlt
      have hcell2 := hbel.cell (p := ⟨g, off + k, none⟩) hg
      rw [hcell] at hcell2
      have hxs := HS.out x (List.mem_of_getElem? hx)
      by_cases hok : ∃ v, Lib.atoiAll x.data.toList = .ok v
      · obtain ⟨v, hv⟩ := hok
        have HX := Lib.hid (And.intro (atoi_next hH.out hx hv) hv)
        clear hx hcell hv
        go_wp2_with (first
          | (go_at_call 86; refine (atoi_ok x hxs v HX.out.2 _).mono ?_; rintro e w3 ⟨rfl, hb3⟩)
          | (at_builtin; refine wpList_append_own _ rfl _ _ 67 rfl w.heap.size 3 j0 (.int .i64 0) 1 8 Tryz.underlying67 hj jz0 jz1 jz2 rfl (by decide) _ _ _ rfl ((hown.kept (grown_below hb3 none) (by cases a4 <;> simp [Value.ownBlock])).alloc _) ⟨w3.heap.size, 0, none⟩ 1 1 [.int .i64 v] rfl rfl (World.news_of_block (cs := #[.int .i64 v]) (t := 3) (fr := (0, 0)) (heap_alloc_new w3 _)) (by simp [Value.oneCell']) (by unfold maxLen; omega) (by omega) (by simp; have := hb3.size; omega) ?_; intro v4 w4 hown4 hgrow4 _; refine Hid.out ?_))
        have hb4 : Below w.heap.size w w4 := ((hbel.trans (hb3.mono hb2)).alloc (Nat.le_trans hb2 hb3.size) _).grown hgrow4 (by have := hb3.size; simp; omega) (fun j hj => (hown.lt j hj).1)
        have HO := Lib.hid (show w4.ownsRow w.heap.size 3 1 v4 (k + 1) (ivs (L ++ [v])) by rw [← ivs_snoc]; exact hown4)
        clear hown hown4 hgrow4 hb3
        refine Lib.hid ?_
        go_wp2
        go_roundw
        case rel => exact ⟨k + 1, L ++ [v], by omega, by go_num, by simp; omega, HO.out, HX.out.1, hb4⟩
        case measure => simp [intOf]; omega
      · have HB := Lib.hid (show ∃ s ∈ P, ∀ v, Lib.atoiAll s.data.toList ≠ .ok v from ⟨x, List.mem_of_getElem? hx, fun v h => hok ⟨v, h⟩⟩)
        have HX := Lib.hid (show ∀ v, Lib.atoiAll x.data.toList ≠ .ok v from fun v h => hok ⟨v, h⟩)
        obtain ⟨⟨a0, hv0⟩, ⟨a1, hv1⟩⟩ := HE.out wr hbel
        have HV := Lib.hid (And.intro hv0 hv1)
        clear hx hcell hok hv0 hv1
        go_wp2_with (go_at_call 86; refine (atoi_bad x hxs HX.out _ HV.out.1 HV.out.2).mono ?_; rintro e w3 ⟨y, N, rfl, hb3⟩)
        go_ret2
        exact .inr ⟨rfl, HB, hbel.trans (hb3.mono hb2)⟩
    · obtain rfl : k = n := by omega
      have hkI : ¬ (k : Int) < k := by omega
      have HH := hH.out
      rw [List.take_of_length_le (by rw [HR.out.1]; exact Nat.le_refl _)] at HH
      have HF := Lib.hid HH
      clear HH
      go_wp2
      go_ret2
      exact .inl ⟨a4, cap4, L, by rw [hLk]; rfl, by rw [hLk]; exact row_of_ints hown, HF, hbel⟩
end Go.Proofs.YtpipnhceajdfkaaGreatDoor.tex
