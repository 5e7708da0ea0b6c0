/- Several texts in one: PrgK Hnd. -/
import Derived.Test.YtpipnhceajdfkaaGreatDoorGEppg29
import Derived.Test.YtpipnhceajdfkaaGreatDoorGEppg30
import Derived.Test.YtpipnhceajdfkaaGreatDoorGEppg33
import Derived.Test.YtpipnhceajdfkaaGreatDoorGEppg34
import Derived.Test.YtpipnhceajdfkaaGreatDoorShelf
import Derived.Shelf.Strings.Split
import Derived.Shelf.Small.Wraps
import Derived.Test.YtpipnhceajdfkaaGreatDoorGEppg22
import Derived.Handed
import Derived.SizedLaws
import Derived.Shelf.Vars

/- Chapter 6's program: the lines of a text, a task's line, a statement's line; nothing that was there is written. -/
namespace Go.Proofs.YtpipnhceajdfkaaGreatDoor.prg
open Go Go.ChangeShapes Go.WideShapes Go.ChangeAt Go.RowKit Go.Proofs.YtpipnhceajdfkaaGreatDoor.row Go.Proofs.YtpipnhceajdfkaaGreatDoor.val Go.Proofs.YtpipnhceajdfkaaGreatDoor.expr Go.Proofs.YtpipnhceajdfkaaGreatDoor.stm Go.Proofs.YtpipnhceajdfkaaGreatDoor.blk Go.Proofs.YtpipnhceajdfkaaGreatDoor.tex Go.Proofs.YtpipnhceajdfkaaGreatDoor.lay Go.Proofs.YtpipnhceajdfkaaGreatDoor.spl

/-- The parser's own error, the block at 'a'. -/
abbrev errV (a : Addr) : Value := .iface 189 (.pointer (some a))
/-- What the calls find in the library's variables and in the parser's own error. -/
def Env (a : Addr) (w : World) : Prop :=
  TabB w ∧ ErrsOk w.heap.size w ∧ (∃ m, w.cell? ⟨1, 0, none⟩ = some (.int .i64 m)) ∧ w.cell? ⟨0, 0, none⟩ = some (errV a)
theorem cell_below {w w1 : World} {p : Addr} {v : Value} (hb : Below w.heap.size w w1) (h : w.cell? p = some v) : w1.cell? p = some v :=
  (hb.cell (p := p) (World.block_lt_of_cell? w p h)).trans h
theorem Env.on {a : Addr} {w w1 : World} (h : Env a w) (hb : Below w.heap.size w w1) : Env a w1 :=
  ⟨h.1.on hb, fun w' hw' => (h.2.1.on hb) w' (hw'.mono hb.size), h.2.2.1.imp fun _ h => cell_below hb h, cell_below hb h.2.2.2⟩
theorem test_bytes (s : ByteArray) (T : List UInt8) : (T == s.toList) = true ↔ T = s.data.toList := by rw [ByteArray.toList_eq, beq_iff_eq]

/-- A text cut at every 'c', as strings. -/
def splitL (c : UInt8) (s : ByteArray) : List ByteArray := Lib.splitB ⟨#[c]⟩ 0 (Lib.countB s ⟨#[c]⟩) s
theorem splitL_lists (c : UInt8) (s : ByteArray) : (splitL c s).map (·.data.toList) = cutL c s.data.toList := by
  unfold splitL; rw [Lib.splitB_data]; exact split_cut c _
theorem splitL_len (c : UInt8) (s : ByteArray) : (splitL c s).length = Lib.countB s ⟨#[c]⟩ + 1 := Lib.splitB_all ⟨#[c]⟩ (Nat.le_refl 1) 0 _ s rfl
theorem splitL_ne (c : UInt8) (s : ByteArray) : splitL c s ≠ [] := by
  intro e
  have := splitL_len c s
  rw [e] at this
  simp at this
theorem count_size (c : UInt8) (s : ByteArray) : Lib.countB s ⟨#[c]⟩ ≤ s.size := Lib.countB_le ⟨#[c]⟩ (Nat.le_refl 1) _ s (Nat.le_refl _)
theorem srow_made (w : World) (L : List ByteArray) (t : TypeId) : SRow (w.alloc (.cells (L.map Value.string).toArray t)) (some ⟨w.heap.size, 0, none⟩) L.length L :=
  ⟨rfl, fun k hk => ⟨w.heap.size, 0, L[k], rfl, by simp, by simp [hk], by rw [new_cell]; simp [hk]⟩⟩
theorem cutL_small (c : UInt8) : ∀ (s : List UInt8), ∀ f ∈ cutL c s, f.length ≤ s.length
  | [], f, hf => by simp [cutL] at hf; subst hf; simp
  | d :: r, f, hf => by
    by_cases h : d = c
    · subst h
      rw [cutL_hit] at hf
      rcases List.mem_cons.1 hf with rfl | hf
      · simp
      · have := cutL_small d r f hf; simp; omega
    · rw [cutL_miss h] at hf
      obtain ⟨g, t, e⟩ := List.exists_cons_of_ne_nil (cutL_ne c r)
      have ih := cutL_small c r
      rw [e] at hf ih
      rcases List.mem_cons.1 (show f ∈ ([d] ++ g) :: t from hf) with rfl | hf
      · have := ih g (List.mem_cons_self ..); simp; omega
      · have := ih f (List.mem_cons_of_mem _ hf); simp; omega
theorem splitL_small (c : UInt8) (s : ByteArray) (h : s.size ≤ 1048576) : ∀ f ∈ splitL c s, f.size ≤ 1048576 := fun f hf => by
  have h1 : f.data.toList ∈ cutL c s.data.toList := by rw [← splitL_lists]; exact List.mem_map.2 ⟨f, hf, rfl⟩
  have h2 := cutL_small c _ _ h1
  have h3 : f.data.toList.length = f.size := Array.length_toList
  have h4 : s.data.toList.length = s.size := Array.length_toList
  omega
theorem dropE_snoc (A : List (List UInt8)) (y : List UInt8) : dropE (A ++ [y]) = if y = [] then A else A ++ [y] := by
  unfold dropE
  rw [List.getLast?_concat, List.dropLast_concat]
  simp
/-- Cutting at one byte. -/
theorem split_any (c : UInt8) (s : ByteArray) (hs : s.size ≤ 1048576) (w : World) (hm : ∃ m, w.cell? ⟨1, 0, none⟩ = some (.int .i64 m)) :
    Calls Tryz.prog 36 #[.string s, .string ⟨#[c]⟩] w fun e w' => e = .returned (.slice (some ⟨w.heap.size, 0, none⟩) (splitL c s).length (splitL c s).length) ∧ SRow w' (some ⟨w.heap.size, 0, none⟩) (splitL c s).length (splitL c s) ∧ Below w.heap.size w w' := by
  obtain ⟨m, hm⟩ := hm
  refine (Any.strings_Split Tryz.lays146 (by kernel_rfl) s ⟨#[c]⟩ m w (by omega) hm (Nat.le_refl 1)).mono ?_
  rintro e w' ⟨rfl, rfl⟩
  exact ⟨by rw [splitL_len], srow_made w (splitL c s) _, below_new w _⟩
/-- The lines of a text, as strings. -/
def LinesOut (l : List UInt8) (w : World) (e : Ending) (w' : World) : Prop :=
  ∃ (a : Option Addr) (n c : Nat) (L : List ByteArray), e = .returned (.slice a n c) ∧ n ≤ 20001 ∧ SRow w' a n L ∧ Hid (L.map (·.data.toList) = linesOf l) ∧ Below w.heap.size w w'
theorem srow_init {w : World} {g n : Nat} {L : List ByteArray} (h : SRow w (some ⟨g, 0, none⟩) (n + 1) L) : SRow w (some ⟨g, 0, none⟩) n L.dropLast := by
  have h1 := h.1
  refine ⟨by simp; omega, fun k hk => ?_⟩
  obtain ⟨b, o, y, he, hlt, hx, hc⟩ := h.2 k (by omega)
  exact ⟨b, o, y, he, hlt, by rw [List.getElem?_dropLast, if_pos (by omega)]; exact hx, hc⟩
set_option maxHeartbeats 2000000 in
set_option maxRecDepth 100000 in
theorem impl_linesof (s : ByteArray) (hs : s.size ≤ 20000) (w : World) (hm : ∃ m, w.cell? ⟨1, 0, none⟩ = some (.int .i64 m)) :
    Calls Tryz.prog 18 #[.string s] w (LinesOut s.data.toList w) := by
  obtain ⟨L, hL⟩ : ∃ L, splitL 10 s = L := ⟨_, rfl⟩
  have hls : L.map (·.data.toList) = cutL 10 s.data.toList := by rw [← hL]; exact splitL_lists 10 s
  have hlen : L.length ≤ 20001 := by rw [← hL, splitL_len]; have := count_size 10 s; omega
  obtain ⟨M, x, rfl⟩ : ∃ M x, L = M ++ [x] := by
    rcases List.eq_nil_or_concat L with h | ⟨M, x, h⟩
    · exact absurd (hL.trans h) (splitL_ne 10 s)
    · exact ⟨M, x, by rw [h, List.concat_eq_append]⟩
  have hsp := split_any 10 s (by omega) w hm
  rw [hL, List.length_append, List.length_singleton] at hsp
  have HSP := Lib.hid hsp
  have HLS := Lib.hid hls
  rw [List.length_append, List.length_singleton] at hlen
  clear hsp hls hL hm
  go_enter Tryz.func18, Tryz.ntmps18
  go_wp2_with (go_at_call 36; (with_reducible refine HSP.out.mono ?_); rintro e w1 ⟨rfl, hR, hb1⟩; refine Hid.out ?_)
  obtain ⟨b, o, y, he, hlt, hx, hc⟩ := hR.2 M.length (by omega)
  simp only [Option.some.injEq, Addr.mk.injEq, and_true] at he
  obtain ⟨rfl, rfl⟩ := he
  rw [List.getElem?_append_right (Nat.le_refl _), Nat.sub_self] at hx
  obtain rfl : x = y := Option.some.inj hx
  rw [Nat.zero_add] at hc
  have HR := Lib.hid hR
  have HB := Lib.hid hb1
  clear hR hb1 hx
  have h1 : IntKind.i64.wrap (((M.length + 1 : Nat) : Int) - 1) = M.length := by rw [IntWalk.i64_in _ (by omega)]; omega
  have h2 : (M.length : Int) < ((M.length + 1 : Nat) : Int) := by omega
  have h3 : (0 : Int) ≤ M.length := by omega
  refine Lib.hid ?_
  cases hE : x.toList.isEmpty
  · have HF := Lib.hid (show (M ++ [x]).map (·.data.toList) = linesOf s.data.toList by
      rw [linesOf_drop, ← HLS.out, List.map_append, List.map_singleton, dropE_snoc, if_neg (by rw [ByteArray.toList_eq] at hE; simpa [List.isEmpty_eq_false_iff] using hE)])
    go_wp2
    go_ret
    exact ⟨_, _, _, M ++ [x], rfl, hlen, HR.out, HF, HB.out⟩
  · have HF := Lib.hid (show M.map (·.data.toList) = linesOf s.data.toList by
      rw [linesOf_drop, ← HLS.out, List.map_append, List.map_singleton, dropE_snoc, if_pos (by rw [ByteArray.toList_eq] at hE; simpa [List.isEmpty_iff] using hE)])
    have HRI := Lib.hid (show SRow w1 (some ⟨w.heap.size, 0, none⟩) M.length M by
      have h9 := srow_init HR.out
      rw [List.dropLast_concat] at h9
      exact h9)
    go_wp2
    go_ret
    exact ⟨_, _, _, M, rfl, by omega, HRI.out, HF, HB.out⟩
end Go.Proofs.YtpipnhceajdfkaaGreatDoor.prg

/- The wrap of a law whose row lists a variable: the listed variables' data and the world's shape are handed to the walk. -/
namespace Go.Proofs.YtpipnhceajdfkaaGreatDoor.prg
open Go Go.RowKit Go.Proofs.YtpipnhceajdfkaaGreatDoor.lay Go.Proofs.YtpipnhceajdfkaaGreatDoor.tex

section
variable {H : Type} {enc : TypeId × Value → H}
/-- As the plain wrap, with a condition on the world besides, and the world's shape kept. -/
theorem handed_shaped {asm : Assume} {C : Checked} {os : Os} {f : FuncId} {fn : Func} {s : ChangeSpec} {conds : List PathCond} {apart fresh handsOn again : Bool} {X : World → Array Value → Prop}
    (hX : ∀ (w w' : World) (args : Array Value), w.heap = w'.heap → X w args → X w' args)
    (own : ownKnob C.prog.godebug = none) (started : os.Started) (noInit : C.prog.inits.idxOf? f = none) (hfn : C.prog.funcs[f]? = some fn)
    (witness : ∃ (w : World) (tape : Tape) (i : Input), w.os = os ∧ (w.forCall tape i).Shaped C.prog ∧ i.vars = [] ∧ Input.okWide C.prog (w.forCall tape i) .any w.heap.size f i ∧
      ((s.pre enc C.prog fn conds apart (w.forCall tape i).memory i.args ∧ X (w.forCall tape i).memory i.args) ∧ sizedMet enc C.prog fn (OpenSpec.ofChange s) apart (w.forCall tape i).memory i.args) ∧ asm.holds C.prog (lone (Frame.enter C.prog f i.args .normal) [] (w.forCall tape i)))
    (contract : ∀ (W : World) (base : Nat) (args : Array Value) (ds gs : List (DataW H)) (before : List MemPlace),
      (∀ (j : Nat) t v, fn.params[j]? = some t → args[j]? = some v → Value.okWide C.prog W .any base t v) →
      DataW.Whole enc C.prog fn.params.toList s.vars apart W args.toList ds gs before → X W args → W.ShapedOpen C.prog →
      Calls C.prog f args W fun e W' => ∃ v, e = .returned v ∧ s.post enc C.prog fn apart fresh handsOn again W args v W') :
    ReturnsInHanded asm C os f .any (fun w args => (s.pre enc C.prog fn conds apart w args ∧ X w args) ∧ sizedMet enc C.prog fn (OpenSpec.ofChange s) apart w args) (s.post enc C.prog fn apart fresh handsOn again) := by
  refine returnsInHanded_of_calls own started noInit witness ?_
  intro w tape i _ hsh _ hok hpre _
  obtain ⟨_, _, _, fn', hfn', _, _, _, _, hval⟩ := hok
  obtain rfl : fn' = fn := Option.some.inj (hfn'.symm.trans hfn)
  obtain ⟨⟨⟨ds, gs, before, hw, _⟩, hx⟩, _⟩ := hpre
  refine (contract (w.forCall tape i) w.heap.size i.args ds gs before hval (DataW.Whole.of_heap (w' := w.forCall tape i) (by rfl) hw) (hX _ _ _ (by rfl) hx) hsh).mono fun e W' ⟨v, he, hp⟩ => ?_
  subst he
  exact ChangeSpec.post_blind hp
end
theorem gEI : Tryz.prog.globalNamed "loop.example/g00983/impl.errInvalidLine" = some 0 := by kernel_rfl
theorem gEIType : (Tryz.prog.globals[0]?).map (·.type) = some 51 := by kernel_rfl
/-- What the calls find, out of the listed variables and the world's shape. -/
theorem env_of {W : World} {x1 x2 x4 : String × DataW Unit} {r : List (String × DataW Unit)}
    (h : laidMet Tryz.prog (x1 :: x2 :: ("internal/strconv.uint64pow10", Rows.laid_internal_strconv_uint64pow10) :: x4 :: ("strconv.ErrRange", Rows.laid_strconv_ErrRange) :: ("strconv.ErrSyntax", Rows.laid_strconv_ErrSyntax) :: ("loop.example/g00983/impl.errInvalidLine", Rows.laid_loop_example_g00983_impl_errInvalidLine) :: r) W)
    (hS : W.ShapedOpen Tryz.prog) : ∃ a, Env a W := by
  obtain ⟨a0, s0, hv0, -, -, -⟩ := laid_sentinel h.tail.tail.tail.tail gER gERType Tryz.underlying51 rowES Tryz.underlying189 Tryz.underlying191 rfl rfl Tryz.underlying9 cellsES cellsS
  obtain ⟨a1, s1, hv1, -, -, -⟩ := laid_sentinel h.tail.tail.tail.tail.tail gES gESType Tryz.underlying51 rowES Tryz.underlying189 Tryz.underlying191 rfl rfl Tryz.underlying9 cellsES cellsS
  obtain ⟨a2, s2, hv2, -, -, -⟩ := laid_sentinel h.tail.tail.tail.tail.tail.tail gEI gEIType Tryz.underlying51 rowES Tryz.underlying189 Tryz.underlying191 rfl rfl Tryz.underlying9 cellsES cellsS
  refine ⟨a2, Lib.tabBelow_of_tabIs (tab_of h), errsOk_of ⟨⟨a0, hv0⟩, ⟨a1, hv1⟩⟩, ?_, ?_⟩
  · exact Go.Proofs.cell_of_shapedOpen_int (zero := #[.int .i64 0]) (t := 3) hS (of_decide_eq_true (by kernel_rfl)) (by kernel_rfl) rfl (by kernel_rfl) (by kernel_rfl) Tryz.underlying3
  · simpa using World.var?_cell gEI hv2 0
end Go.Proofs.YtpipnhceajdfkaaGreatDoor.prg
