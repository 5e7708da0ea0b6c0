/- Several texts in one: VTrcG. -/
import Derived.Test.YtmgeecdgebemdaaGreatDoorGSigV44
import Derived.Test.YtmgeecdgebemdaaGreatDoorGSigV36
import Derived.Test.YtmgeecdgebemdaaGreatDoorGSigV17
import Derived.Deep.RegionLaw
import Derived.Deep.RegionHeld3

/- Chapter 14 of the program: the state ahead of the run: the steps of the current task, in new memory; nothing that was there is written. -/
namespace Go.Proofs.YtmgeecdgebemdaaGreatDoor.trc
open Go Go.ChangeShapes Go.WideShapes Go.ChangeAt Go.RowKit Go.Proofs.YtmgeecdgebemdaaGreatDoor.row Go.Proofs.YtmgeecdgebemdaaGreatDoor.val Go.Proofs.YtmgeecdgebemdaaGreatDoor.expr Go.Proofs.YtmgeecdgebemdaaGreatDoor.stm Go.Proofs.YtmgeecdgebemdaaGreatDoor.blk Go.Proofs.YtmgeecdgebemdaaGreatDoor.prg Go.Proofs.YtmgeecdgebemdaaGreatDoor.exe Go.Proofs.YtmgeecdgebemdaaGreatDoor.grow Go.Proofs.YtmgeecdgebemdaaGreatDoor.rss Go.Proofs.YtmgeecdgebemdaaGreatDoor.ctl Go.Proofs.YtmgeecdgebemdaaGreatDoor.sets Go.Proofs.YtmgeecdgebemdaaGreatDoor.wrt Go.Proofs.YtmgeecdgebemdaaGreatDoor.mem Go.Proofs.YtmgeecdgebemdaaGreatDoor.cst
theorem sep_own {g : Nat} {b : Option Nat} (h : ∀ k, b = some k → k ≠ g) : Sep [some g, b] := by
  have key : ∀ (i q : Nat), ([some g, b] : List (Option Nat))[i]? = some (some q) → (i = 0 ∧ q = g) ∨ (i = 1 ∧ b = some q) := by
    intro i q hq
    match i, hq with
    | 0, hq => exact .inl ⟨rfl, (Option.some.inj (Option.some.inj hq)).symm⟩
    | 1, hq => exact .inr ⟨rfl, Option.some.inj hq⟩
    | i + 2, hq => simp at hq
  intro i j q hi hj
  rcases key i q hi with ⟨e1, e2⟩ | ⟨e1, e2⟩ <;> rcases key j q hj with ⟨f1, f2⟩ | ⟨f1, f2⟩
  · omega
  · exact absurd e2 (h q f2)
  · exact absurd f2 (h q e2)
  · omega
theorem rs_one {B g : Nat} {r : RS} {w : World} (hB : B ≤ g) (hg : g < w.heap.size) (ho : Own r B w) (hne : ∀ k, r.v.ownBlock = some k → k ≠ g) : RsAt B g [r] w :=
  ⟨hB, hg, fun j q hq => by
    match j, hq with
    | 0, hq => cases hq; exact ho
    | j + 1, hq => simp at hq, sep_own hne⟩
abbrev zeroTk : Array Value := #[.slice none 0 0, .int .i64 0, .int .i64 0, .int .i64 0]
theorem sep_startT {g gv : Nat} (h : gv ≠ g) : Sep [some g, some gv, none, none] := by
  have key : ∀ (i b : Nat), ([some g, some gv, none, none] : List (Option Nat))[i]? = some (some b) → (i = 0 ∧ b = g) ∨ (i = 1 ∧ b = gv) := by
    intro i b h
    match i, h with
    | 0, h => exact .inl ⟨rfl, (Option.some.inj (Option.some.inj h)).symm⟩
    | 1, h => exact .inr ⟨rfl, (Option.some.inj (Option.some.inj h)).symm⟩
    | 2, h => simp at h
    | 3, h => simp at h
    | i + 4, h => simp at h
  intro i j b hi hj
  rcases key i b hi with ⟨e1, e2⟩ | ⟨e1, e2⟩ <;> rcases key j b hj with ⟨f1, f2⟩ | ⟨f1, f2⟩ <;> omega
theorem dj_lt {l k : List (Option Nat)} (N : Nat) (hl : ∀ b, some b ∈ l → b < N) (hk : ∀ b, some b ∈ k → N ≤ b) : Dj l k := dj_mem.2 fun b h1 h2 => by have := hl b h1; have := hk b h2; omega
theorem in_jnB {g b : Nat} {a : Option Addr} {m c : Nat} (h : some b ∈ jnB g a m c) : b = g ∨ (Value.slice a m c).ownBlock = some b := by
  rcases List.mem_cons.1 h with h | h
  · exact .inl (Option.some.inj h)
  · exact .inr (List.mem_singleton.1 h).symm
theorem keep4T {w w' : World} {p q g : Nat} {x0 x1 x2 x3 : Value} (hb : Below w.heap.size w w') (hp : p < w.heap.size) (hq : q < w.heap.size) (hg : g < w.heap.size) (h : w.cell? ⟨p, 0, none⟩ = some x0 ∧ w.cell? ⟨q, 0, none⟩ = some x1 ∧ w.cell? ⟨g, 0, none⟩ = some x2 ∧ w.cell? ⟨g, 1, none⟩ = some x3) : w'.cell? ⟨p, 0, none⟩ = some x0 ∧ w'.cell? ⟨q, 0, none⟩ = some x1 ∧ w'.cell? ⟨g, 0, none⟩ = some x2 ∧ w'.cell? ⟨g, 1, none⟩ = some x3 :=
  ⟨(hb.cell (p := ⟨p, 0, none⟩) hp).trans h.1, (hb.cell (p := ⟨q, 0, none⟩) hq).trans h.2.1, (hb.cell (p := ⟨g, 0, none⟩) hg).trans h.2.2.1, (hb.cell (p := ⟨g, 1, none⟩) hg).trans h.2.2.2⟩
/-- The trace and the execution at the start. -/
theorem start_at {B g gs ga gj gv cv gu gz N : Nat} {a4 : Option Addr} {n4 c4 : Nat} {ar : Option Addr} {nr cr : Nat} {R : List Int} {z : Int} {D : List Int} {tk tl : Int} {V : List Int} {ft : TypeId} {w : World} {hlo : liveOk}
    (hB : B ≤ N) (hgs : gs = N + 1) (hga : ga = N + 2) (h4 : ∀ b, (Value.slice a4 n4 c4).ownBlock = some b → N + 3 ≤ b ∧ b < gj) (hgj : N + 3 ≤ gj) (hjv : gj < gv) (hvu : gv < gu) (huz : gz = gu + 1) (hzg : gz < g)
    (xg : Box g #[.slice (some ⟨gv, 0, none⟩) 8 cv, .slice none 0 0, .slice none 0 0, fnS gu gz, .func (.func 81) #[] #[.pointer (some ⟨ga, 0, none⟩), .pointer (some ⟨gj, 0, none⟩), .pointer (some ⟨g, 0, none⟩)]] 110 w)
    (xs : Box gs #[.slice (some ⟨N, 0, none⟩) 0 0] 52 w) (xa : Box ga #[.func (.func 77) #[] #[.pointer (some ⟨gs, 0, none⟩)]] ft w) (xj : Box gj #[.int .i64 tk, .int .i64 0, .int .i64 tl, .slice a4 n4 c4] 105 w)
    (xu : Box gu #[.slice ar nr cr] 27 w) (xz : Box gz #[.int .i64 z] 3 w)
    (ov : w.ownsRow B 3 1 (.slice (some ⟨gv, 0, none⟩) 8 cv) 8 (ivs V)) (os : w.ownsRow B 98 3 (.slice (some ⟨N, 0, none⟩) 0 0) 0 (microsC [])) (o4 : w.ownsRow B 3 1 (.slice a4 n4 c4) n4 (ivs D)) :
    PxAt B g ⟨gv, cv, none, 0, 0, none, 0, 0⟩ ⟨true, gu, gz, ar, nr, cr, R, z⟩ (traceObs B gs ga gj g D tk tl) ⟨V, [], []⟩ ⟨[], []⟩ (trF gs ga gj (some ⟨N, 0, none⟩) 0 0 a4 n4 c4) w := by
  have hS : ∀ b, some b ∈ jnB gs (some ⟨N, 0, none⟩) 0 0 → b = gs ∨ b = N := fun b h => (in_jnB h).imp id (fun e => by have : some N = some b := e; exact (Option.some.inj this).symm)
  have hJ : ∀ b, some b ∈ jnB gj a4 n4 c4 → N + 3 ≤ b ∧ b ≤ gj := fun b h => by
    rcases in_jnB h with e | e
    · omega
    · have := h4 b e; omega
  have hF : ∀ b, some b ∈ trF gs ga gj (some ⟨N, 0, none⟩) 0 0 a4 n4 c4 → b ≤ gj := fun b h => by
    rw [List.mem_append, List.mem_append] at h
    rcases h with (h | h) | h
    · have := hS b h; omega
    · have := hJ b h; omega
    · have : b = ga := by simpa using h
      omega
  have hX : ∀ b, some b ∈ pxB g ⟨gv, cv, none, 0, 0, none, 0, 0⟩ ⟨V, [], []⟩ → b = g ∨ b = gv := fun b h => by
    have h2 : some b ∈ ([some g, some gv, none, none] : List (Option Nat)) := h
    simpa using h2
  have hC : ∀ b, some b ∈ (⟨true, gu, gz, ar, nr, cr, R, z⟩ : PCf).cap → b = gu ∨ b = gz := fun b h => by
    have h2 : some b ∈ ([some gu, some gz] : List (Option Nat)) := h
    simpa using h2
  have hone : ∀ b, some b ∈ ([some ga] : List (Option Nat)) → b = ga := fun b h => by simpa using h
  refine ⟨xg, ⟨by omega, xg.lt, fun i r hr => ?_, sep_startT (g := g) (gv := gv) (by omega)⟩, ⟨⟨xu.lt, xu.cell 0⟩, fun _ => ⟨hlo, xz.lt, xz.cell 0⟩, fun e => by cases e⟩, ⟨_, _, _, _, _, _, rfl, ⟨xs, rs_one (by omega) xs.lt os (fun k hk => ?_)⟩, ⟨xj, rs_one (by omega) xj.lt ?_ (fun k hk => ?_)⟩, by omega, ⟨ft, xa⟩, ?_, ?_, ?_, ⟨List.nodup_nil, fun k hk => by cases hk⟩⟩, ?_, ?_, ?_⟩
  · match i, hr with
    | 0, hr => cases hr; exact ov
    | 1, hr => cases hr; exact World.ownsRow_nil _ _ _ _
    | 2, hr => cases hr; exact World.ownsRow_nil _ _ _ _
    | i + 3, hr => simp [pxL] at hr
  · have : some N = some k := hk
    cases this; omega
  · show w.ownsRow B 3 1 (.slice a4 n4 c4) n4 (ivs (uns D []))
    rw [uns_nil]; exact o4
  · have := h4 k hk; omega
  · exact dj_lt (N + 3) (fun b h => by have := hS b h; omega) (fun b h => (hJ b h).1)
  · exact dj_lt ga (fun b h => by have := hS b h; omega) (fun b h => Nat.le_of_eq (hone b h).symm)
  · exact (dj_lt (N + 3) (fun b h => by have := hone b h; omega) (fun b h => (hJ b h).1)).symm
  · exact (dj_lt (gj + 1) (fun b h => by have := hF b h; omega) (fun b h => by have := hX b h; omega)).symm
  · exact dj_mem.2 fun b h1 h2 => by have := hX b h1; have := hC b h2; omega
  · exact dj_lt (gj + 1) (fun b h => by have := hF b h; omega) (fun b h => by have := hC b h; omega)
end Go.Proofs.YtmgeecdgebemdaaGreatDoor.trc
