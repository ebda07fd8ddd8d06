/- One world that fits: the settled one, with the two tables as their initialisers lay them; arguments that are values, or lists of values, as numbers. -/
import Derived.Test.YtapofoepijkcoaaDoorValWorks
import Derived.Test.YtapofoepijkcoaaDoorLawPost
import Derived.Deep.SlicePairs
import Derived.Deep.RegionHeld3
namespace Go.Proofs.YtapofoepijkcoaaDoor
open Go.ChangeShapes Go.WideShapes Go.ChangeAt Go.RowKit

theorem own : ownKnob Tryd.prog.godebug = none := by kernel_rfl
theorem laidOut : laidOutB Tryd.prog = true := by kernel_rfl
def lay (cs : Array Value) : Obj → Obj
  | .cells _ t frozen => .cells cs t frozen
  | o => o
noncomputable def laidWorld (os : Os) : World :=
  let w0 := World.holding Tryd.prog os ⟨#[], #[], []⟩
  { w0 with heap := (w0.heap.modify 0 (lay #[.string ⟨#[110, 111, 110, 101]⟩, .string ⟨#[110, 105, 108]⟩, .string ⟨#[98, 111, 111, 108]⟩, .string ⟨#[105, 110, 116]⟩, .string ⟨#[98, 117, 105, 108, 116, 105, 110]⟩, .string ⟨#[115, 116, 114, 105, 110, 103]⟩, .string ⟨#[116, 97, 98, 108, 101]⟩, .string ⟨#[102, 117, 110, 99, 116, 105, 111, 110]⟩, .string ⟨#[99, 111, 114, 111, 117, 116, 105, 110, 101]⟩, .string ⟨#[99, 101, 108, 108]⟩])).modify 1 (lay #[.string ⟨#[111, 117, 116]⟩, .string ⟨#[101, 114, 114, 111, 114]⟩, .string ⟨#[116, 121, 112, 101]⟩, .string ⟨#[115, 101, 116, 109, 101, 116, 97]⟩, .string ⟨#[103, 101, 116, 109, 101, 116, 97]⟩, .string ⟨#[114, 97, 119, 103, 101, 116]⟩, .string ⟨#[114, 97, 119, 115, 101, 116]⟩, .string ⟨#[110, 101, 120, 116]⟩, .string ⟨#[99, 111, 108, 108, 101, 99, 116]⟩, .string ⟨#[99, 114, 101, 97, 116, 101]⟩, .string ⟨#[114, 101, 115, 117, 109, 101]⟩, .string ⟨#[121, 105, 101, 108, 100]⟩, .string ⟨#[115, 116, 97, 116, 117, 115]⟩]) }

structure Kept (k n : Int) (w w' : World) : Prop where
  c0 : w'.cell? ⟨w.heap.size, 0, none⟩ = some (.int .i64 k)
  c1 : w'.cell? ⟨w.heap.size, 1, none⟩ = some (.int .i64 n)
  below : Below w.heap.size w w'
  more : w.heap.size + 1 ≤ w'.heap.size
  env : Env w'
theorem Kept.start (k n : Int) (w : World) (T : TypeId) (hE : Env w) : Kept k n w (w.alloc (.cells #[.int .i64 k, .int .i64 n] T (0, 0))) :=
  ⟨by simp [go_sem], by simp [go_sem], (Below.refl _ _).alloc (Nat.le_refl _) _, by simp, hE.below ((Below.refl _ _).alloc (Nat.le_refl _) _)⟩
theorem Kept.next {k n : Int} {w w1 w2 : World} (h : Kept k n w w1) (hb : Below w1.heap.size w1 w2) : Kept k n w w2 := by
  obtain ⟨h1, h2, h3, h4, h5⟩ := h
  exact ⟨(hb.cell (p := ⟨w.heap.size, 0, none⟩) (by simp; omega)).trans h1, (hb.cell (p := ⟨w.heap.size, 1, none⟩) (by simp; omega)).trans h2, h3.trans (hb.mono h3.size), Nat.le_trans h4 hb.size, h5.below hb⟩
theorem Kept.drew {k n : Int} {w w1 : World} (h : Kept k n w w1) : Kept k n w w1.drew := h.next ((Below.refl _ _).drew)
theorem Kept.all {k n : Int} {w w1 : World} (h : Kept k n w w1) : w1.cell? ⟨w.heap.size, 0, none⟩ = some (.int .i64 k) ∧ w1.cell? ⟨w.heap.size, 1, none⟩ = some (.int .i64 n) ∧ Kept k n w w1 := ⟨h.c0, h.c1, h⟩
section
variable {H : Type} {enc : TypeId × Value → H} {w : World} {base : Nat} {spare : Nat → Bool} {held : Bool}
theorem valOne : Go.Deep.oneCellFields Tryd.prog #[{ name := "Kind", type := 3, offset := 0, embedded := false, tag := "", pkgPath := "", byteOffset := 0 }, { name := "N", type := 2, offset := 1, embedded := false, tag := "", pkgPath := "", byteOffset := 8 }] = true := by kernel_rfl
theorem valCells : Tryd.prog.cellsOf 23 = 2 := by kernel_rfl
theorem valBytes : Tryd.prog.bytesOf 23 = 16 := by kernel_rfl
/-- A value that comes in. -/
theorem open_val {r : Reach} {b0 : Nat} {v : Value} {d : DataW H} {p : List MemPlace} (hv : Value.okWide Tryd.prog w r b0 23 v) (h : DataW.Trod enc Tryd.prog w base spare held 23 v d p) :
    ∃ k n : Int, v = .agg #[.int .i64 k, .int .i64 n] ∧ (Lit.int .i64 k).wf = true ∧ (Lit.int .i64 n).wf = true := by
  obtain ⟨v0, v1, y0, y1, n, rfl, _, _, h0, h1⟩ := Joins.open_agg2 Tryd.underlying23 valOne valCells hv h
  obtain ⟨k, e0, _, w0⟩ := DataW.trod_int Tryd.underlying3 h0
  obtain ⟨m, e1, _, w1⟩ := DataW.trod_int Tryd.underlying2 h1
  injection e0 with e0
  injection e1 with e1
  subst e0; subst e1
  exact ⟨k, m, rfl, w0, w1⟩
/-- A list of values that comes in. -/
theorem open_vals {r : Reach} {b0 : Nat} {v : Value} {d : DataW H} {p : List MemPlace} (hv : Value.okWide Tryd.prog w r b0 29 v) (h : DataW.Trod enc Tryd.prog w base spare held 29 v d p) :
    ∃ (A : Option Addr) (c : Nat) (l : List (Int × Int)), v = .slice A l.length c ∧ PairsAt w A l ∧ (l = [] ∨ ∃ elems sp, d = .slice elems sp ∧ elems.length = l.length) := by
  obtain ⟨a, len, cap, rfl⟩ := okWide_slice Tryd.underlying29 hv
  obtain ⟨fuel, hf⟩ := h
  rcases Go.Deep.open_slice_pairs Tryd.underlying29 Tryd.underlying23 valCells rfl rfl (by kernel_rfl) (by kernel_rfl) hf with ⟨e, _⟩ | ⟨a', len', cap', m, n, V0, V1, D0, D1, P0, P1, e, _, hl, _, hm, hx, hi⟩
  · have e2 : Value.slice a len cap = .slice none 0 0 := by simpa [Value.cells] using e
    injection e2 with e3 e4 e5
    subst e3; subst e4; subst e5
    exact ⟨none, 0, [], rfl, fun i p hp => by simp at hp, .inl rfl⟩
  · have e2 : Value.slice a len cap = .slice (some a') len' cap' := by simpa [Value.cells] using e
    injection e2 with e3 e4 e5
    subst e3; subst e4; subst e5
    have hlm : len ≤ m := by rw [hm]; split <;> omega
    have each : ∀ i, i < len → ∃ q : Int × Int, w.cell? (a'.add (i * 2)) = some (.int .i64 q.1) ∧ w.cell? (a'.add (i * 2 + 1)) = some (.int .i64 q.2) := by
      intro i hi'
      obtain ⟨c0, c1, t0, t1⟩ := hi i (by omega)
      obtain ⟨k, e0, _, _⟩ := DataW.trod_int Tryd.underlying3 t0
      obtain ⟨j, e1, _, _⟩ := DataW.trod_int Tryd.underlying2 t1
      injection e0 with e0
      injection e1 with e1
      exact ⟨(k, j), by rw [c0, e0], by rw [c1, e1]⟩
    obtain ⟨q, hq⟩ := Go.Deep.choose_lt each
    refine ⟨some a', cap, (List.range len).map q, by simp, ?_, .inr ⟨_, _, (Prod.mk.inj hx).1, by simp⟩⟩
    intro i p hp
    simp only [List.getElem?_map, Option.map_eq_some_iff] at hp
    obtain ⟨j, hj, rfl⟩ := hp
    obtain ⟨hj1, hj2⟩ := List.getElem?_eq_some_iff.1 hj
    simp at hj2 hj1
    subst hj2
    obtain ⟨c0, c1⟩ := hq i hj1
    refine ⟨a', rfl, ?_, c0, by rw [Go.Deep.add_add]; exact c1⟩
    have := World.block_lt_of_cell? w _ c0
    rwa [Go.ChangeShapes.block_add] at this
/-- The room of such a list. -/
theorem vals_room {ts : List TypeId} {ds : List (DataW H)} (h : (DataW.weightsEach Tryd.prog ts ds).all (· ≤ reachBytes) = true) {j : Nat} {d : DataW H} (ht : ts[j]? = some 29) (hd : ds[j]? = some d) {l : List (Int × Int)}
    (hl : l = [] ∨ ∃ elems sp, d = .slice elems sp ∧ elems.length = l.length) : l.length * 16 ≤ 140737488351232 := by
  rcases hl with rfl | ⟨elems, sp, rfl, e⟩
  · simp
  · rw [← e]; exact slice_room h ht hd Tryd.underlying29 valBytes
end
end Go.Proofs.YtapofoepijkcoaaDoor
