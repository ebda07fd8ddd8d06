/- Trees (statements, expressions, lists of them, texts) and how they lie in memory; what a call leaves as it was. No walk. -/
import Derived.Test.YtlbbbfmnghcdnaaBase
namespace Go.Proofs.Ytlbbbfmnghcdnaa
set_option maxRecDepth 20000
open Go.RowKit

/-- Expressions, statements, lists of them, and texts. -/
inductive Tree where
  | nil
  | ex (kind line num : Int) (text : List UInt8) (l r keys args params body : Tree)
  | st (kind line : Int) (name : List UInt8) (l r to a b : Tree)
  | cons (h t : Tree)
  | tx (s : List UInt8)
def treeL : List Tree → Tree
  | [] => .nil
  | x :: r => .cons x (treeL r)
def Tree.fst : Tree → Tree
  | .cons h _ => h
  | _ => .nil
def Tree.snd : Tree → Tree
  | .cons _ t => t
  | _ => .nil

abbrev iV (n : Int) : Value := .int .i64 n
abbrev sV (l : List UInt8) : Value := .string ⟨l.toArray⟩
abbrev pV (b : Nat) : Value := .pointer (some ⟨b, 0, none⟩)

/-- All blocks but those of E are as they were; what is new is besides. -/
structure Past (E : List Nat) (w w' : World) : Prop where
  os : w'.os = w.os
  tape : w'.tape = w.tape
  output : w'.output = w.output
  size : w.heap.size ≤ w'.heap.size
  block : ∀ k, k < w.heap.size → k ∉ E → w'.heap[k]? = w.heap[k]?
theorem Past.refl (E : List Nat) (w : World) : Past E w w := ⟨rfl, rfl, rfl, Nat.le_refl _, fun _ _ _ => rfl⟩
theorem Past.trans {E : List Nat} {a b c : World} (h : Past E a b) (k : Past E b c) : Past E a c :=
  ⟨k.os.trans h.os, k.tape.trans h.tape, k.output.trans h.output, Nat.le_trans h.size k.size, fun i hi hE => (k.block i (Nat.lt_of_lt_of_le hi h.size) hE).trans (h.block i hi hE)⟩
/-- What comes behind may touch what is new, too. -/
theorem Past.then {E F : List Nat} {a b c : World} (h : Past E a b) (k : Past F b c) (hF : ∀ i, i ∈ F → i ∈ E ∨ a.heap.size ≤ i) : Past E a c :=
  ⟨k.os.trans h.os, k.tape.trans h.tape, k.output.trans h.output, Nat.le_trans h.size k.size, fun i hi hE => (k.block i (Nat.lt_of_lt_of_le hi h.size) (fun hi' => (hF i hi').elim hE (by omega))).trans (h.block i hi hE)⟩
theorem Past.mono {E F : List Nat} {w w' : World} (h : Past E w w') (hE : ∀ i, i ∈ E → i ∈ F) : Past F w w' := ⟨h.os, h.tape, h.output, h.size, fun k hk hF => h.block k hk (fun hE' => hF (hE k hE'))⟩
theorem Past.drew {E : List Nat} {a w : World} (h : Past E a w) : Past E a w.drew := ⟨h.os, h.tape, h.output, h.size, h.block⟩
theorem Past.alloc {E : List Nat} {a w : World} (h : Past E a w) (o : Obj) : Past E a (w.alloc o) :=
  h.trans ⟨rfl, rfl, rfl, by simp, fun k hk _ => Below.heap_alloc _ _ _ hk⟩
theorem Past.setCell {E : List Nat} {a w : World} (h : Past E a w) {p : Addr} (hp : p.block ∈ E ∨ a.heap.size ≤ p.block) (u : Value) : Past E a (w.setCell p u) :=
  h.then (F := [p.block]) ⟨rfl, rfl, rfl, by simp [World.setCell], fun k _ hk => Below.heap_setCell _ _ _ _ (by simpa using hk)⟩ (by simpa using hp)
theorem Past.below {E : List Nat} {a b c : World} (h : Past E a b) (k : Below b.heap.size b c) : Past E a c :=
  h.trans ⟨k.os, k.tape, k.output, k.size, fun i hi _ => k.block i hi⟩
theorem past_of_below {E : List Nat} {b c : World} (k : Below b.heap.size b c) : Past E b c := (Past.refl E b).below k
theorem Past.grown {E : List Nat} {a w w' : World} {row : Option Nat} (h : Past E a w) (hg : w.grownBy w' row) (hr : ∀ k, row = some k → k ∈ E ∨ a.heap.size ≤ k) : Past E a w' :=
  ⟨hg.os.trans h.os, hg.tape.trans h.tape, hg.output.trans h.output, Nat.le_trans h.size hg.size, fun i hi hE => (hg.block i (Nat.lt_of_lt_of_le hi h.size) (fun e => (hr i e.symm).elim hE (by omega))).trans (h.block i hi hE)⟩
theorem Past.toBelow {E : List Nat} {B : Nat} {w w' : World} (h : Past E w w') (hB : B ≤ w.heap.size) (hE : ∀ i, i ∈ E → B ≤ i) : Below B w w' :=
  ⟨h.os, h.tape, h.output, h.size, fun k hk => h.block k (by omega) (fun he => by have := hE k he; omega)⟩
theorem Past.cell {E : List Nat} {w w' : World} (h : Past E w w') {p : Addr} (hp : p.block < w.heap.size) (hE : p.block ∉ E) : w'.cell? p = w.cell? p := World.cell?_of_block (h.block p.block hp hE)
theorem Past.frozen {E : List Nat} {w w' : World} (h : Past E w w') {p : Addr} (hp : p.block < w.heap.size) (hE : p.block ∉ E) : w'.frozen? p = w.frozen? p := World.frozen?_of_block (h.block p.block hp hE)
theorem Past.cell_some {E : List Nat} {w w' : World} (h : Past E w w') {p : Addr} {v : Value} (hv : w.cell? p = some v) (hE : p.block ∉ E) : w'.cell? p = some v := (h.cell (World.block_lt_of_cell? w p hv) hE).trans hv

/-- The cells of an expression. -/
structure ExC (w : World) (g : Nat) (k l n : Int) (s : List UInt8) (va vb vk vs vp vy : Value) : Prop where
  c0 : w.cell? ⟨g, 0, none⟩ = some (iV k)
  c1 : w.cell? ⟨g, 1, none⟩ = some (iV l)
  c2 : w.cell? ⟨g, 2, none⟩ = some (iV n)
  c3 : w.cell? ⟨g, 3, none⟩ = some (sV s)
  c4 : w.cell? ⟨g, 4, none⟩ = some va
  c5 : w.cell? ⟨g, 5, none⟩ = some vb
  c6 : w.cell? ⟨g, 6, none⟩ = some vk
  c7 : w.cell? ⟨g, 7, none⟩ = some vs
  c8 : w.cell? ⟨g, 8, none⟩ = some vp
  c9 : w.cell? ⟨g, 9, none⟩ = some vy
  warm : ∀ o, w.frozen? ⟨g, o, none⟩ = false
/-- The cells of a statement. -/
structure StC (w : World) (g : Nat) (k l : Int) (s : List UInt8) (va vb vo vx vy : Value) : Prop where
  c0 : w.cell? ⟨g, 0, none⟩ = some (iV k)
  c1 : w.cell? ⟨g, 1, none⟩ = some (iV l)
  c2 : w.cell? ⟨g, 2, none⟩ = some (sV s)
  c3 : w.cell? ⟨g, 3, none⟩ = some va
  c4 : w.cell? ⟨g, 4, none⟩ = some vb
  c5 : w.cell? ⟨g, 5, none⟩ = some vo
  c6 : w.cell? ⟨g, 6, none⟩ = some vx
  c7 : w.cell? ⟨g, 7, none⟩ = some vy
  warm : ∀ o, w.frozen? ⟨g, o, none⟩ = false
theorem ExC.keep {w w' : World} {g : Nat} {k l n : Int} {s : List UInt8} {va vb vk vs vp vy : Value} (h : ExC w g k l n s va vb vk vs vp vy) (hb : w'.heap[g]? = w.heap[g]?) : ExC w' g k l n s va vb vk vs vp vy := by
  have H : ∀ o, w'.cell? ⟨g, o, none⟩ = w.cell? ⟨g, o, none⟩ := fun o => World.cell?_of_block (a := ⟨g, o, none⟩) hb
  have F : ∀ o, w'.frozen? ⟨g, o, none⟩ = w.frozen? ⟨g, o, none⟩ := fun o => World.frozen?_of_block (a := ⟨g, o, none⟩) hb
  exact ⟨(H 0).trans h.c0, (H 1).trans h.c1, (H 2).trans h.c2, (H 3).trans h.c3, (H 4).trans h.c4, (H 5).trans h.c5, (H 6).trans h.c6, (H 7).trans h.c7, (H 8).trans h.c8, (H 9).trans h.c9, fun o => (F o).trans (h.warm o)⟩
theorem StC.keep {w w' : World} {g : Nat} {k l : Int} {s : List UInt8} {va vb vo vx vy : Value} (h : StC w g k l s va vb vo vx vy) (hb : w'.heap[g]? = w.heap[g]?) : StC w' g k l s va vb vo vx vy := by
  have H : ∀ o, w'.cell? ⟨g, o, none⟩ = w.cell? ⟨g, o, none⟩ := fun o => World.cell?_of_block (a := ⟨g, o, none⟩) hb
  have F : ∀ o, w'.frozen? ⟨g, o, none⟩ = w.frozen? ⟨g, o, none⟩ := fun o => World.frozen?_of_block (a := ⟨g, o, none⟩) hb
  exact ⟨(H 0).trans h.c0, (H 1).trans h.c1, (H 2).trans h.c2, (H 3).trans h.c3, (H 4).trans h.c4, (H 5).trans h.c5, (H 6).trans h.c6, (H 7).trans h.c7, fun o => (F o).trans (h.warm o)⟩
theorem ExC.lt {w : World} {g : Nat} {k l n : Int} {s : List UInt8} {va vb vk vs vp vy : Value} (h : ExC w g k l n s va vb vk vs vp vy) : g < w.heap.size := World.block_lt_of_cell? w _ h.c0
theorem StC.lt {w : World} {g : Nat} {k l : Int} {s : List UInt8} {va vb vo vx vy : Value} (h : StC w g k l s va vb vo vx vy) : g < w.heap.size := World.block_lt_of_cell? w _ h.c0

def lenT : Tree → Nat
  | .cons _ t => lenT t + 1
  | _ => 0
mutual
/-- What a value reads as: an expression, a statement, a text; all its blocks are of S. -/
def At (w : World) (S : Nat → Prop) : Tree → Value → Prop
  | .nil, v => v = .pointer none
  | .ex k l n s a b ks xs ps bd, v => ∃ g va vb Ak ck Ax cx Ap cp Ab cb, v = pV g ∧ S g ∧
      ExC w g k l n s va vb (.slice Ak (lenT ks) ck) (.slice Ax (lenT xs) cx) (.slice Ap (lenT ps) cp) (.slice Ab (lenT bd) cb) ∧
      At w S a va ∧ At w S b vb ∧ RowT w S ks Ak 0 ∧ RowT w S xs Ax 0 ∧ RowT w S ps Ap 0 ∧ RowT w S bd Ab 0 ∧ lenT ps ≤ cp
  | .st k l s a b c x y, v => ∃ g va vb vc Ax cx Ay cy, v = pV g ∧ S g ∧
      StC w g k l s va vb vc (.slice Ax (lenT x) cx) (.slice Ay (lenT y) cy) ∧
      At w S a va ∧ At w S b vb ∧ At w S c vc ∧ RowT w S x Ax 0 ∧ RowT w S y Ay 0
  | .cons _ _, _ => False
  | .tx s, v => v = sV s
/-- The elements of a slice. -/
def RowT (w : World) (S : Nat → Prop) : Tree → Option Addr → Nat → Prop
  | .cons h t, A, i => ∃ g x, A = some ⟨g, 0, none⟩ ∧ S g ∧ w.cell? ⟨g, i, none⟩ = some x ∧ At w S h x ∧ RowT w S t A (i + 1)
  | _, _, _ => True
end
/-- A slice that reads as a list of trees. -/
def Sl (w : World) (S : Nat → Prop) (t : Tree) (v : Value) : Prop := ∃ A c, v = .slice A (lenT t) c ∧ RowT w S t A 0
theorem at_keep {w w' : World} {S S' : Nat → Prop} (h : ∀ g, S g → S' g ∧ w'.heap[g]? = w.heap[g]?) (t : Tree) : (∀ v, At w S t v → At w' S' t v) ∧ (∀ A i, RowT w S t A i → RowT w' S' t A i) := by
  induction t with
  | nil => exact ⟨fun v hv => hv, fun _ _ _ => trivial⟩
  | tx s => exact ⟨fun v hv => hv, fun _ _ _ => trivial⟩
  | ex k l n s a b ks xs ps bd ia ib ik ix ip iy =>
    refine ⟨?_, fun _ _ _ => trivial⟩
    rintro v ⟨g, va, vb, Ak, ck, Ax, cx, Ap, cp, Ab, cb, rfl, hS, hc, h1, h2, h3, h4, h5, h6, h7⟩
    exact ⟨g, va, vb, Ak, ck, Ax, cx, Ap, cp, Ab, cb, rfl, (h g hS).1, hc.keep (h g hS).2, ia.1 _ h1, ib.1 _ h2, ik.2 _ _ h3, ix.2 _ _ h4, ip.2 _ _ h5, iy.2 _ _ h6, h7⟩
  | st k l s a b c x y ia ib ic ix iy =>
    refine ⟨?_, fun _ _ _ => trivial⟩
    rintro v ⟨g, va, vb, vc, Ax, cx, Ay, cy, rfl, hS, hc, h1, h2, h3, h4, h5⟩
    exact ⟨g, va, vb, vc, Ax, cx, Ay, cy, rfl, (h g hS).1, hc.keep (h g hS).2, ia.1 _ h1, ib.1 _ h2, ic.1 _ h3, ix.2 _ _ h4, iy.2 _ _ h5⟩
  | cons x r ix ir =>
    refine ⟨fun v hv => hv.elim, ?_⟩
    rintro A i ⟨g, y, rfl, hS, hc, h1, h2⟩
    exact ⟨g, y, rfl, (h g hS).1, (World.cell?_of_block (a := ⟨g, i, none⟩) (h g hS).2).trans hc, ix.1 _ h1, ir.2 _ _ h2⟩
theorem Sl.keep {w w' : World} {S S' : Nat → Prop} (h : ∀ g, S g → S' g ∧ w'.heap[g]? = w.heap[g]?) {t : Tree} {v : Value} (hs : Sl w S t v) : Sl w' S' t v := by
  obtain ⟨A, c, rfl, hr⟩ := hs
  exact ⟨A, c, rfl, (at_keep h t).2 _ _ hr⟩
theorem sl_nil (w : World) (S : Nat → Prop) : Sl w S .nil (.slice none 0 0) := ⟨none, 0, rfl, trivial⟩
/-- Blocks from lo on, up to now. -/
def Since (lo : Nat) (w : World) (k : Nat) : Prop := lo ≤ k ∧ k < w.heap.size
abbrev AtS (lo : Nat) (w : World) (t : Tree) (v : Value) : Prop := At w (Since lo w) t v
abbrev SlS (lo : Nat) (w : World) (t : Tree) (v : Value) : Prop := Sl w (Since lo w) t v
theorem since_past {E : List Nat} {lo lo' : Nat} {w w' : World} (h : Past E w w') (hE : ∀ i, i ∈ E → i < lo ∨ w.heap.size ≤ i) (hl : lo' ≤ lo) : ∀ g, Since lo w g → Since lo' w' g ∧ w'.heap[g]? = w.heap[g]? :=
  fun g hg => ⟨⟨Nat.le_trans hl hg.1, Nat.lt_of_lt_of_le hg.2 h.size⟩, h.block g hg.2 fun hi => by have := hE g hi; have := hg.1; have := hg.2; omega⟩
theorem at_past {E : List Nat} {lo lo' : Nat} {w w' : World} {t : Tree} {v : Value} (ht : AtS lo w t v) (h : Past E w w') (hE : ∀ i, i ∈ E → i < lo ∨ w.heap.size ≤ i) (hl : lo' ≤ lo) : AtS lo' w' t v := (at_keep (since_past h hE hl) t).1 _ ht
theorem sl_past {E : List Nat} {lo lo' : Nat} {w w' : World} {t : Tree} {v : Value} (ht : SlS lo w t v) (h : Past E w w') (hE : ∀ i, i ∈ E → i < lo ∨ w.heap.size ≤ i) (hl : lo' ≤ lo) : SlS lo' w' t v := Sl.keep (since_past h hE hl) ht
/-- A node out of its cells and parts. -/
theorem at_ex {w : World} {S : Nat → Prop} {g : Nat} {k l n : Int} {s : List UInt8} {va vb vk vs vp vy : Value} {a b ks xs ps bd : Tree} (hc : ExC w g k l n s va vb vk vs vp vy) (hS : S g) (h1 : At w S a va) (h2 : At w S b vb) (h3 : Sl w S ks vk) (h4 : Sl w S xs vs) (h5 : Sl w S ps vp) (h6 : Sl w S bd vy) (h7 : ∀ A c, vp = .slice A (lenT ps) c → lenT ps ≤ c) : At w S (.ex k l n s a b ks xs ps bd) (pV g) := by
  obtain ⟨Ak, ck, rfl, h3⟩ := h3
  obtain ⟨Ax, cx, rfl, h4⟩ := h4
  obtain ⟨Ap, cp, rfl, h5⟩ := h5
  obtain ⟨Ab, cb, rfl, h6⟩ := h6
  exact ⟨g, va, vb, Ak, ck, Ax, cx, Ap, cp, Ab, cb, rfl, hS, hc, h1, h2, h3, h4, h5, h6, h7 _ _ rfl⟩
theorem at_st {w : World} {S : Nat → Prop} {g : Nat} {k l : Int} {s : List UInt8} {va vb vc vx vy : Value} {a b c x y : Tree} (hc : StC w g k l s va vb vc vx vy) (hS : S g) (h1 : At w S a va) (h2 : At w S b vb) (h3 : At w S c vc) (h4 : Sl w S x vx) (h5 : Sl w S y vy) : At w S (.st k l s a b c x y) (pV g) := by
  obtain ⟨Ax, cx, rfl, h4⟩ := h4
  obtain ⟨Ay, cy, rfl, h5⟩ := h5
  exact ⟨g, va, vb, vc, Ax, cx, Ay, cy, rfl, hS, hc, h1, h2, h3, h4, h5⟩
theorem exC_new (w : World) (k l n : Int) (s : List UInt8) (va vb vk vs vp vy : Value) (T : TypeId) : ExC (w.alloc (.cells #[iV k, iV l, iV n, sV s, va, vb, vk, vs, vp, vy] T)) w.heap.size k l n s va vb vk vs vp vy :=
  ⟨by simp [go_sem], by simp [go_sem], by simp [go_sem], by simp [go_sem], by simp [go_sem], by simp [go_sem], by simp [go_sem], by simp [go_sem], by simp [go_sem], by simp [go_sem], fun o => by simp [go_sem]⟩
theorem stC_new (w : World) (k l : Int) (s : List UInt8) (va vb vo vx vy : Value) (T : TypeId) : StC (w.alloc (.cells #[iV k, iV l, sV s, va, vb, vo, vx, vy] T)) w.heap.size k l s va vb vo vx vy :=
  ⟨by simp [go_sem], by simp [go_sem], by simp [go_sem], by simp [go_sem], by simp [go_sem], by simp [go_sem], by simp [go_sem], by simp [go_sem], fun o => by simp [go_sem]⟩
theorem warm_set {w : World} {g : Nat} (h : ∀ o, w.frozen? ⟨g, o, none⟩ = false) (a : Addr) (v : Value) : ∀ o, (w.setCell a v).frozen? ⟨g, o, none⟩ = false := fun o => (World.frozen?_setCell w a _ v).trans (h o)
theorem cell_set_other {w : World} {g i j : Nat} (h : i ≠ j) (v : Value) : (w.setCell ⟨g, i, none⟩ v).cell? ⟨g, j, none⟩ = w.cell? ⟨g, j, none⟩ := World.cell?_setCell_other _ _ _ _ (fun e => h (by injection e with _ e2))
theorem cell_set_block {w : World} {g b i j : Nat} (h : b ≠ g) (v : Value) : (w.setCell ⟨b, i, none⟩ v).cell? ⟨g, j, none⟩ = w.cell? ⟨g, j, none⟩ := World.cell?_setCell_other _ _ _ _ (fun e => h (by injection e))
section
variable {w : World} {g : Nat} {k l n : Int} {s : List UInt8} {va vb vk vs vp vy v : Value}
theorem ExC.set0 (h : ExC w g k l n s va vb vk vs vp vy) (k' : Int) : ExC (w.setCell ⟨g, 0, none⟩ (iV k')) g k' l n s va vb vk vs vp vy :=
  ⟨World.cell?_setCell_same _ _ _ h.c0, (cell_set_other (by decide) _).trans h.c1, (cell_set_other (by decide) _).trans h.c2, (cell_set_other (by decide) _).trans h.c3, (cell_set_other (by decide) _).trans h.c4, (cell_set_other (by decide) _).trans h.c5, (cell_set_other (by decide) _).trans h.c6, (cell_set_other (by decide) _).trans h.c7, (cell_set_other (by decide) _).trans h.c8, (cell_set_other (by decide) _).trans h.c9, warm_set h.warm _ _⟩
theorem ExC.set2 (h : ExC w g k l n s va vb vk vs vp vy) (n' : Int) : ExC (w.setCell ⟨g, 2, none⟩ (iV n')) g k l n' s va vb vk vs vp vy :=
  ⟨(cell_set_other (by decide) _).trans h.c0, (cell_set_other (by decide) _).trans h.c1, World.cell?_setCell_same _ _ _ h.c2, (cell_set_other (by decide) _).trans h.c3, (cell_set_other (by decide) _).trans h.c4, (cell_set_other (by decide) _).trans h.c5, (cell_set_other (by decide) _).trans h.c6, (cell_set_other (by decide) _).trans h.c7, (cell_set_other (by decide) _).trans h.c8, (cell_set_other (by decide) _).trans h.c9, warm_set h.warm _ _⟩
theorem ExC.set3 (h : ExC w g k l n s va vb vk vs vp vy) (s' : List UInt8) : ExC (w.setCell ⟨g, 3, none⟩ (sV s')) g k l n s' va vb vk vs vp vy :=
  ⟨(cell_set_other (by decide) _).trans h.c0, (cell_set_other (by decide) _).trans h.c1, (cell_set_other (by decide) _).trans h.c2, World.cell?_setCell_same _ _ _ h.c3, (cell_set_other (by decide) _).trans h.c4, (cell_set_other (by decide) _).trans h.c5, (cell_set_other (by decide) _).trans h.c6, (cell_set_other (by decide) _).trans h.c7, (cell_set_other (by decide) _).trans h.c8, (cell_set_other (by decide) _).trans h.c9, warm_set h.warm _ _⟩
theorem ExC.set5 (h : ExC w g k l n s va vb vk vs vp vy) (v : Value) : ExC (w.setCell ⟨g, 5, none⟩ v) g k l n s va v vk vs vp vy :=
  ⟨(cell_set_other (by decide) _).trans h.c0, (cell_set_other (by decide) _).trans h.c1, (cell_set_other (by decide) _).trans h.c2, (cell_set_other (by decide) _).trans h.c3, (cell_set_other (by decide) _).trans h.c4, World.cell?_setCell_same _ _ _ h.c5, (cell_set_other (by decide) _).trans h.c6, (cell_set_other (by decide) _).trans h.c7, (cell_set_other (by decide) _).trans h.c8, (cell_set_other (by decide) _).trans h.c9, warm_set h.warm _ _⟩
theorem ExC.set6 (h : ExC w g k l n s va vb vk vs vp vy) (v : Value) : ExC (w.setCell ⟨g, 6, none⟩ v) g k l n s va vb v vs vp vy :=
  ⟨(cell_set_other (by decide) _).trans h.c0, (cell_set_other (by decide) _).trans h.c1, (cell_set_other (by decide) _).trans h.c2, (cell_set_other (by decide) _).trans h.c3, (cell_set_other (by decide) _).trans h.c4, (cell_set_other (by decide) _).trans h.c5, World.cell?_setCell_same _ _ _ h.c6, (cell_set_other (by decide) _).trans h.c7, (cell_set_other (by decide) _).trans h.c8, (cell_set_other (by decide) _).trans h.c9, warm_set h.warm _ _⟩
theorem ExC.set7 (h : ExC w g k l n s va vb vk vs vp vy) (v : Value) : ExC (w.setCell ⟨g, 7, none⟩ v) g k l n s va vb vk v vp vy :=
  ⟨(cell_set_other (by decide) _).trans h.c0, (cell_set_other (by decide) _).trans h.c1, (cell_set_other (by decide) _).trans h.c2, (cell_set_other (by decide) _).trans h.c3, (cell_set_other (by decide) _).trans h.c4, (cell_set_other (by decide) _).trans h.c5, (cell_set_other (by decide) _).trans h.c6, World.cell?_setCell_same _ _ _ h.c7, (cell_set_other (by decide) _).trans h.c8, (cell_set_other (by decide) _).trans h.c9, warm_set h.warm _ _⟩
theorem ExC.set8 (h : ExC w g k l n s va vb vk vs vp vy) (v : Value) : ExC (w.setCell ⟨g, 8, none⟩ v) g k l n s va vb vk vs v vy :=
  ⟨(cell_set_other (by decide) _).trans h.c0, (cell_set_other (by decide) _).trans h.c1, (cell_set_other (by decide) _).trans h.c2, (cell_set_other (by decide) _).trans h.c3, (cell_set_other (by decide) _).trans h.c4, (cell_set_other (by decide) _).trans h.c5, (cell_set_other (by decide) _).trans h.c6, (cell_set_other (by decide) _).trans h.c7, World.cell?_setCell_same _ _ _ h.c8, (cell_set_other (by decide) _).trans h.c9, warm_set h.warm _ _⟩
theorem ExC.set9 (h : ExC w g k l n s va vb vk vs vp vy) (v : Value) : ExC (w.setCell ⟨g, 9, none⟩ v) g k l n s va vb vk vs vp v :=
  ⟨(cell_set_other (by decide) _).trans h.c0, (cell_set_other (by decide) _).trans h.c1, (cell_set_other (by decide) _).trans h.c2, (cell_set_other (by decide) _).trans h.c3, (cell_set_other (by decide) _).trans h.c4, (cell_set_other (by decide) _).trans h.c5, (cell_set_other (by decide) _).trans h.c6, (cell_set_other (by decide) _).trans h.c7, (cell_set_other (by decide) _).trans h.c8, World.cell?_setCell_same _ _ _ h.c9, warm_set h.warm _ _⟩
end
section
variable {w : World} {g : Nat} {k l : Int} {s : List UInt8} {va vb vo vx vy v : Value}
theorem StC.set0 (h : StC w g k l s va vb vo vx vy) (k' : Int) : StC (w.setCell ⟨g, 0, none⟩ (iV k')) g k' l s va vb vo vx vy :=
  ⟨World.cell?_setCell_same _ _ _ h.c0, (cell_set_other (by decide) _).trans h.c1, (cell_set_other (by decide) _).trans h.c2, (cell_set_other (by decide) _).trans h.c3, (cell_set_other (by decide) _).trans h.c4, (cell_set_other (by decide) _).trans h.c5, (cell_set_other (by decide) _).trans h.c6, (cell_set_other (by decide) _).trans h.c7, warm_set h.warm _ _⟩
theorem StC.set2 (h : StC w g k l s va vb vo vx vy) (s' : List UInt8) : StC (w.setCell ⟨g, 2, none⟩ (sV s')) g k l s' va vb vo vx vy :=
  ⟨(cell_set_other (by decide) _).trans h.c0, (cell_set_other (by decide) _).trans h.c1, World.cell?_setCell_same _ _ _ h.c2, (cell_set_other (by decide) _).trans h.c3, (cell_set_other (by decide) _).trans h.c4, (cell_set_other (by decide) _).trans h.c5, (cell_set_other (by decide) _).trans h.c6, (cell_set_other (by decide) _).trans h.c7, warm_set h.warm _ _⟩
theorem StC.set3 (h : StC w g k l s va vb vo vx vy) (v : Value) : StC (w.setCell ⟨g, 3, none⟩ v) g k l s v vb vo vx vy :=
  ⟨(cell_set_other (by decide) _).trans h.c0, (cell_set_other (by decide) _).trans h.c1, (cell_set_other (by decide) _).trans h.c2, World.cell?_setCell_same _ _ _ h.c3, (cell_set_other (by decide) _).trans h.c4, (cell_set_other (by decide) _).trans h.c5, (cell_set_other (by decide) _).trans h.c6, (cell_set_other (by decide) _).trans h.c7, warm_set h.warm _ _⟩
theorem StC.set4 (h : StC w g k l s va vb vo vx vy) (v : Value) : StC (w.setCell ⟨g, 4, none⟩ v) g k l s va v vo vx vy :=
  ⟨(cell_set_other (by decide) _).trans h.c0, (cell_set_other (by decide) _).trans h.c1, (cell_set_other (by decide) _).trans h.c2, (cell_set_other (by decide) _).trans h.c3, World.cell?_setCell_same _ _ _ h.c4, (cell_set_other (by decide) _).trans h.c5, (cell_set_other (by decide) _).trans h.c6, (cell_set_other (by decide) _).trans h.c7, warm_set h.warm _ _⟩
theorem StC.set5 (h : StC w g k l s va vb vo vx vy) (v : Value) : StC (w.setCell ⟨g, 5, none⟩ v) g k l s va vb v vx vy :=
  ⟨(cell_set_other (by decide) _).trans h.c0, (cell_set_other (by decide) _).trans h.c1, (cell_set_other (by decide) _).trans h.c2, (cell_set_other (by decide) _).trans h.c3, (cell_set_other (by decide) _).trans h.c4, World.cell?_setCell_same _ _ _ h.c5, (cell_set_other (by decide) _).trans h.c6, (cell_set_other (by decide) _).trans h.c7, warm_set h.warm _ _⟩
theorem StC.set6 (h : StC w g k l s va vb vo vx vy) (v : Value) : StC (w.setCell ⟨g, 6, none⟩ v) g k l s va vb vo v vy :=
  ⟨(cell_set_other (by decide) _).trans h.c0, (cell_set_other (by decide) _).trans h.c1, (cell_set_other (by decide) _).trans h.c2, (cell_set_other (by decide) _).trans h.c3, (cell_set_other (by decide) _).trans h.c4, (cell_set_other (by decide) _).trans h.c5, World.cell?_setCell_same _ _ _ h.c6, (cell_set_other (by decide) _).trans h.c7, warm_set h.warm _ _⟩
theorem StC.set7 (h : StC w g k l s va vb vo vx vy) (v : Value) : StC (w.setCell ⟨g, 7, none⟩ v) g k l s va vb vo vx v :=
  ⟨(cell_set_other (by decide) _).trans h.c0, (cell_set_other (by decide) _).trans h.c1, (cell_set_other (by decide) _).trans h.c2, (cell_set_other (by decide) _).trans h.c3, (cell_set_other (by decide) _).trans h.c4, (cell_set_other (by decide) _).trans h.c5, (cell_set_other (by decide) _).trans h.c6, World.cell?_setCell_same _ _ _ h.c7, warm_set h.warm _ _⟩
end
end Go.Proofs.Ytlbbbfmnghcdnaa
