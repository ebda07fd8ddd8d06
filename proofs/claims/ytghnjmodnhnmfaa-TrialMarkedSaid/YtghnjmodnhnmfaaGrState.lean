/- A graph in memory; what is asked of an object, and of a value, by a function that is handed in. No walk. -/
import Derived.Test.YtghnjmodnhnmfaaBase
import Derived.Test.YtghnjmodnhnmfaaGrMap
namespace Go.Proofs.Ytghnjmodnhnmfaa
set_option maxRecDepth 20000
set_option maxRecDepth 20000
open Go.RowKit Go.Maps

abbrev iV (n : Int) : Value := .int .i64 n
abbrev vV (v : Int × Int) : Value := .agg #[.int .i64 v.1, .int .i64 v.2]
abbrev bV (b : Nat) : Value := .pointer (some ⟨b, 0, none⟩)
abbrev oV (o : OB) (A : Option Addr) (c : Nat) : Value := .agg #[iV o.kind, iV o.count, .slice A o.slots.length c, .string o.text, iV o.mark]
abbrev gV (A : Option Addr) (n c : Nat) : Value := .agg #[.slice A n c]
def SlotsAt (w : World) (o : OB) (A : Option Addr) : Prop := PairsAt w A o.slots ∧ o.slots.length * 16 ≤ 140737488355328
theorem SlotsAt.below {w w' : World} {o : OB} {A : Option Addr} (h : SlotsAt w o A) (hb : Below w.heap.size w w') : SlotsAt w' o A := ⟨pairs_below h.1 hb, h.2⟩
def CellsAt (w : World) (a : Addr) (o : OB) (A : Option Addr) (c : Nat) : Prop :=
  w.cell? a = some (iV o.kind) ∧ w.cell? ⟨a.block, a.off + 1, none⟩ = some (iV o.count) ∧ w.cell? ⟨a.block, a.off + 2, none⟩ = some (.slice A o.slots.length c) ∧ w.cell? ⟨a.block, a.off + 3, none⟩ = some (.string o.text) ∧ w.cell? ⟨a.block, a.off + 4, none⟩ = some (iV o.mark)
theorem CellsAt.below {w w' : World} {a : Addr} {o : OB} {A : Option Addr} {c : Nat} (h : CellsAt w a o A c) (ha : a.block < w.heap.size) (hb : Below w.heap.size w w') : CellsAt w' a o A c := by
  obtain ⟨h0, h1, h2, h3, h4⟩ := h
  have k : ∀ j, w'.cell? ⟨a.block, a.off + j, none⟩ = w.cell? ⟨a.block, a.off + j, none⟩ := fun j => hb.cell (p := ⟨a.block, a.off + j, none⟩) ha
  exact ⟨(hb.cell (p := a) ha).trans h0, (k 1).trans h1, (k 2).trans h2, (k 3).trans h3, (k 4).trans h4⟩
/-- The slice's cells hold the objects g. -/
def GAt (w : World) (A : Option Addr) (g : List OB) : Prop :=
  ∀ i o, g[i]? = some o → ∃ a sA sc, A = some a ∧ a.block < w.heap.size ∧ CellsAt w (a.add (i * 5)) o sA sc ∧ SlotsAt w o sA
theorem GAt.below {w w' : World} {A : Option Addr} {g : List OB} (h : GAt w A g) (hb : Below w.heap.size w w') : GAt w' A g := by
  intro i o ho
  obtain ⟨a, sA, sc, e, hl, hc, hs⟩ := h i o ho
  exact ⟨a, sA, sc, e, Nat.lt_of_lt_of_le hl hb.size, hc.below (by rw [Go.ChangeShapes.block_add]; exact hl) hb, hs.below hb⟩
/-- f says of an object's number and the object what p says. -/
def AskAt (w : World) (f : Value) (p : Nat → OB → Bool) : Prop :=
  ∃ g lb, f = .func (.func g) #[] lb ∧ (∀ args w, (callFunc g args).run Try.prog w = .ok (.enter g args) w) ∧
    ∀ (W : World) (n : Nat) (o : OB) (A : Option Addr) (c : Nat), Below w.heap.size w W → SlotsAt W o A → n ≤ 4611686018427387904 →
      Calls Try.prog g (#[iV n, oV o A c] ++ lb) W fun e w' => e = .returned (.bool (p n o)) ∧ Below W.heap.size W w'
theorem AskAt.below {w w' : World} {f : Value} {p : Nat → OB → Bool} (h : AskAt w f p) (hb : Below w.heap.size w w') : AskAt w' f p := by
  obtain ⟨g, lb, e, h1, h2⟩ := h
  exact ⟨g, lb, e, h1, fun W n o A c hW => h2 W n o A c (hb.trans (hW.mono hb.size))⟩
/-- The slice's cells hold functions that say what ps say. -/
def AsksAt (w : World) (A : Option Addr) (ps : List (Nat → OB → Bool)) : Prop :=
  ∀ i p, ps[i]? = some p → ∃ a f, A = some a ∧ a.block < w.heap.size ∧ w.cell? (a.add i) = some f ∧ AskAt w f p
theorem AsksAt.below {w w' : World} {A : Option Addr} {ps : List (Nat → OB → Bool)} (h : AsksAt w A ps) (hb : Below w.heap.size w w') : AsksAt w' A ps := by
  intro i p hp
  obtain ⟨a, f, e, hl, hc, hs⟩ := h i p hp
  exact ⟨a, f, e, Nat.lt_of_lt_of_le hl hb.size, (hb.cell (by rw [Go.ChangeShapes.block_add]; exact hl)).trans hc, hs.below hb⟩
/-- f says of a value what p says. -/
def ValAsk (w : World) (f : Value) (p : Int × Int → Bool) : Prop :=
  ∃ g lb, f = .func (.func g) #[] lb ∧ (∀ args w, (callFunc g args).run Try.prog w = .ok (.enter g args) w) ∧
    ∀ (W : World) (v : Int × Int), Below w.heap.size w W → Calls Try.prog g (#[vV v] ++ lb) W fun e w' => e = .returned (.bool (p v)) ∧ Below W.heap.size W w'
theorem ValAsk.below {w w' : World} {f : Value} {p : Int × Int → Bool} (h : ValAsk w f p) (hb : Below w.heap.size w w') : ValAsk w' f p := by
  obtain ⟨g, lb, e, h1, h2⟩ := h
  exact ⟨g, lb, e, h1, fun W v hW => h2 W v (hb.trans (hW.mono hb.size))⟩
/-- A slice of values, or of what else, that is not read. -/
def askAll (ps : List (Nat → OB → Bool)) : Nat → OB → Bool := fun n o => ps.all fun p => p n o
end Go.Proofs.Ytghnjmodnhnmfaa
