/- What each call of the parser answers, at a fuel: the plain parser's answer. -/
import Derived.Test.YtebkdegcifkigaaGreatDoorParSmall
import Derived.WalkMore
namespace Go.Proofs.YtebkdegcifkigaaGreatDoor.P5
set_option maxRecDepth 20000
open Go.RowKit Go.Maps

def isEx : Tree → Bool
  | .ex _ _ _ _ _ _ _ _ _ _ => true
  | _ => false
def isSt : Tree → Bool
  | .st _ _ _ _ _ _ _ _ => true
  | _ => false
/-- An expression; a statement; a slice; an expression and whether it stands in parentheses; a name and its function; a key, or none, and an item. -/
def VE (lo : Nat) (x : Tree) (w : World) (v : Value) : Prop := AtS lo w x v ∧ isEx x = true
def VS (lo : Nat) (x : Tree) (w : World) (v : Value) : Prop := AtS lo w x v ∧ isSt x = true
def VL (lo : Nat) (x : Tree) (w : World) (v : Value) : Prop := SlS lo w x v
def VP (lo : Nat) (x : Tree) (w : World) (v : Value) : Prop := ∃ y b u, x = .cons (flagT b) y ∧ v = .tuple #[u, .bool b] ∧ VE lo y w u
def VN (lo : Nat) (x : Tree) (w : World) (v : Value) : Prop := ∃ y z u t, x = .cons y z ∧ v = .tuple #[u, t] ∧ VE lo y w u ∧ VE lo z w t
def VI (lo : Nat) (x : Tree) (w : World) (v : Value) : Prop := ∃ y z o t, x = .cons y z ∧ v = .tuple #[.pointer o, t] ∧ AtS lo w y (.pointer o) ∧ VE lo z w t
/-- A statement that is filled in. -/
def VF (b : Nat) (x : Tree) (w : World) (v : Value) : Prop := v = .tuple #[] ∧ AtS b w x (pV b) ∧ isSt x = true
/-- .. of which B may still be set. -/
def VC (b : Nat) (x : Tree) (w : World) (v : Value) : Prop := v = .tuple #[] ∧ ∃ l e a vb vx, x = .st 6 l [] .nil e .nil a .nil ∧ StC w b 6 l [] (.pointer none) vb (.pointer none) vx (.slice none 0 0) ∧ VE (b + 1) e w vb ∧ VL (b + 1) a w vx
/-- A new statement. -/
def NewSt (w : World) (b : Nat) (l : Nat) : Prop := StC w b 0 l [] (.pointer none) (.pointer none) (.pointer none) (.slice none 0 0) (.slice none 0 0)
theorem VE.past {E : List Nat} {lo lo' : Nat} {w w' : World} {x : Tree} {v : Value} (h : VE lo x w v) (hp : Past E w w') (hE : ∀ i, i ∈ E → i < lo ∨ w.heap.size ≤ i) (hl : lo' ≤ lo) : VE lo' x w' v := ⟨at_past h.1 hp hE hl, h.2⟩
theorem VL.past {E : List Nat} {lo lo' : Nat} {w w' : World} {x : Tree} {v : Value} (h : VL lo x w v) (hp : Past E w w') (hE : ∀ i, i ∈ E → i < lo ∨ w.heap.size ≤ i) (hl : lo' ≤ lo) : VL lo' x w' v := sl_past h hp hE hl
theorem VE.ptr {lo : Nat} {x : Tree} {w : World} {v : Value} (h : VE lo x w v) : ∃ u, v = pV u := by
  obtain ⟨h, hx⟩ := h
  cases x with
  | ex => obtain ⟨g, _, _, _, _, _, _, _, _, _, _, rfl, _⟩ := h; exact ⟨g, rfl⟩
  | _ => cases hx
theorem VE.name {lo : Nat} {x : Tree} {w : World} {v : Value} (h : VE lo x w v) : ∃ u, v = pV u ∧ w.cell? ⟨u, 3, none⟩ = some (sV (textT x)) ∧ w.cell? ⟨u, 0, none⟩ = some (iV (kindT x)) ∧ lo ≤ u ∧ u < w.heap.size := by
  obtain ⟨h, hx⟩ := h
  cases x with
  | ex => obtain ⟨g, _, _, _, _, _, _, _, _, _, _, rfl, hS, hc, _⟩ := h; exact ⟨g, rfl, hc.c3, hc.c0, hS.1, hS.2⟩
  | _ => cases hx
theorem VS.name {lo : Nat} {x : Tree} {w : World} {v : Value} (h : VS lo x w v) : ∃ u, v = pV u ∧ w.cell? ⟨u, 0, none⟩ = some (iV (kindT x)) ∧ lo ≤ u ∧ u < w.heap.size := by
  obtain ⟨h, hx⟩ := h
  cases x with
  | st => obtain ⟨g, _, _, _, _, _, _, _, rfl, hS, hc, _⟩ := h; exact ⟨g, rfl, hc.c0, hS.1, hS.2⟩
  | _ => cases hx
theorem VS.ptr {lo : Nat} {x : Tree} {w : World} {v : Value} (h : VS lo x w v) : ∃ u, v = pV u := by
  obtain ⟨h, hx⟩ := h
  cases x with
  | st => obtain ⟨g, _, _, _, _, _, _, _, rfl, _⟩ := h; exact ⟨g, rfl⟩
  | _ => cases hx
theorem VL.sl {lo : Nat} {x : Tree} {w : World} {v : Value} (h : VL lo x w v) : ∃ A c, v = .slice A (lenT x) c := by
  obtain ⟨A, c, rfl, _⟩ := h
  exact ⟨A, c, rfl⟩
theorem VN.past {E : List Nat} {lo lo' : Nat} {w w' : World} {x : Tree} {v : Value} (h : VN lo x w v) (hp : Past E w w') (hE : ∀ i, i ∈ E → i < lo ∨ w.heap.size ≤ i) (hl : lo' ≤ lo) : VN lo' x w' v := by
  obtain ⟨y, z, u, t, rfl, rfl, h1, h2⟩ := h
  exact ⟨y, z, u, t, rfl, rfl, h1.past hp hE hl, h2.past hp hE hl⟩
/-- The contracts at a fuel. -/
structure Spec (n : Nat) : Prop where
  operation : ∀ {w : World} {p d : Nat} {ts : List Tok} (least : Nat) (k : Int), k = least → PAt w p d ts → 1 ≤ least → least ≤ 11 → parseF n (.operation least) d ts ≠ .out → Calls Tryz.prog 137 #[pV p, iV k] w (Ends p d [p] (parseF n (.operation least) d ts) (VE w.heap.size) w)
  behind : ∀ {w : World} {p d : Nat} {ts : List Tok} (lo : Nat) (left : Tree) (vl : Value), PAt w p d ts → p < lo → lo ≤ w.heap.size → VE lo left w vl → 1 ≤ strengthT (sgnT ts) → parseF n (.behind left) d ts ≠ .out → Calls Tryz.prog 159 #[pV p, vl] w (Ends p d [p] (parseF n (.behind left) d ts) (VE lo) w)
  operand : ∀ {w : World} {p d : Nat} {ts : List Tok}, PAt w p d ts → parseF n .operand d ts ≠ .out → Calls Tryz.prog 158 #[pV p] w (Ends p d [p] (parseF n .operand d ts) (VE w.heap.size) w)
  postExpr : ∀ {w : World} {p d : Nat} {ts : List Tok}, PAt w p d ts → parseF n .postExpr d ts ≠ .out → Calls Tryz.prog 114 #[pV p] w (Ends p d [p] (parseF n .postExpr d ts) (VP w.heap.size) w)
  primary : ∀ {w : World} {p d : Nat} {ts : List Tok}, PAt w p d ts → parseF n .primary d ts ≠ .out → Calls Tryz.prog 141 #[pV p] w (Ends p d [p] (parseF n .primary d ts) (VE w.heap.size) w)
  enclosed : ∀ {w : World} {p d : Nat} {ts : List Tok} (first last : List UInt8), first ≠ [] → last ≠ [] → PAt w p d ts → parseF n (.enclosed first last) d ts ≠ .out → Calls Tryz.prog 142 #[pV p, sV first, sV last] w (Ends p d [p] (parseF n (.enclosed first last) d ts) (VE w.heap.size) w)
  args : ∀ {w : World} {p d : Nat} {ts : List Tok}, PAt w p d ts → parseF n (.list [40] [41] 0) d ts ≠ .out → Calls Tryz.prog 143 #[pV p] w (Ends p d [p] (parseF n (.list [40] [41] 0) d ts) (VL w.heap.size) w)
  function : ∀ {w : World} {p d : Nat} {ts : List Tok}, PAt w p d ts → parseF n .function d ts ≠ .out → Calls Tryz.prog 160 #[pV p] w (Ends p d [p] (parseF n .function d ts) (VE w.heap.size) w)
  namedFunction : ∀ {w : World} {p d : Nat} {ts : List Tok}, PAt w p d ts → parseF n .namedFunction d ts ≠ .out → Calls Tryz.prog 72 #[pV p] w (Ends p d [p] (parseF n .namedFunction d ts) (VN w.heap.size) w)
  body : ∀ {w : World} {p d : Nat} {ts : List Tok} (line : Nat), PAt w p d ts → parseF n (.body line) d ts ≠ .out → Calls Tryz.prog 113 #[pV p, iV line] w (Ends p d [p] (parseF n (.body line) d ts) (VE w.heap.size) w)
  table : ∀ {w : World} {p d : Nat} {ts : List Tok}, PAt w p d ts → parseF n .table d ts ≠ .out → Calls Tryz.prog 161 #[pV p] w (Ends p d [p] (parseF n .table d ts) (VE w.heap.size) w)
  item : ∀ {w : World} {p d : Nat} {ts : List Tok}, PAt w p d ts → parseF n .item d ts ≠ .out → Calls Tryz.prog 172 #[pV p] w (Ends p d [p] (parseF n .item d ts) (VI w.heap.size) w)
  block : ∀ {w : World} {p d : Nat} {ts : List Tok} (word : List UInt8), word ≠ [] → PAt w p d ts → parseF n (.block word) d ts ≠ .out → Calls Tryz.prog 65 #[pV p, sV word] w (Ends p d [p] (parseF n (.block word) d ts) (VL w.heap.size) w)
  stmts : ∀ {w : World} {p d : Nat} {ts : List Tok}, PAt w p d ts → parseF n .stmts d ts ≠ .out → Calls Tryz.prog 23 #[pV p] w (Ends p d [p] (parseF n .stmts d ts) (VL w.heap.size) w)
  stmt : ∀ {w : World} {p d : Nat} {ts : List Tok}, PAt w p d ts → parseF n .stmt d ts ≠ .out → Calls Tryz.prog 39 #[pV p] w (Ends p d [p] (parseF n .stmt d ts) (VS w.heap.size) w)
  local_ : ∀ {w : World} {p d b l : Nat} {ts : List Tok}, PAt w p d ts → p < b → NewSt w b l → parseF n (.local_ l) d ts ≠ .out → Calls Tryz.prog 64 #[pV p, pV b] w (Ends p d [p, b] (parseF n (.local_ l) d ts) (VF b) w)
  while_ : ∀ {w : World} {p d b l : Nat} {ts : List Tok}, PAt w p d ts → p < b → NewSt w b l → parseF n (.while_ l) d ts ≠ .out → Calls Tryz.prog 67 #[pV p, pV b] w (Ends p d [p, b] (parseF n (.while_ l) d ts) (VF b) w)
  count : ∀ {w : World} {p d b l : Nat} {ts : List Tok}, PAt w p d ts → p < b → NewSt w b l → parseF n (.count l) d ts ≠ .out → Calls Tryz.prog 68 #[pV p, pV b] w (Ends p d [p, b] (parseF n (.count l) d ts) (VF b) w)
  choice : ∀ {w : World} {p d b l : Nat} {ts : List Tok}, PAt w p d ts → p < b → NewSt w b l → parseF n (.choice [105, 102] l) d ts ≠ .out → Calls Tryz.prog 69 #[pV p, pV b] w (Ends p d [p, b] (parseF n (.choice [105, 102] l) d ts) (VF b) w)
  condition : ∀ {w : World} {p d b l : Nat} {ts : List Tok} (word : List UInt8), word ≠ [] → PAt w p d ts → p < b → NewSt w b l → parseF n (.condition l word) d ts ≠ .out → Calls Tryz.prog 111 #[pV p, pV b, sV word] w (Ends p d [p, b] (parseF n (.condition l word) d ts) (VC b) w)
  result : ∀ {w : World} {p d b l : Nat} {ts : List Tok}, PAt w p d ts → p < b → NewSt w b l → parseF n (.result l) d ts ≠ .out → Calls Tryz.prog 70 #[pV p, pV b] w (Ends p d [p, b] (parseF n (.result l) d ts) (VF b) w)
  try_ : ∀ {w : World} {p d b l : Nat} {ts : List Tok}, PAt w p d ts → p < b → NewSt w b l → parseF n (.try_ l) d ts ≠ .out → Calls Tryz.prog 71 #[pV p, pV b] w (Ends p d [p, b] (parseF n (.try_ l) d ts) (VF b) w)
  post : ∀ {w : World} {p d b l : Nat} {ts : List Tok}, PAt w p d ts → p < b → NewSt w b l → parseF n (.post l) d ts ≠ .out → Calls Tryz.prog 73 #[pV p, pV b] w (Ends p d [p, b] (parseF n (.post l) d ts) (VF b) w)
/-- Behind a fault the closure that was deferred closes again, and the fault goes on. -/
theorem door_bad {fn : Func} {tmps : Array Value} {p d q b : Nat} {E : List Nat} {V : Tree → World → Value → Prop} {c : Int} {l : Nat} {w w2 : World} (hq : w2.cell? ⟨q, 0, none⟩ = some (pV p)) (hb : w.heap.size ≤ b) (hf : FaultAt w2 b c l) (hw : Past E w w2) (hW : Warm w2 p) (hpE : p ∈ E) (hp : p < w.heap.size) :
    Leaves Tryz.prog fn tmps (Ends p d E (.bad c l) V w) [{ target := .fn (.func 138) #[pV q], args := #[] }] (.panicking [{ v := .iface 59 (pV b), recovered := false }]) w2 := by
  obtain ⟨⟨k, hk⟩, hz⟩ := hW
  refine leaves_cons (f := 138) (args := #[pV q]) (by simp) (by simp [go_sem]) ?_
  refine (close_any _ hq hk (hz 1)).mono ?_
  rintro e u' w' ⟨rfl, rfl, rfl⟩
  show Ends p d E (.bad c l) V w (.panicked [{ v := .iface 59 (pV b), recovered := false }]) _
  exact ⟨b, rfl, hb, hf.keep (Below.heap_setCell _ _ _ _ (show b ≠ p by omega)), hw.setCell (.inl hpE) _, ⟨_, World.cell?_setCell_same _ _ _ hk⟩, warm_set hz _ _⟩
/-- Behind a call that returns it closes again. -/
theorem door_ok {fn : Func} {tmps : Array Value} {p d q : Nat} {E : List Nat} {V : Tree → World → Value → Prop} {x : Tree} {ts : List Tok} {v : Value} {w w2 : World} (hq : w2.cell? ⟨q, 0, none⟩ = some (pV p)) (hP : PAt w2 p (d + 1) ts) (hw : Past E w w2) (hpE : p ∈ E)
    (hr : ∀ W, (results fn tmps).run Tryz.prog W = .ok v W) (hV : ∀ W, Past [p] w2 W → V x W v) :
    Leaves Tryz.prog fn tmps (Ends p d E (.ok x ts) V w) [{ target := .fn (.func 138) #[pV q], args := #[] }] .returning w2 := by
  obtain ⟨g, o, c, m, h⟩ := hP
  refine leaves_cons (f := 138) (args := #[pV q]) (by simp) (by simp [go_sem]) ?_
  refine (close_any _ hq h.c1 (h.warm 1)).mono ?_
  rintro e u' w' ⟨rfl, rfl, rfl⟩
  have hd := h.deep
  have e1 : wrap64 (((d + 1 : Nat) : Int) - 1) = (d : Int) := by rw [show (((d + 1 : Nat) : Int) - 1) = (d : Int) by omega]; unfold wrap64; omega
  rw [e1]
  exact ⟨v, hr _, v, rfl, hV _ ((Past.refl _ _).setCell (.inl (by simp)) _), ⟨g, o, c, m, h.opens d (by omega)⟩, hw.setCell (.inl hpE) _⟩
theorem Spec.expr {n : Nat} (S : Spec n) {w : World} {p d : Nat} {ts : List Tok} (h : PAt w p d ts) (hD : parseF n (.operation 1) d ts ≠ .out) : Calls Tryz.prog 109 #[pV p] w (Ends p d [p] (parseF n (.operation 1) d ts) (VE w.heap.size) w) := by
  have O := S.operation 1 1 rfl h (by omega) (by omega) hD
  have O := Lib.hid O
  cases hr : parseF n (.operation 1) d ts with
  | out => exact absurd hr hD
  | bad c l =>
    rw [hr] at O
    clear hr hD S h
    go_enter Tryz.func109, Tryz.ntmps109
    go_wp2_with (first
      | (go_at_call 137; (with_reducible refine O.out.mono ?_); rintro e w2 hB; obtain ⟨b, rfl, hb1, hb2, hb3, hb4⟩ := hB))
    exact ⟨rfl, b, rfl, hb1, hb2, hb3, hb4⟩
  | ok x ts2 =>
    rw [hr] at O
    clear hr hD S h
    go_enter Tryz.func109, Tryz.ntmps109
    go_wp2_with (first
      | (go_at_call 137; (with_reducible refine O.out.mono ?_); rintro e w2 ⟨v, rfl, hv, hp2, hw2⟩))
    go_ret
    exact ⟨v, rfl, hv, hp2, hw2⟩
end Go.Proofs.YtebkdegcifkigaaGreatDoor.P5
