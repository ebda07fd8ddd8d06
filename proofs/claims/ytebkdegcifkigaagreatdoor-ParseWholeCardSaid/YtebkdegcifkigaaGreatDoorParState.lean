/- The parser's struct in memory: its tokens, how much is open, the strengths. What a call of it leaves: an end by a fault, or a value. No walk. -/
import Derived.Test.YtebkdegcifkigaaGreatDoorParHeap
import Derived.Maps.OwnSet
import Derived.Defers
namespace Go.Proofs.YtebkdegcifkigaaGreatDoor
set_option maxRecDepth 20000
open Go.RowKit Go.Maps

def TokCells (w : World) (g : Nat) : Nat → List Tok → Prop
  | _, [] => True
  | o, t :: r => w.cell? ⟨g, o, none⟩ = some (iV t.kind) ∧ w.cell? ⟨g, o + 1, none⟩ = some (sV t.text) ∧ w.cell? ⟨g, o + 2, none⟩ = some (iV t.num) ∧ w.cell? ⟨g, o + 3, none⟩ = some (iV t.line) ∧ TokCells w g (o + 4) r
theorem TokCells.keep {w w' : World} {g : Nat} (h : w'.heap[g]? = w.heap[g]?) : ∀ (ts : List Tok) (o : Nat), TokCells w g o ts → TokCells w' g o ts
  | [], _, _ => trivial
  | t :: r, o, ⟨h0, h1, h2, h3, hr⟩ => by
    have H : ∀ o, w'.cell? ⟨g, o, none⟩ = w.cell? ⟨g, o, none⟩ := fun o => World.cell?_of_block (a := ⟨g, o, none⟩) h
    exact ⟨(H _).trans h0, (H _).trans h1, (H _).trans h2, (H _).trans h3, TokCells.keep h r _ hr⟩
theorem zeroInt (w : World) : (zeroValue 3).run Tryz.prog w = .ok (.int .i64 0) w := by kernel_rfl
/-- Block m holds the strengths. -/
def StrAt (w : World) (m : Nat) : Prop := ∃ (n : Nat) (D : DataW Unit), w.ownsMap Tryz.prog 9 (plainElem Tryz.prog 3) m n D ∧ ∀ s, D.atKey (.string s) (.lit (.int .i64 0)) = .lit (.int .i64 (strengthT s))
theorem StrAt.keep {w w' : World} {m : Nat} (h : StrAt w m) (hb : w'.heap[m]? = w.heap[m]?) : StrAt w' m := by
  obtain ⟨n, D, ⟨es, clock, he, r⟩, hf⟩ := h
  exact ⟨n, D, ⟨es, clock, hb.trans he, r⟩, hf⟩
theorem StrAt.lt {w : World} {m : Nat} (h : StrAt w m) : m < w.heap.size := by
  obtain ⟨n, D, ho, _⟩ := h
  exact ho.lt
theorem str_key (s : List UInt8) (hs : s.length ≤ 32768) : keyOf Tryz.prog 9 (sV s) = some (.string s) := by
  rw [keyOf_string Tryz.underlying9]
  have h1 : (⟨s.toArray⟩ : ByteArray).size = s.length := by show s.toArray.size = _; simp
  simp [mapKey, Tryz.underlying9, h1]
  unfold maxLen; omega
theorem StrAt.look {w : World} {m : Nat} (h : StrAt w m) (s : List UInt8) (hs : s.length ≤ 32768) : (Instr.lookup 60 (.map (some m)) (sV s) false).run Tryz.prog w = .ok (iV (strengthT s)) w := by
  obtain ⟨n, D, ho, hf⟩ := h
  obtain ⟨c, hrun, hat, _⟩ := ho.lookup_int (string_keyed Tryz.underlying9) Tryz.underlying60 Tryz.underlying3 (zeroInt w) (str_key s hs)
  rw [hf s] at hat
  simp only [DataW.lit.injEq, Lit.int.injEq, true_and] at hat
  rw [hrun, hat]
/-- The parser's struct. -/
structure PIn (w : World) (p d : Nat) (ts : List Tok) (g o c m : Nat) : Prop where
  gp : g < p
  mp : m < p
  c0 : w.cell? ⟨p, 0, none⟩ = some (.slice (some ⟨g, o, none⟩) ts.length c)
  c1 : w.cell? ⟨p, 1, none⟩ = some (iV d)
  c2 : w.cell? ⟨p, 2, none⟩ = some (.map (some m))
  warm : ∀ o, w.frozen? ⟨p, o, none⟩ = false
  toks : TokCells w g o ts
  map : StrAt w m
  cap : ts.length ≤ c
  small : c ≤ 9223372036854775807
  deep : d ≤ 64
  wf : WFT ts
  short : ∀ t, t ∈ ts → t.text.length ≤ 32768
  row : ∃ cur fr, w.heap[g]? = some (.cells cur 66 fr)
def PAt (w : World) (p d : Nat) (ts : List Tok) : Prop := ∃ g o c m, PIn w p d ts g o c m
theorem PIn.lt {w : World} {p d : Nat} {ts : List Tok} {g o c m : Nat} (h : PIn w p d ts g o c m) : p < w.heap.size := World.block_lt_of_cell? w _ h.c0
theorem PAt.lt {w : World} {p d : Nat} {ts : List Tok} (h : PAt w p d ts) : p < w.heap.size := by obtain ⟨g, o, c, m, h⟩ := h; exact h.lt
theorem PAt.wf {w : World} {p d : Nat} {ts : List Tok} (h : PAt w p d ts) : WFT ts := by obtain ⟨g, o, c, m, h⟩ := h; exact h.wf
theorem PAt.deep {w : World} {p d : Nat} {ts : List Tok} (h : PAt w p d ts) : d ≤ 64 := by obtain ⟨g, o, c, m, h⟩ := h; exact h.deep
theorem PIn.keep {w w' : World} {p d : Nat} {ts : List Tok} {g o c m : Nat} (h : PIn w p d ts g o c m) (hb : ∀ k, k ≤ p → w'.heap[k]? = w.heap[k]?) : PIn w' p d ts g o c m := by
  have H : ∀ j, w'.cell? ⟨p, j, none⟩ = w.cell? ⟨p, j, none⟩ := fun j => World.cell?_of_block (a := ⟨p, j, none⟩) (hb p (Nat.le_refl _))
  have F : ∀ j, w'.frozen? ⟨p, j, none⟩ = w.frozen? ⟨p, j, none⟩ := fun j => World.frozen?_of_block (a := ⟨p, j, none⟩) (hb p (Nat.le_refl _))
  exact ⟨h.gp, h.mp, (H 0).trans h.c0, (H 1).trans h.c1, (H 2).trans h.c2, fun j => (F j).trans (h.warm j), TokCells.keep (hb g (Nat.le_of_lt h.gp)) _ _ h.toks, h.map.keep (hb m (Nat.le_of_lt h.mp)), h.cap, h.small, h.deep, h.wf, h.short, by obtain ⟨cur, fr, e⟩ := h.row; exact ⟨cur, fr, (hb g (Nat.le_of_lt h.gp)).trans e⟩⟩
theorem PAt.keep {w w' : World} {p d : Nat} {ts : List Tok} (h : PAt w p d ts) (hb : ∀ k, k ≤ p → w'.heap[k]? = w.heap[k]?) : PAt w' p d ts := by
  obtain ⟨g, o, c, m, h⟩ := h
  exact ⟨g, o, c, m, h.keep hb⟩
theorem PAt.past {w w' : World} {p d : Nat} {ts : List Tok} {E : List Nat} (h : PAt w p d ts) (hw : Past E w w') (hE : ∀ k, k ∈ E → p < k) : PAt w' p d ts :=
  h.keep fun k hk => hw.block k (by have := h.lt; omega) (fun he => by have := hE k he; omega)
theorem PAt.alloc {w : World} {p d : Nat} {ts : List Tok} (h : PAt w p d ts) (o : Obj) : PAt (w.alloc o) p d ts := h.keep fun k hk => Below.heap_alloc _ _ _ (by have := h.lt; omega)
theorem PAt.drew {w : World} {p d : Nat} {ts : List Tok} (h : PAt w p d ts) : PAt w.drew p d ts := h.keep fun _ _ => rfl
theorem PAt.set {w : World} {p d b i : Nat} {ts : List Tok} (h : PAt w p d ts) (hb : p < b) (v : Value) : PAt (w.setCell ⟨b, i, none⟩ v) p d ts := h.keep fun k hk => Below.heap_setCell _ _ _ _ (show k ≠ b by omega)
/-- The token that comes next. -/
structure HdC (w : World) (g o : Nat) (t : Tok) : Prop where
  c0 : w.cell? ⟨g, o, none⟩ = some (iV t.kind)
  c1 : w.cell? ⟨g, o + 1, none⟩ = some (sV t.text)
  c2 : w.cell? ⟨g, o + 2, none⟩ = some (iV t.num)
  c3 : w.cell? ⟨g, o + 3, none⟩ = some (iV t.line)
theorem PIn.hd {w : World} {p d : Nat} {ts : List Tok} {g o c m : Nat} (h : PIn w p d ts g o c m) : 0 < ts.length ∧ HdC w g o (hdT ts) := by
  have hw := h.wf
  have ht := h.toks
  match ts, hw, ht with
  | t :: r, _, ⟨h0, h1, h2, h3, _⟩ => exact ⟨by simp, h0, h1, h2, h3⟩
theorem wf_tail {ts : List Tok} (h : WFT ts) (hk : (hdT ts).kind ≠ 5) : 1 < ts.length ∧ WFT ts.tail := by
  match ts, h with
  | [t], h => exact absurd h hk
  | t :: u :: r, ⟨_, h⟩ => exact ⟨by simp, h⟩
theorem PIn.second {w : World} {p d : Nat} {ts : List Tok} {g o c m : Nat} (h : PIn w p d ts g o c m) (hk : (hdT ts).kind ≠ 5) : 1 < ts.length ∧ HdC w g (o + 4) (secondT ts) := by
  have hw := h.wf
  have ht := h.toks
  match ts, hw, ht with
  | [t], hw, _ => exact absurd hw hk
  | t :: u :: r, _, ⟨_, _, _, _, h0, h1, h2, h3, _⟩ => exact ⟨by simp, h0, h1, h2, h3⟩
/-- Behind 'take'. -/
theorem PIn.taken {w : World} {p d : Nat} {ts : List Tok} {g o c m : Nat} (h : PIn w p d ts g o c m) (hk : (hdT ts).kind ≠ 5) : PIn (w.setCell ⟨p, 0, none⟩ (.slice (some ⟨g, o + 4, none⟩) ts.tail.length (c - 1))) p d ts.tail g (o + 4) (c - 1) m := by
  have hw := wf_tail h.wf hk
  have hl : ts.tail.length = ts.length - 1 := by simp
  have hc := h.cap
  have hs := h.small
  have hg := h.gp
  have hm := h.mp
  refine ⟨hg, hm, World.cell?_setCell_same _ _ _ h.c0, (cell_set_other (by decide) _).trans h.c1, (cell_set_other (by decide) _).trans h.c2, warm_set h.warm _ _, ?_, h.map.keep (Below.heap_setCell _ _ _ _ (show m ≠ p by omega)), by omega, by omega, h.deep, hw.2, fun t ht => h.short t (List.mem_of_mem_tail ht), by obtain ⟨cur, fr, e⟩ := h.row; exact ⟨cur, fr, (Below.heap_setCell _ _ _ _ (show g ≠ p by omega)).trans e⟩⟩
  refine TokCells.keep (Below.heap_setCell _ _ _ _ (show g ≠ p by omega)) _ _ ?_
  have ht := h.toks
  match ts, ht with
  | [], _ => trivial
  | t :: r, ⟨_, _, _, _, h⟩ => exact h
theorem PIn.opens {w : World} {p d : Nat} {ts : List Tok} {g o c m : Nat} (h : PIn w p d ts g o c m) (d' : Nat) (hd : d' ≤ 64) : PIn (w.setCell ⟨p, 1, none⟩ (iV d')) p d' ts g o c m := by
  have hg := h.gp
  have hm := h.mp
  exact ⟨hg, hm, (cell_set_other (by decide) _).trans h.c0, World.cell?_setCell_same _ _ _ h.c1, (cell_set_other (by decide) _).trans h.c2, warm_set h.warm _ _, TokCells.keep (Below.heap_setCell _ _ _ _ (show g ≠ p by omega)) _ _ h.toks, h.map.keep (Below.heap_setCell _ _ _ _ (show m ≠ p by omega)), h.cap, h.small, hd, h.wf, h.short, by obtain ⟨cur, fr, e⟩ := h.row; exact ⟨cur, fr, (Below.heap_setCell _ _ _ _ (show g ≠ p by omega)).trans e⟩⟩
theorem sgn_sign {ts : List Tok} (h : sgnT ts ≠ []) : (hdT ts).kind = 4 ∧ sgnT ts = (hdT ts).text := by
  unfold sgnT at h ⊢
  by_cases hk : (hdT ts).kind = 4
  · exact ⟨hk, by rw [if_pos hk]⟩
  · rw [if_neg hk] at h; exact absurd rfl h
theorem PIn.sgn_short {w : World} {p d : Nat} {ts : List Tok} {g o c m : Nat} (h : PIn w p d ts g o c m) : (sgnT ts).length ≤ 32768 := by
  have hs := h.short
  have hw := h.wf
  match ts, hw, hs with
  | t :: r, _, hs =>
    have := hs t (by simp)
    show (if t.kind = 4 then t.text else []).length ≤ 32768
    split
    · exact this
    · simp
/-- A fault in memory. -/
def FaultAt (w : World) (b : Nat) (c : Int) (l : Nat) : Prop := w.cell? ⟨b, 0, none⟩ = some (iV c) ∧ w.cell? ⟨b, 1, none⟩ = some (iV l)
theorem FaultAt.keep {w w' : World} {b : Nat} {c : Int} {l : Nat} (h : FaultAt w b c l) (hb : w'.heap[b]? = w.heap[b]?) : FaultAt w' b c l :=
  ⟨(World.cell?_of_block (a := ⟨b, 0, none⟩) hb).trans h.1, (World.cell?_of_block (a := ⟨b, 1, none⟩) hb).trans h.2⟩
theorem FaultAt.lt {w : World} {b : Nat} {c : Int} {l : Nat} (h : FaultAt w b c l) : b < w.heap.size := World.block_lt_of_cell? w _ h.1
/-- What is left of the struct where a call panics. -/
def Warm (w : World) (p : Nat) : Prop := (∃ d : Int, w.cell? ⟨p, 1, none⟩ = some (iV d)) ∧ ∀ o, w.frozen? ⟨p, o, none⟩ = false
theorem PAt.warm {w : World} {p d : Nat} {ts : List Tok} (h : PAt w p d ts) : Warm w p := by
  obtain ⟨g, o, c, m, h⟩ := h
  exact ⟨⟨_, h.c1⟩, h.warm⟩
abbrev panicV (b : Nat) : Ending := .panicked [{ v := .iface 59 (pV b), recovered := false }]
/-- The end by a fault. -/
def Bad (p : Nat) (E : List Nat) (c : Int) (l : Nat) (w : World) (e : Ending) (w' : World) : Prop :=
  ∃ b, e = panicV b ∧ w.heap.size ≤ b ∧ FaultAt w' b c l ∧ Past E w w' ∧ Warm w' p
/-- What a call of the parser leaves. -/
def Ends (p d : Nat) (E : List Nat) (r : Res) (V : Tree → World → Value → Prop) (w : World) (e : Ending) (w' : World) : Prop :=
  match r with
  | .out => False
  | .bad c l => Bad p E c l w e w'
  | .ok x ts => ∃ v, e = .returned v ∧ V x w' v ∧ PAt w' p d ts ∧ Past E w w'
theorem Bad.after {p : Nat} {E F : List Nat} {c : Int} {l : Nat} {w w1 w' : World} {e : Ending} (h : Bad p F c l w1 e w') (hw : Past E w w1) (hF : ∀ i, i ∈ F → i ∈ E ∨ w.heap.size ≤ i) : Bad p E c l w e w' := by
  obtain ⟨b, rfl, hb, hf, hp, hW⟩ := h
  exact ⟨b, rfl, Nat.le_trans hw.size hb, hf, hw.then hp hF, hW⟩
theorem bind_done {r : Res} {f : Tree → List Tok → Res} (h : r.bind f ≠ .out) : r ≠ .out := fun e => h (by rw [e]; rfl)
end Go.Proofs.YtebkdegcifkigaaGreatDoor
