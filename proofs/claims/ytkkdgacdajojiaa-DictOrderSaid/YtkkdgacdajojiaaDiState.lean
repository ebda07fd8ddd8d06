/- A table in memory: rows of values, the map of places; its struct. No walk. -/
import Derived.Test.YtkkdgacdajojiaaDiPlain
import Derived.Test.YtkkdgacdajojiaaBase
import Derived.Maps.OwnSet
import Derived.DeepKeys4
import Derived.Laws.StructEq
namespace Go.Proofs.Ytkkdgacdajojiaa
set_option maxRecDepth 20000
set_option maxRecDepth 20000
open Go.RowKit Go.Maps

abbrev iV (n : Int) : Value := .int .i64 n
abbrev vV (v : VV) : Value := .agg #[.int .i64 v.1, .int .i64 v.2]
abbrev bV (b : Nat) : Value := .pointer (some ⟨b, 0, none⟩)
theorem mem_block_lt {w : World} {b : Nat} {o : Obj} (h : w.heap[b]? = some o) : b < w.heap.size := by
  rcases Nat.lt_or_ge b w.heap.size with h1 | h1
  · exact h1
  · rw [Array.getElem?_eq_none h1] at h; cases h
def wfP (v : VV) : Prop := (-9223372036854775808 ≤ v.1 ∧ v.1 ≤ 9223372036854775807) ∧ -9223372036854775808 ≤ v.2 ∧ v.2 ≤ 9223372036854775807
theorem wf_i64 {n : Int} (h1 : -9223372036854775808 ≤ n) (h2 : n ≤ 9223372036854775807) : (Lit.int .i64 n).wf = true := WalkArith.wf_i64 ⟨h1, h2⟩

/-! Keys -/
theorem laidOut : laidOutB Try.prog = true := by kernel_rfl
theorem wideV : (match Try.prog.underlying 24 with | some (.array _ _) | some (.struct _) => true | _ => false) = true := by rw [Try.underlying24]
theorem lawV : WideMaps.KeyLaw Try.prog 24 := deep_law_laid laidOut (m := 2) (by omega) (of_decide_eq_true (by kernel_rfl)) (by kernel_rfl) wideV
theorem keyedV : Keyed Try.prog 24 := Keyed.of_law lawV
def kV (v : VV) : Lit := .string (keyBytes [.int .i64 v.1, .int .i64 v.2])
theorem kV_key (v : VV) : WideAt.IsKeyLit (kV v) := trivial
theorem key_type : Try.prog.keyType 24 = true := by kernel_rfl
theorem formedV (v : VV) : (vV v).formed Try.prog 24 = true := by simp [Value.formed, Try.underlying24, show Try.prog.cellsOf 24 = 2 by kernel_rfl]
theorem keyV {v : VV} (h : wfP v) : keyOf Try.prog 24 (vV v) = some (kV v) := by
  have w1 := wf_i64 h.1.1 h.1.2
  have w2 := wf_i64 h.2.1 h.2.2
  have c1 : Try.prog.cellsOf 24 = 2 := by kernel_rfl
  have c2 : Try.prog.cellsOf 3 = 1 := by kernel_rfl
  have c3 : Try.prog.cellsOf 2 = 1 := by kernel_rfl
  have ts : ∃ n, Try.prog.types.size + 1 = n + 1 + 1 := ⟨_, rfl⟩
  obtain ⟨n, hn⟩ := ts
  unfold keyOf kV
  rw [Try.underlying24]
  simp only [key_type, formedV, Bool.and_self, if_true, hn]
  simp [Program.keyLits, Try.underlying24, Try.underlying3, Try.underlying2, c1, c2, c3, w1, w2, Value.cells]
theorem kV_inj {v u : VV} (hv : wfP v) (hu : wfP u) (h : kV v = kV u) : v = u := by
  have h1 := keyV hv
  have h2 := keyV hu
  rw [h] at h1
  have := keyedV.inj h1 h2
  injection this with this
  have h3 : [iV v.1, iV v.2] = [iV u.1, iV u.2] := congrArg Array.toList this
  simp at h3
  exact Prod.ext h3.1 h3.2

/-! The map of places -/
theorem zeroI (w : World) : (zeroValue 3).run Try.prog w = .ok (.int .i64 0) w := by kernel_rfl
def IsFun (D : DataW Unit) (f : VV → Option Nat) : Prop :=
  ∀ v, wfP v → has D (kV v) = (f v).isSome ∧ ∀ zd, D.atKey (kV v) zd = match f v with | some y => .lit (.int .i64 (y : Int)) | none => zd
def MapV (w : World) (mb : Nat) (f : VV → Option Nat) (N : Nat) : Prop :=
  ∃ D : DataW Unit, w.ownsMap Try.prog 24 (plainElem Try.prog 3) mb N D ∧ IsFun D f
theorem MapV.keep {w w' : World} {m N : Nat} {f : VV → Option Nat} (h : MapV w m f N) (hb : w'.heap[m]? = w.heap[m]?) : MapV w' m f N := by
  obtain ⟨D, ⟨es, clock, he, r⟩, h2⟩ := h
  exact ⟨D, ⟨es, clock, hb.trans he, r⟩, h2⟩
theorem MapV.form {w : World} {m N : Nat} {f : VV → Option Nat} (h : MapV w m f N) : ∃ es clock, w.heap[m]? = some (.map es clock) := by
  obtain ⟨D, ⟨es, clock, he, _⟩, _⟩ := h
  exact ⟨es, clock, he⟩
theorem MapV.made (w : World) : MapV (w.alloc (.map #[] 0)) w.heap.size (fun _ => none) 0 := ⟨_, World.ownsMap_made _ _ _ _, fun _ _ => ⟨rfl, fun _ => rfl⟩⟩
theorem MapV.congr {w : World} {m N N' : Nat} {f g : VV → Option Nat} (h : MapV w m f N) (hN : N ≤ N') (e : ∀ v, wfP v → f v = g v) : MapV w m g N' := by
  obtain ⟨D, ho, hf⟩ := h
  exact ⟨D, ho.mono hN, fun v hv => by rw [← e v hv]; exact hf v hv⟩
def putF (f : VV → Option Nat) (k : VV) (x : Option Nat) : VV → Option Nat := fun v => if v = k then x else f v
theorem MapV.run_put {w : World} {m N : Nat} {f : VV → Option Nat} (h : MapV w m f N) {k : VV} (hk : wfP k) (x : Nat) (hx : x ≤ 1099511627776) (hN : N ≤ 1099511627776) :
    ∃ w', (Instr.mapUpdate 72 (.map (some m)) (vV k) (iV x)).run Try.prog w = .ok () w' ∧ MapV w' m (putF f k (some x)) (N + 1) ∧ w.grownBy w' (some m) := by
  obtain ⟨D, ho, hf⟩ := h
  obtain ⟨w', hrun, r1, r2⟩ := ho.update keyedV Try.underlying72 (by unfold maxLen; omega) (keyV hk) (plainElem_int Try.underlying3 (wf_i64 (n := (x : Int)) (by omega) (by omega)))
  refine ⟨w', hrun, ⟨_, r1, fun v hv => ?_⟩, r2⟩
  unfold putF
  by_cases e : v = k
  · subst e
    rw [if_pos rfl]
    exact ⟨has_put_same ho.isMap (kV_key v) _, fun zd => atKey_put_same ho.isMap (kV_key v) _ _⟩
  · have hne : kV v ≠ kV k := fun h => e (kV_inj hv hk h)
    rw [if_neg e, has_put_other hne]
    exact ⟨(hf v hv).1, fun zd => (atKey_put_other hne _ _).trans ((hf v hv).2 zd)⟩
theorem MapV.run_del {w : World} {m N : Nat} {f : VV → Option Nat} (h : MapV w m f N) {k : VV} (hk : wfP k) (ty : TypeId) :
    ∃ w', (Builtin.delete_ #[72, 24] ty #[.map (some m), vV k]).run Try.prog w = .ok (.tuple #[]) w' ∧ MapV w' m (putF f k none) N ∧ w.grownBy w' (some m) := by
  obtain ⟨D, ho, hf⟩ := h
  obtain ⟨w', hrun, r1, r2⟩ := ho.drop keyedV Try.underlying72 (keyV hk) ty
  refine ⟨w', hrun, ⟨_, r1, fun v hv => ?_⟩, r2.grown⟩
  unfold putF
  by_cases e : v = k
  · subst e
    rw [if_pos rfl]
    exact ⟨has_del_same, fun zd => atKey_del_same _⟩
  · have hne : kV v ≠ kV k := fun h => e (kV_inj hv hk h)
    rw [if_neg e, has_del_other hne]
    exact ⟨(hf v hv).1, fun zd => (atKey_del_other hne _).trans ((hf v hv).2 zd)⟩
/-- The look-up with ok. -/
theorem MapV.run_look {w : World} {m N : Nat} {f : VV → Option Nat} (h : MapV w m f N) {k : VV} (hk : wfP k) :
    (Instr.lookup 72 (.map (some m)) (vV k) true).run Try.prog w = .ok (.tuple #[iV ((f k).getD 0 : Nat), .bool (f k).isSome]) w := by
  obtain ⟨D, ho, hf⟩ := h
  obtain ⟨v, ps, hrun, hv⟩ := ho.look_ok keyedV Try.underlying72 (zeroI w) (plainElem_int Try.underlying3 (by decide)) (keyV hk)
  obtain ⟨c, rfl, hc, _⟩ := plainElem_int_inv Try.underlying3 hv
  obtain ⟨h1, h2⟩ := hf k hk
  rw [hrun, h1]
  have h3 := congrArg Prod.fst hc
  simp only at h3
  rw [h2] at h3
  cases e : f k with
  | none =>
    rw [e] at h3
    simp only [DataW.lit.injEq, Lit.int.injEq, true_and] at h3
    rw [← h3]; rfl
  | some y =>
    rw [e] at h3
    simp only [DataW.lit.injEq, Lit.int.injEq, true_and] at h3
    rw [← h3]; rfl

/-! Rows of values -/
def cellsV : List VV → List Value
  | [] => []
  | v :: r => iV v.1 :: iV v.2 :: cellsV r
theorem cellsV_len : ∀ l, (cellsV l).length = 2 * l.length
  | [] => rfl
  | v :: r => by simp [cellsV, cellsV_len r]; omega
theorem cellsV_one : ∀ l, ∀ v ∈ cellsV l, v.oneCell' = true
  | [], v, h => by simp [cellsV] at h
  | p :: r, v, h => by
    simp [cellsV] at h
    rcases h with rfl | rfl | h
    · rfl
    · rfl
    · exact cellsV_one r v h
theorem cellsV_at : ∀ (l : List VV) (i : Nat) (p : VV), l[i]? = some p → (cellsV l)[2 * i]? = some (iV p.1) ∧ (cellsV l)[2 * i + 1]? = some (iV p.2)
  | [], i, p, h => by simp at h
  | x :: r, 0, p, h => by simp at h; subst h; exact ⟨rfl, rfl⟩
  | x :: r, i + 1, p, h => by
    have := cellsV_at r i p (by simpa using h)
    rw [show 2 * (i + 1) = 2 * i + 2 by omega]
    exact this
theorem cellsV_append : ∀ a b, cellsV (a ++ b) = cellsV a ++ cellsV b
  | [], b => rfl
  | p :: r, b => by simp [cellsV, cellsV_append r b]
theorem cellsV_take : ∀ (l : List VV) (i : Nat), (cellsV l).take (2 * i) = cellsV (l.take i)
  | [], i => by simp [cellsV]
  | p :: r, 0 => rfl
  | p :: r, i + 1 => by
    rw [show 2 * (i + 1) = 2 * i + 1 + 1 by omega]
    simp [cellsV, cellsV_take r i]
theorem cellsV_drop : ∀ (l : List VV) (i : Nat), (cellsV l).drop (2 * i) = cellsV (l.drop i)
  | [], i => by simp [cellsV]
  | p :: r, 0 => rfl
  | p :: r, i + 1 => by
    rw [show 2 * (i + 1) = 2 * i + 1 + 1 by omega]
    simp [cellsV, cellsV_drop r i]
theorem cellsV_set : ∀ (l : List VV) (i : Nat) (v : VV), i < l.length → cellsV (l.set i v) = ((cellsV l).set (2 * i) (iV v.1)).set (2 * i + 1) (iV v.2)
  | [], i, v, h => by simp at h
  | p :: r, 0, v, _ => rfl
  | p :: r, i + 1, v, h => by
    rw [show 2 * (i + 1) = 2 * i + 1 + 1 by omega]
    simp [cellsV, cellsV_set r i v (by simpa using h)]
/-- From place off of block g on lie the values l, with room for c. -/
structure RowV (w : World) (g off c : Nat) (l : List VV) : Prop where
  cur : ∃ cur : List Value, w.heap[g]? = some (.cells cur.toArray 24 (0, 0)) ∧ off + 2 * c ≤ cur.length ∧ (cur.drop off).take (2 * l.length) = cellsV l
  room : l.length ≤ c
  max : c ≤ 9223372036854775807
  wf : ∀ v ∈ l, wfP v
theorem RowV.keep {w w' : World} {g off c : Nat} {l : List VV} (h : RowV w g off c l) (hb : w'.heap[g]? = w.heap[g]?) : RowV w' g off c l := by
  obtain ⟨⟨cur, h1, h2⟩, h3, h4, h5⟩ := h
  exact ⟨⟨cur, hb.trans h1, h2⟩, h3, h4, h5⟩
theorem RowV.lt {w : World} {g off c : Nat} {l : List VV} (h : RowV w g off c l) : g < w.heap.size := by
  obtain ⟨⟨cur, h1, h2⟩, _⟩ := h
  exact mem_block_lt h1
theorem RowV.cell {w : World} {g off c : Nat} {l : List VV} (h : RowV w g off c l) {j : Nat} {u : Value} (hu : (cellsV l)[j]? = some u) : w.cell? ⟨g, off + j, none⟩ = some u := by
  obtain ⟨⟨cur, h1, h2, h6⟩, h3, h4, h5⟩ := h
  have hj : j < (cellsV l).length := (List.getElem?_eq_some_iff.1 hu).1
  rw [cellsV_len] at hj
  have : cur[off + j]? = some u := by
    rw [← h6, List.getElem?_take_of_lt hj, List.getElem?_drop] at hu
    exact hu
  simp [World.cell?, h1, this]
theorem RowV.at {w : World} {g off c : Nat} {l : List VV} (h : RowV w g off c l) {i : Nat} {p : VV} (hp : l[i]? = some p) : w.cell? ⟨g, off + i * 2, none⟩ = some (iV p.1) ∧ w.cell? ⟨g, off + i * 2 + 1, none⟩ = some (iV p.2) := by
  have := cellsV_at l i p hp
  rw [Nat.mul_comm] at this
  exact ⟨h.cell this.1, h.cell this.2⟩
theorem RowV.froz {w : World} {g off c : Nat} {l : List VV} (h : RowV w g off c l) (j : Nat) : w.frozen? ⟨g, j, none⟩ = false := by
  obtain ⟨⟨cur, h1, _⟩, _⟩ := h
  simp [World.frozen?, h1]
/-- Of a row a part: so many values ahead. -/
theorem RowV.part {w : World} {g off c : Nat} {a b : List VV} (h : RowV w g off c (a ++ b)) {c' : Nat} (hc : a.length ≤ c') (hc2 : c' ≤ c) : RowV w g off c' a := by
  obtain ⟨⟨cur, h1, h2, h6⟩, h3, h4, h5⟩ := h
  refine ⟨⟨cur, h1, by omega, ?_⟩, hc, by omega, fun v hv => h5 v (by simp [hv])⟩
  have := congrArg (List.take (2 * a.length)) h6
  rw [List.take_take, Nat.min_eq_left (by simp; omega), cellsV_append, ← cellsV_len, List.take_left] at this
  rw [← cellsV_len]; exact this
/-- .. and what lies behind. -/
theorem RowV.rest {w : World} {g off c : Nat} {a b : List VV} (h : RowV w g off c (a ++ b)) {n : Nat} (hn : n = a.length) : RowV w g (off + 2 * n) (c - n) b := by
  obtain ⟨⟨cur, h1, h2, h6⟩, h3, h4, h5⟩ := h
  subst hn
  simp only [List.length_append] at h3
  refine ⟨⟨cur, h1, by omega, ?_⟩, by omega, by omega, fun v hv => h5 v (by simp [hv])⟩
  have := congrArg (List.drop (2 * a.length)) h6
  rw [List.drop_take, List.drop_drop, cellsV_append, ← cellsV_len a, List.drop_left] at this
  rw [cellsV_len] at this
  rw [← this]
  congr 1
  simp; omega
theorem RowV.empty {w : World} {g off c : Nat} {l : List VV} (h : RowV w g off c l) : RowV w g off 0 [] := by
  obtain ⟨⟨cur, h1, h2, h6⟩, h3, h4, h5⟩ := h
  exact ⟨⟨cur, h1, by omega, rfl⟩, Nat.le_refl _, by omega, by simp⟩
/-- A slice of values: nil, or its row. -/
def SlV (w : World) (v : Value) (l : List VV) : Prop := (v = .slice none 0 0 ∧ l = []) ∨ ∃ g off c, v = .slice (some ⟨g, off, none⟩) l.length c ∧ RowV w g off c l
theorem SlV.keep {w w' : World} {v : Value} {l : List VV} (h : SlV w v l) (hb : Below w.heap.size w w') : SlV w' v l := by
  rcases h with h | ⟨g, off, c, e, h⟩
  · exact .inl h
  · exact .inr ⟨g, off, c, e, h.keep (hb.block g h.lt)⟩

/-! A table -/
structure TabAt (w : World) (tp ga oa ca gp op cp mb : Nat) (t : Tab) (N : Nat) : Prop where
  self : w.heap[tp]? = some (.cells #[iV t.meta_.1, iV t.meta_.2, .slice (some ⟨ga, oa, none⟩) t.arr.length ca, .slice (some ⟨gp, op, none⟩) (2 * t.prs.length) cp, .map (some mb)] 74 (0, 0))
  arr : RowV w ga oa ca t.arr
  prs : RowV w gp op cp (flatQ t.prs)
  map : MapV w mb (fun k => (idxQ t.prs k).map (2 * ·)) N
  apart : ga ≠ gp ∨ oa + 2 * ca ≤ op ∨ cp = 0
  small : N ≤ 1073741824 ∧ t.arr.length ≤ 1073741824 ∧ t.prs.length ≤ 1073741824
theorem TabAt.keep {w w' : World} {tp ga oa ca gp op cp mb N : Nat} {t : Tab} (h : TabAt w tp ga oa ca gp op cp mb t N) (hb : ∀ i, i = tp ∨ i = ga ∨ i = gp ∨ i = mb → w'.heap[i]? = w.heap[i]?) : TabAt w' tp ga oa ca gp op cp mb t N :=
  ⟨(hb tp (by simp)).trans h.self, h.arr.keep (hb ga (by simp)), h.prs.keep (hb gp (by simp)), h.map.keep (hb mb (by simp)), h.apart, h.small⟩
theorem TabAt.lts {w : World} {tp ga oa ca gp op cp mb N : Nat} {t : Tab} (h : TabAt w tp ga oa ca gp op cp mb t N) : tp < w.heap.size ∧ ga < w.heap.size ∧ gp < w.heap.size ∧ mb < w.heap.size := by
  obtain ⟨es, cl, hm⟩ := h.map.form
  exact ⟨mem_block_lt h.self, h.arr.lt, h.prs.lt, mem_block_lt hm⟩
theorem TabAt.below {w w' : World} {tp ga oa ca gp op cp mb N : Nat} {t : Tab} (h : TabAt w tp ga oa ca gp op cp mb t N) (hb : Below w.heap.size w w') : TabAt w' tp ga oa ca gp op cp mb t N := by
  obtain ⟨a, b, c, d⟩ := h.lts
  exact h.keep fun i hi => hb.block i (by omega)
theorem TabAt.apt {w : World} {tp ga oa ca gp op cp mb N : Nat} {t : Tab} (h : TabAt w tp ga oa ca gp op cp mb t N) : tp ≠ ga ∧ tp ≠ gp ∧ tp ≠ mb ∧ ga ≠ mb ∧ gp ≠ mb := by
  obtain ⟨es, cl, hm⟩ := h.map.form
  obtain ⟨⟨c1, h1, _⟩, _⟩ := h.arr
  obtain ⟨⟨c2, h2, _⟩, _⟩ := h.prs
  have h0 := h.self
  refine ⟨?_, ?_, ?_, ?_, ?_⟩ <;> rintro rfl
  · rw [h0] at h1; injection h1 with h1; injection h1 with _ h1; exact absurd h1 (by decide)
  · rw [h0] at h2; injection h2 with h2; injection h2 with _ h2; exact absurd h2 (by decide)
  · rw [h0] at hm; cases hm
  · rw [h1] at hm; cases hm
  · rw [h2] at hm; cases hm
theorem TabAt.cells {w : World} {tp ga oa ca gp op cp mb N : Nat} {t : Tab} (h : TabAt w tp ga oa ca gp op cp mb t N) : w.cell? ⟨tp, 0, none⟩ = some (iV t.meta_.1) ∧ w.cell? ⟨tp, 1, none⟩ = some (iV t.meta_.2) ∧ w.cell? ⟨tp, 2, none⟩ = some (.slice (some ⟨ga, oa, none⟩) t.arr.length ca) ∧ w.cell? ⟨tp, 3, none⟩ = some (.slice (some ⟨gp, op, none⟩) (2 * t.prs.length) cp) ∧ w.cell? ⟨tp, 4, none⟩ = some (.map (some mb)) := by
  have h1 := h.self
  refine ⟨?_, ?_, ?_, ?_, ?_⟩ <;> simp [World.cell?, h1]
theorem TabAt.froz {w : World} {tp ga oa ca gp op cp mb N : Nat} {t : Tab} (h : TabAt w tp ga oa ca gp op cp mb t N) (j : Nat) : w.frozen? ⟨tp, j, none⟩ = false := by simp [World.frozen?, h.self]
end Go.Proofs.Ytkkdgacdajojiaa
