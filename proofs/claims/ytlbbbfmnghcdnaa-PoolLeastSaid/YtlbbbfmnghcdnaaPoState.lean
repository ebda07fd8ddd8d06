/- A pool in memory: its struct, the variable that its closure holds, its map of what is taken, its row of free spans. No walk. -/
import Derived.Test.YtlbbbfmnghcdnaaPoMath
import Derived.Test.YtlbbbfmnghcdnaaPoRows
import Derived.Test.YtlbbbfmnghcdnaaBase
import Derived.Maps.OwnSet
namespace Go.Proofs.Ytlbbbfmnghcdnaa
set_option maxRecDepth 20000
open Go.RowKit Go.Maps

abbrev nV (n : Int) : Value := .int .i64 n
abbrev bV (b : Nat) : Value := .pointer (some ⟨b, 0, none⟩)
theorem mem_block_lt {w : World} {b : Nat} {o : Obj} (h : w.heap[b]? = some o) : b < w.heap.size := by
  rcases Nat.lt_or_ge b w.heap.size with h1 | h1
  · exact h1
  · rw [Array.getElem?_eq_none h1] at h; cases h

/-! The map of what is taken -/
theorem keyedI : Keyed Try.prog 3 := int_keyed Try.underlying3
theorem wf_small {n : Int} (h1 : -9223372036854775808 ≤ n) (h2 : n ≤ 9223372036854775807) : (Lit.int .i64 n).wf = true := WalkArith.wf_i64 ⟨h1, h2⟩
theorem keyI {n : Int} (h1 : -9223372036854775808 ≤ n) (h2 : n ≤ 9223372036854775807) : keyOf Try.prog 3 (nV n) = some (.int .i64 n) := keyOf_int_mk Try.underlying3 (wf_small h1 h2)
theorem zeroU (w : World) : (zeroValue 81).run Try.prog w = .ok (.agg #[]) w := by kernel_rfl
def MapT (w : World) (m : Nat) (T : List Nat) : Prop :=
  ∃ D : DataW Unit, w.ownsMap Try.prog 3 unitElem m T.length D ∧ size D = T.length ∧ ∀ k : Int, has D (.int .i64 k) = decide (∃ n ∈ T, (n : Int) = k)
theorem MapT.keep {w w' : World} {m : Nat} {T : List Nat} (h : MapT w m T) (hb : w'.heap[m]? = w.heap[m]?) : MapT w' m T := by
  obtain ⟨D, ⟨es, clock, he, r⟩, h2⟩ := h
  exact ⟨D, ⟨es, clock, hb.trans he, r⟩, h2⟩
theorem MapT.form {w : World} {m : Nat} {T : List Nat} (h : MapT w m T) : ∃ es clock, w.heap[m]? = some (.map es clock) := by
  obtain ⟨D, ⟨es, clock, he, _⟩, _⟩ := h
  exact ⟨es, clock, he⟩
theorem MapT.made (w : World) : MapT (w.alloc (.map #[] 0)) w.heap.size [] := ⟨_, World.ownsMap_made _ _ _ _, rfl, fun k => by simp [has_eq]⟩
theorem owns_tight {H : Type} {P : Program} {k : TypeId} {R : Value → Option (DataW H × List MemPlace)} {w : World} {b n : Nat} {D : DataW H} (h : w.ownsMap P k R b n D) : w.ownsMap P k R b (size D) D := by
  obtain ⟨es, clock, hb, F, hs, rfl⟩ := h
  exact ⟨es, clock, hb, F, by simp [size, length_sorted], rfl⟩
theorem MapT.run_put {w : World} {m : Nat} {T : List Nat} (h : MapT w m T) (n : Nat) (hn : n ≤ 1099511627776) (hT : n ∉ T) (hl : T.length ≤ 1099511627776) :
    ∃ w', (Instr.mapUpdate 55 (.map (some m)) (nV n) (.agg #[])).run Try.prog w = .ok () w' ∧ MapT w' m (n :: T) ∧ w.grownBy w' (some m) := by
  obtain ⟨D, ho, hs, hh⟩ := h
  obtain ⟨w', hrun, r1, r2⟩ := ho.update keyedI Try.underlying55 (by unfold maxLen; omega) (keyI (n := (n : Int)) (by omega) (by omega)) unitElem_mk
  have hn0 : has D (.int .i64 n) = false := by
    rw [hh, decide_eq_false_iff_not]
    rintro ⟨x, hx, he⟩
    have : x = n := by omega
    subst this
    exact hT hx
  have hs1 : size (D.put (.int .i64 n) (.agg [])) = (n :: T).length := by
    rw [size_put (ho.tidy keyedI), hn0]
    simp [hs]
  have r1' := owns_tight r1
  rw [hs1] at r1'
  refine ⟨w', hrun, ⟨_, r1', hs1, fun k => ?_⟩, r2⟩
  by_cases hk : k = (n : Int)
  · subst hk
    rw [has_put_same ho.isMap (show WideAt.IsKeyLit (.int .i64 n) from trivial)]
    simp
  · rw [has_put_other (by intro e; injection e with _ e; exact hk e), hh]
    have : (∃ m, m ∈ n :: T ∧ (m : Int) = k) ↔ ∃ m ∈ T, (m : Int) = k := by
      constructor
      · rintro ⟨x, hx, he⟩
        rcases List.mem_cons.1 hx with rfl | hx
        · exact absurd he.symm hk
        · exact ⟨x, hx, he⟩
      · rintro ⟨x, hx, he⟩; exact ⟨x, by simp [hx], he⟩
    simp only [this]
theorem MapT.run_del {w : World} {m : Nat} {T : List Nat} (h : MapT w m T) (n : Nat) (hn : n ≤ 1099511627776) (hT : n ∈ T) (hnd : T.Nodup) (ty : TypeId) :
    ∃ w', (Builtin.delete_ #[55, 3] ty #[.map (some m), nV n]).run Try.prog w = .ok (.tuple #[]) w' ∧ MapT w' m (T.erase n) ∧ w.grownBy w' (some m) := by
  obtain ⟨D, ho, hs, hh⟩ := h
  obtain ⟨w', hrun, r1, r2⟩ := ho.drop keyedI Try.underlying55 (keyI (n := (n : Int)) (by omega) (by omega)) ty
  have hn0 : has D (.int .i64 n) = true := by
    rw [hh, decide_eq_true_iff]
    exact ⟨n, hT, rfl⟩
  have hs1 : size (D.del (.int .i64 n)) = (T.erase n).length := by
    have := size_del (k := .int .i64 n) (ho.tidy keyedI)
    rw [hn0] at this
    rw [List.length_erase_of_mem hT]
    simp at this; omega
  have r1' := owns_tight r1
  rw [hs1] at r1'
  refine ⟨w', hrun, ⟨_, r1', hs1, fun k => ?_⟩, r2.grown⟩
  by_cases hk : k = (n : Int)
  · subst hk
    rw [has_del_same]
    symm
    rw [decide_eq_false_iff_not]
    rintro ⟨x, hx, he⟩
    have : x = n := by omega
    subst this
    rw [hnd.mem_erase_iff] at hx
    exact hx.1 rfl
  · rw [has_del_other (by intro e; injection e with _ e; exact hk e), hh]
    have : (∃ m, m ∈ T ∧ (m : Int) = k) ↔ ∃ m ∈ T.erase n, (m : Int) = k := by
      constructor
      · rintro ⟨x, hx, he⟩
        exact ⟨x, (List.mem_erase_of_ne (by rintro rfl; exact hk he.symm)).2 hx, he⟩
      · rintro ⟨x, hx, he⟩; exact ⟨x, List.mem_of_mem_erase hx, he⟩
    simp only [this]

/-! The row of free spans -/
def flatF : List (Nat × Nat) → List Value
  | [] => []
  | p :: r => nV p.1 :: nV p.2 :: flatF r
theorem flat_len : ∀ F, (flatF F).length = 2 * F.length
  | [] => rfl
  | p :: r => by simp [flatF, flat_len r]; omega
theorem flat_one : ∀ F, ∀ v ∈ flatF F, v.oneCell' = true
  | [], v, h => by simp [flatF] at h
  | p :: r, v, h => by
    simp [flatF] at h
    rcases h with rfl | rfl | h
    · rfl
    · rfl
    · exact flat_one r v h
theorem flat_at : ∀ (F : List (Nat × Nat)) (i : Nat) (p : Nat × Nat), F[i]? = some p → (flatF F)[2 * i]? = some (nV p.1) ∧ (flatF F)[2 * i + 1]? = some (nV p.2)
  | [], i, p, h => by simp at h
  | q :: r, 0, p, h => by simp at h; subst h; exact ⟨rfl, rfl⟩
  | q :: r, i + 1, p, h => by
    have := flat_at r i p (by simpa using h)
    rw [show 2 * (i + 1) = 2 * i + 2 by omega]
    exact this
theorem flat_append : ∀ A B, flatF (A ++ B) = flatF A ++ flatF B
  | [], B => rfl
  | p :: r, B => by simp [flatF, flat_append r B]
theorem flat_take : ∀ (F : List (Nat × Nat)) (i : Nat), (flatF F).take (2 * i) = flatF (F.take i)
  | [], i => by simp [flatF]
  | p :: r, 0 => rfl
  | p :: r, i + 1 => by
    rw [show 2 * (i + 1) = 2 * i + 1 + 1 by omega]
    simp [flatF, flat_take r i]
theorem flat_drop : ∀ (F : List (Nat × Nat)) (i : Nat), (flatF F).drop (2 * i) = flatF (F.drop i)
  | [], i => by simp [flatF]
  | p :: r, 0 => rfl
  | p :: r, i + 1 => by
    rw [show 2 * (i + 1) = 2 * i + 1 + 1 by omega]
    simp [flatF, flat_drop r i]
/-- From place off of block g on lie so many elements, with room for c. -/
def RowF (w : World) (g off n c : Nat) (es : List Value) : Prop :=
  ∃ cur : List Value, w.heap[g]? = some (.cells cur.toArray 77 (0, 0)) ∧ off + 2 * c ≤ cur.length ∧ n ≤ c ∧ c ≤ maxLen ∧ es.length = 2 * n ∧ (cur.drop off).take (2 * n) = es
theorem RowF.keep {w w' : World} {g off n c : Nat} {es : List Value} (h : RowF w g off n c es) (hb : w'.heap[g]? = w.heap[g]?) : RowF w' g off n c es := by
  obtain ⟨cur, h1, h2⟩ := h
  exact ⟨cur, hb.trans h1, h2⟩
theorem RowF.cell {w : World} {g off n c : Nat} {es : List Value} (h : RowF w g off n c es) {j : Nat} {u : Value} (hu : es[j]? = some u) : w.cell? ⟨g, off + j, none⟩ = some u := by
  obtain ⟨cur, h1, h2, h3, h4, h5, h6⟩ := h
  have hj : j < es.length := (List.getElem?_eq_some_iff.1 hu).1
  have : cur[off + j]? = some u := by
    rw [← h6, List.getElem?_take_of_lt (by omega), List.getElem?_drop] at hu
    exact hu
  simp [World.cell?, h1, this]
theorem RowF.froz {w : World} {g off n c : Nat} {es : List Value} (h : RowF w g off n c es) (j : Nat) : w.frozen? ⟨g, j, none⟩ = false := by
  obtain ⟨cur, h1, _⟩ := h
  simp [World.frozen?, h1]

/-- A pool: its struct at ps, the closure's variable at bx, what is taken at mb, what is free at g. -/
structure Held (w : World) (ps bx mb g : Nat) (k : Nat) (T : List Nat) (F : List (Nat × Nat)) (off c : Nat) : Prop where
  self : w.heap[ps]? = some (.cells #[bV ps, .map (some mb), .slice (some ⟨g, off, none⟩) F.length c, .func (.func 42) #[] #[bV bx]] 59 (0, 0))
  var : w.heap[bx]? = some (.cells #[bV ps] 46 (0, 0))
  map : MapT w mb T
  row : RowF w g off F.length c (flatF F)
  nodup : T.Nodup
  small : T.length ≤ k
  top : ∃ top, Rise F top ∧ top ≤ k + 1
  is : ∀ m, m ∈ T ↔ 1 ≤ m ∧ m ≤ topM ∧ ¬ FreeIn F m
/-- What a call does to a pool: its own blocks alone, and new ones. -/
structure Touch (ps mb g : Nat) (w w' : World) : Prop where
  os : w'.os = w.os
  tape : w'.tape = w.tape
  output : w'.output = w.output
  size : w.heap.size ≤ w'.heap.size
  block : ∀ k, k < w.heap.size → k ≠ ps → k ≠ mb → k ≠ g → w'.heap[k]? = w.heap[k]?
theorem Touch.refl (ps mb g : Nat) (w : World) : Touch ps mb g w w := ⟨rfl, rfl, rfl, Nat.le_refl _, fun _ _ _ _ _ => rfl⟩
theorem Touch.below {ps mb g : Nat} {w w' : World} {lo : Nat} (h : Touch ps mb g w w') (h0 : lo ≤ w.heap.size) (h1 : lo ≤ ps) (h2 : lo ≤ mb) (h3 : lo ≤ g) : Below lo w w' :=
  ⟨h.os, h.tape, h.output, h.size, fun k hk => h.block k (by omega) (by omega) (by omega) (by omega)⟩
theorem Touch.of_below {ps mb g : Nat} {w w' : World} (h : Below w.heap.size w w') : Touch ps mb g w w' := ⟨h.os, h.tape, h.output, h.size, fun k hk _ _ _ => h.block k hk⟩
theorem Touch.trans {ps mb g g' : Nat} {a b c : World} (h : Touch ps mb g a b) (k : Touch ps mb g' b c) (hg : g' = g ∨ a.heap.size ≤ g') : Touch ps mb g a c :=
  ⟨k.os.trans h.os, k.tape.trans h.tape, k.output.trans h.output, Nat.le_trans h.size k.size, fun i hi h1 h2 h3 => (k.block i (Nat.lt_of_lt_of_le hi h.size) h1 h2 (by rcases hg with rfl | hg <;> omega)).trans (h.block i hi h1 h2 h3)⟩
theorem Touch.grown_map {ps mb g : Nat} {w w' : World} (h : w.grownBy w' (some mb)) : Touch ps mb g w w' := ⟨h.os, h.tape, h.output, h.size, fun k hk _ h2 _ => h.block k hk (by simpa using h2)⟩
theorem Touch.grown_row {ps mb g : Nat} {w w' : World} (h : w.grownBy w' (some g)) : Touch ps mb g w w' := ⟨h.os, h.tape, h.output, h.size, fun k hk _ _ h2 => h.block k hk (by simpa using h2)⟩
theorem Touch.set {ps mb g : Nat} {w w' : World} (h : Touch ps mb g w w') {p : Addr} (hp : p.block = ps ∨ p.block = mb ∨ p.block = g) (u : Value) : Touch ps mb g w (w'.setCell p u) :=
  ⟨h.os, h.tape, h.output, by simpa [World.setCell] using h.size, fun k hk h1 h2 h3 => (Below.heap_setCell _ _ _ _ (by rcases hp with hp | hp | hp <;> rw [hp] <;> assumption)).trans (h.block k hk h1 h2 h3)⟩
theorem Touch.alloc {ps mb g : Nat} {w w' : World} (h : Touch ps mb g w w') (o : Obj) : Touch ps mb g w (w'.alloc o) :=
  ⟨h.os, h.tape, h.output, Nat.le_trans h.size (by simp), fun k hk h1 h2 h3 => (Below.heap_alloc _ _ _ (Nat.lt_of_lt_of_le hk h.size)).trans (h.block k hk h1 h2 h3)⟩
theorem Held.keep {w w' : World} {ps bx mb g k : Nat} {T : List Nat} {F : List (Nat × Nat)} {off c : Nat} (h : Held w ps bx mb g k T F off c) (hb : ∀ i, i = ps ∨ i = bx ∨ i = mb ∨ i = g → w'.heap[i]? = w.heap[i]?) : Held w' ps bx mb g k T F off c :=
  ⟨(hb ps (by simp)).trans h.self, (hb bx (by simp)).trans h.var, h.map.keep (hb mb (by simp)), h.row.keep (hb g (by simp)), h.nodup, h.small, h.top, h.is⟩
section
variable {w : World} {ps bx mb g k : Nat} {T : List Nat} {F : List (Nat × Nat)} {off c : Nat} (h : Held w ps bx mb g k T F off c)
include h
theorem Held.lts : ps < w.heap.size ∧ bx < w.heap.size ∧ mb < w.heap.size ∧ g < w.heap.size := by
  obtain ⟨es, cl, hm⟩ := h.map.form
  obtain ⟨cur, hr, _⟩ := h.row
  exact ⟨mem_block_lt h.self, mem_block_lt h.var, mem_block_lt hm, mem_block_lt hr⟩
theorem Held.apart : ps ≠ bx ∧ ps ≠ mb ∧ ps ≠ g ∧ bx ≠ mb ∧ bx ≠ g ∧ mb ≠ g := by
  obtain ⟨es, cl, hm⟩ := h.map.form
  obtain ⟨cur, hr, _⟩ := h.row
  have h1 := h.self
  have h2 := h.var
  refine ⟨?_, ?_, ?_, ?_, ?_, ?_⟩ <;> rintro rfl
  · rw [h1] at h2; cases h2
  · rw [h1] at hm; cases hm
  · rw [h1] at hr; cases hr
  · rw [h2] at hm; cases hm
  · rw [h2] at hr; cases hr
  · rw [hm] at hr; cases hr
theorem Held.below {w' : World} (hb : Below w.heap.size w w') : Held w' ps bx mb g k T F off c := by
  obtain ⟨a, b, d, e⟩ := h.lts
  exact h.keep fun i hi => hb.block i (by omega)
theorem Held.cells : w.cell? ⟨ps, 0, none⟩ = some (bV ps) ∧ w.cell? ⟨ps, 1, none⟩ = some (.map (some mb)) ∧ w.cell? ⟨ps, 2, none⟩ = some (.slice (some ⟨g, off, none⟩) F.length c) ∧ w.cell? ⟨ps, 3, none⟩ = some (.func (.func 42) #[] #[bV bx]) ∧ w.cell? ⟨bx, 0, none⟩ = some (bV ps) := by
  have h1 := h.self
  have h2 := h.var
  refine ⟨?_, ?_, ?_, ?_, ?_⟩ <;> simp [World.cell?, h1, h2]
theorem Held.froz (j : Nat) : w.frozen? ⟨ps, j, none⟩ = false := by simp [World.frozen?, h.self]
theorem Held.span {i : Nat} {p : Nat × Nat} (hp : F[i]? = some p) : w.cell? ⟨g, off + i * 2, none⟩ = some (nV p.1) ∧ w.cell? ⟨g, off + i * 2 + 1, none⟩ = some (nV p.2) := by
  have := flat_at F i p hp
  rw [Nat.mul_comm] at this
  exact ⟨h.row.cell this.1, h.row.cell this.2⟩
end
end Go.Proofs.Ytlbbbfmnghcdnaa
