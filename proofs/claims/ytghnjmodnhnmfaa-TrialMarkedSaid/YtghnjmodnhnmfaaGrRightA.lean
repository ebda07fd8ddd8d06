/- GraphRight's own row of objects: the graph's objects, appended onto nothing; a count that is written. -/
import Derived.Test.YtghnjmodnhnmfaaGrRightM
import Derived.Test.YtghnjmodnhnmfaaGrOpen
import Derived.Maps.AppendAt
import Derived.Deep.DeepCutAuto
namespace Go.Proofs.Ytghnjmodnhnmfaa
set_option maxRecDepth 20000
open Go.ChangeShapes Go.WideShapes Go.ChangeAt Go.RowKit Go.Maps

/-- The block b, one of the call's own, holds the objects h; their slots were there ahead of all. -/
def HAt (w0 w : World) (b : Nat) (h : List OB) : Prop :=
  w0.heap.size ≤ b ∧ (∀ j, w.frozen? ⟨b, j, none⟩ = false) ∧ ∀ (i : Nat) o, h[i]? = some o → ∃ sA sc, CellsAt w ⟨b, i * 5, none⟩ o sA sc ∧ SlotsAt w0 o sA
theorem HAt.graph {w0 w : World} {b : Nat} {h : List OB} (H : HAt w0 w b h) (hb : Below w0.heap.size w0 w) : GAt w (some ⟨b, 0, none⟩) h := by
  intro i o ho
  obtain ⟨sA, sc, hc, hs⟩ := H.2.2 i o ho
  refine ⟨⟨b, 0, none⟩, sA, sc, rfl, (World.block_lt_of_cell? w ⟨b, i * 5, none⟩ hc.1 : b < w.heap.size), ?_, hs.below hb⟩
  have e : (⟨b, 0, none⟩ : Addr).add (i * 5) = ⟨b, i * 5, none⟩ := by unfold Addr.add; split <;> simp_all
  rw [e]; exact hc
theorem HAt.keep {w0 w w' : World} {b : Nat} {h : List OB} (H : HAt w0 w b h) (hk : w'.heap[b]? = w.heap[b]?) : HAt w0 w' b h := by
  obtain ⟨h1, h2, h3⟩ := H
  have e : ∀ j, w'.cell? ⟨b, j, none⟩ = w.cell? ⟨b, j, none⟩ := fun j => by simp only [World.cell?, hk]
  have f : ∀ j, w'.frozen? ⟨b, j, none⟩ = w.frozen? ⟨b, j, none⟩ := fun j => by simp only [World.frozen?, hk]
  refine ⟨h1, fun j => (f j).trans (h2 j), fun i o ho => ?_⟩
  obtain ⟨sA, sc, ⟨c0, c1, c2, c3, c4⟩, hs⟩ := h3 i o ho
  exact ⟨sA, sc, ⟨(e _).trans c0, (e _).trans c1, (e _).trans c2, (e _).trans c3, (e _).trans c4⟩, hs⟩
theorem HAt.set {w0 w : World} {b : Nat} {h : List OB} (H : HAt w0 w b h) {i : Nat} {o : OB} (ho : h[i]? = some o) (x : Int) : HAt w0 (w.setCell ⟨b, i * 5 + 1, none⟩ (iV x)) b (h.set i { o with count := x }) := by
  obtain ⟨h1, h2, h3⟩ := H
  have e : ∀ j, j ≠ i * 5 + 1 → (w.setCell ⟨b, i * 5 + 1, none⟩ (iV x)).cell? ⟨b, j, none⟩ = w.cell? ⟨b, j, none⟩ := fun j hj => World.cell?_setCell_other _ _ _ _ (by intro e; injection e with _ e; exact hj e.symm)
  refine ⟨h1, fun j => by rw [World.frozen?_setCell]; exact h2 j, fun k p hp => ?_⟩
  by_cases hk : k = i
  · subst hk
    obtain ⟨sA, sc, ⟨c0, c1, c2, c3, c4⟩, hs⟩ := h3 k o ho
    rw [List.getElem?_set_self (List.getElem?_eq_some_iff.1 ho).1] at hp
    injection hp with hp
    subst hp
    exact ⟨sA, sc, ⟨(e _ (by omega)).trans c0, World.cell?_setCell_same _ _ _ c1, (e _ (by simp)).trans c2, (e _ (by simp)).trans c3, (e _ (by simp)).trans c4⟩, hs⟩
  · rw [List.getElem?_set_ne (Ne.symm hk)] at hp
    obtain ⟨sA, sc, ⟨c0, c1, c2, c3, c4⟩, hs⟩ := h3 k p hp
    exact ⟨sA, sc, ⟨(e _ (by omega)).trans c0, (e _ (by show k * 5 + 1 ≠ _; omega)).trans c1, (e _ (by show k * 5 + 2 ≠ _; omega)).trans c2, (e _ (by show k * 5 + 3 ≠ _; omega)).trans c3, (e _ (by show k * 5 + 4 ≠ _; omega)).trans c4⟩, hs⟩
theorem obj_info : (Try.prog.info? 38).map (fun i => (i.zero, i.size, i.bytes)) = some (some (.agg #[.int .i64 0, .int .i64 0, .slice none 0 0, .string ⟨#[]⟩, .int .i64 0]), 5, 64) := by kernel_rfl
/-- The cells of objects, their slots' rows by name. -/
def cellsG (sl : Nat → Option Addr × Nat) : Nat → List OB → List Value
  | _, [] => []
  | k, o :: r => iV o.kind :: iV o.count :: .slice (sl k).1 o.slots.length (sl k).2 :: .string o.text :: iV o.mark :: cellsG sl (k + 1) r
theorem cellsG_len (sl : Nat → Option Addr × Nat) : ∀ (k : Nat) (g : List OB), (cellsG sl k g).length = g.length * 5
  | _, [] => rfl
  | k, o :: r => by simp only [cellsG, List.length_cons, cellsG_len sl (k + 1) r]; omega
theorem cellsG_at (sl : Nat → Option Addr × Nat) : ∀ (k : Nat) (g : List OB) (i : Nat) (o : OB), g[i]? = some o →
    (cellsG sl k g)[i * 5]? = some (iV o.kind) ∧ (cellsG sl k g)[i * 5 + 1]? = some (iV o.count) ∧ (cellsG sl k g)[i * 5 + 2]? = some (.slice (sl (k + i)).1 o.slots.length (sl (k + i)).2) ∧ (cellsG sl k g)[i * 5 + 3]? = some (.string o.text) ∧ (cellsG sl k g)[i * 5 + 4]? = some (iV o.mark)
  | k, [], i, o, h => by simp at h
  | k, o :: r, 0, p, h => by injection h with h; subst h; exact ⟨rfl, rfl, rfl, rfl, rfl⟩
  | k, o :: r, i + 1, p, h => by
    have := cellsG_at sl (k + 1) r i p (by simpa using h)
    rw [show k + 1 + i = k + (i + 1) by omega] at this
    have e : ∀ t, (cellsG sl k (o :: r))[(i + 1) * 5 + t]? = (cellsG sl (k + 1) r)[i * 5 + t]? := fun t => by
      rw [show (i + 1) * 5 + t = (i * 5 + t) + 5 by omega]
      rfl
    exact ⟨(e 0).trans this.1, (e 1).trans this.2.1, (e 2).trans this.2.2.1, (e 3).trans this.2.2.2.1, (e 4).trans this.2.2.2.2⟩
theorem five_split (j : Nat) : ∃ i t, j = i * 5 + t ∧ t < 5 := ⟨j / 5, j % 5, by omega, by omega⟩
/-- What lies in the cells of a graph that is there. -/
theorem g_cells {w : World} {ad : Addr} {g : List OB} (h : GAt w (some ad) g) : ∃ sl : Nat → Option Addr × Nat, (∀ i o, g[i]? = some o → SlotsAt w o (sl i).1) ∧ (∀ j u, (cellsG sl 0 g)[j]? = some u → w.cell? (ad.add j) = some u) ∧ ∀ u ∈ cellsG sl 0 g, u.oneCell' = true := by
  have each : ∀ i, i < g.length → ∃ s : Option Addr × Nat, ∀ o, g[i]? = some o → CellsAt w (ad.add (i * 5)) o s.1 s.2 ∧ SlotsAt w o s.1 := by
    intro i hi
    obtain ⟨o, ho⟩ : ∃ o, g[i]? = some o := ⟨_, List.getElem?_eq_getElem hi⟩
    obtain ⟨a, sA, sc, e, _, hc, hs⟩ := h i o ho
    injection e with e
    subst e
    exact ⟨(sA, sc), fun o' ho' => by rw [ho] at ho'; injection ho' with ho'; subst ho'; exact ⟨hc, hs⟩⟩
  obtain ⟨sl, hsl⟩ := Go.Deep.choose_lt each
  have all : ∀ j u, (cellsG sl 0 g)[j]? = some u → w.cell? (ad.add j) = some u ∧ u.oneCell' = true := by
    intro j u hu
    obtain ⟨i, t, rfl, ht⟩ := five_split j
    have hi : i < g.length := by
      have := (List.getElem?_eq_some_iff.1 hu).1
      rw [cellsG_len] at this
      omega
    obtain ⟨o, ho⟩ : ∃ o, g[i]? = some o := ⟨_, List.getElem?_eq_getElem hi⟩
    obtain ⟨⟨c0, c1, c2, c3, c4⟩, hs⟩ := hsl i hi o ho
    obtain ⟨d0, d1, d2, d3, d4⟩ := cellsG_at sl 0 g i o ho
    rw [Nat.zero_add] at d2
    have add : ∀ t, t ≠ 0 → w.cell? (ad.add (i * 5 + t)) = w.cell? ⟨(ad.add (i * 5)).block, (ad.add (i * 5)).off + t, none⟩ := fun t ht => by
      rw [← Addr.add_add ad (i * 5) t]
      conv => lhs; unfold Addr.add
      rw [if_neg ht]
      rfl
    match t, ht with
    | 0, _ => rw [Nat.add_zero] at hu; rw [d0] at hu; injection hu with hu; subst hu; exact ⟨c0, rfl⟩
    | 1, _ => rw [d1] at hu; injection hu with hu; subst hu; exact ⟨(add 1 (by decide)).trans c1, rfl⟩
    | 2, _ => rw [d2] at hu; injection hu with hu; subst hu; exact ⟨(add 2 (by decide)).trans c2, rfl⟩
    | 3, _ => rw [d3] at hu; injection hu with hu; subst hu; exact ⟨(add 3 (by decide)).trans c3, rfl⟩
    | 4, _ => rw [d4] at hu; injection hu with hu; subst hu; exact ⟨(add 4 (by decide)).trans c4, rfl⟩
  refine ⟨sl, fun i o ho => (hsl i (List.getElem?_eq_some_iff.1 ho).1 o ho).2, fun j u hu => (all j u hu).1, fun u hu => ?_⟩
  obtain ⟨j, hj⟩ := List.getElem?_of_mem hu
  exact (all j u hj).2
/-- An own row with those cells, read as objects. -/
theorem h_of_own {w0 w : World} {base : Nat} {v : Value} {g : List OB} {sl : Nat → Option Addr × Nat} (hown : w.ownsRow base 38 5 v g.length (cellsG sl 0 g)) (hbase : w0.heap.size ≤ base) (hs : ∀ i o, g[i]? = some o → SlotsAt w0 o (sl i).1) (hne : g ≠ []) :
    ∃ b cap, v = .slice (some ⟨b, 0, none⟩) g.length cap ∧ base ≤ b ∧ HAt w0 w b g := by
  obtain ⟨_, h | ⟨b, cap, cur, rfl, hb, hc, h1, h2, h3, h4⟩⟩ := hown
  · exact absurd (List.length_eq_zero_iff.1 h.2) hne
  · refine ⟨b, cap, rfl, hb, Nat.le_trans hbase hb, fun j => by simp [World.frozen?, hc], fun i o ho => ⟨(sl i).1, (sl i).2, ?_, hs i o ho⟩⟩
    have hi := (List.getElem?_eq_some_iff.1 ho).1
    have cell : ∀ j u, (cellsG sl 0 g)[j]? = some u → w.cell? ⟨b, j, none⟩ = some u := by
      intro j u hu
      rw [← h4, List.getElem?_take] at hu
      split at hu
      · simp only [World.cell?, hc]
        simpa using hu
      · cases hu
    obtain ⟨d0, d1, d2, d3, d4⟩ := cellsG_at sl 0 g i o ho
    rw [Nat.zero_add] at d2
    exact ⟨cell _ _ d0, cell _ _ d1, cell _ _ d2, cell _ _ d3, cell _ _ d4⟩
theorem wpList_append_objs {ops : Array Oper} {rest : List Oper} {o : Oper} {a : Act} {w : World} {Q : Exit → Act → World → Prop} (hgd : o.guard = none) (s x : Operand)
    (ho : o.op = .call { callee := .builtin .append, args := #[s, x], argTypes := #[22, 22] }) (hs : a.eval s = .slice none 0 0) {w0 : World} {A : Option Addr} {c n : Nat} {g : List OB} (hx : a.eval x = .slice A n c) (hn : n = g.length)
    (hg : GAt w0 A g) (hb : Below w0.heap.size w0 w) (hz : n * 64 ≤ 140737488355328) (hne : g ≠ [])
    (h : ∀ b cap w', Hid (HAt w0 w' b g) → b = w.heap.size → Hid (Below w.heap.size w w') → Hid (b < w'.heap.size) → wpList Try.prog ops Q rest (a.put o.dst (.slice (some ⟨b, 0, none⟩) n cap)) w') : wpList Try.prog ops Q (o :: rest) a w := by
  subst hn
  obtain ⟨ad, rfl⟩ : ∃ ad, A = some ad := by
    cases g with
    | nil => exact absurd rfl hne
    | cons o r => obtain ⟨a, _, _, e, _⟩ := hg 0 o rfl; exact ⟨a, e⟩
  obtain ⟨sl, k1, k2, k3⟩ := g_cells hg
  have hl : ad.block < w0.heap.size := by
    cases g with
    | nil => exact absurd rfl hne
    | cons o r => obtain ⟨a, _, _, e, hl, _⟩ := hg 0 o rfl; injection e with e; subst e; exact hl
  obtain ⟨i0, hi0, hz0, hz1, hz2⟩ := info_parts obj_info
  refine wpList_append_own_at _ hgd s x 22 ho w.heap.size 38 i0 _ 5 64 Try.underlying22 hi0 hz0 hz1 hz2 rfl (by decide) (.slice none 0 0) 0 [] hs ⟨rfl, .inl ⟨rfl, rfl⟩⟩ ad g.length c (cellsG sl 0 g) hx (cellsG_len _ _ _) (fun j u hu => (hb.cell (p := ad.add j) (by rw [Go.ChangeShapes.block_add]; exact hl)).trans (k2 j u hu)) k3 (by unfold maxLen; omega) (by omega) (Nat.le_refl _) ?_
  intro v' w' h1 h2 _ h4
  rw [Nat.zero_add, List.nil_append] at h1
  obtain ⟨b, cap, rfl, hb1, H⟩ := h_of_own h1 hb.size k1 hne
  have hbl : b < w'.heap.size := by
    cases g with
    | nil => exact absurd rfl hne
    | cons o r => obtain ⟨_, _, hc, _⟩ := H.2.2 0 o rfl; exact World.block_lt_of_cell? w' ⟨b, 0 * 5, none⟩ hc.1
  refine h b cap w' H ?_ ⟨h2.os, h2.tape, h2.output, h2.size, fun k hk => h2.block k hk (by simp [Value.ownBlock])⟩ hbl
  rcases h4 with h4 | h4
  · simp [Value.ownBlock] at h4
  · simpa [Value.ownBlock] using h4
end Go.Proofs.Ytghnjmodnhnmfaa
