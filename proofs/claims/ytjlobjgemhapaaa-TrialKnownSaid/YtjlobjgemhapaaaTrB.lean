/- GrRightM: A graph whose counts alone are made otherwise: what may be and what is held stay; where counts are right Exact is silent, where one is not it is told alone. Plain. | GrRightA: GraphRight's own row of objects: the graph's objects, appended onto nothing; a count that is written. | GrRightB: GraphRight's loops, plain: counts made right one by one, by what slots hold and by what is held beside. | TrRightM: Where counts are right: who is held from outside is held beside, or by one that was not seen. Plain. -/
import Derived.Test.YtjlobjgemhapaaaOldV
import Derived.Test.YtjlobjgemhapaaaOldG
import Derived.Test.YtjlobjgemhapaaaGrOpen
import Derived.Maps.AppendAt
import Derived.Deep.DeepCutAuto
import Derived.Test.YtjlobjgemhapaaaTrMath
import Derived.Test.YtjlobjgemhapaaaOldR
namespace Go.Proofs.Ytjlobjgemhapaaa
set_option maxRecDepth 20000
set_option maxRecDepth 20000

/-- h is g but for counts (those of free numbers stay). -/
def Like (g h : List OB) : Prop := g.length = h.length ∧ ∀ (i : Nat) o p, g[i]? = some o → h[i]? = some p → p.kind = o.kind ∧ p.slots = o.slots ∧ p.text = o.text ∧ p.mark = o.mark ∧ (o.kind = 0 → p.count = o.count)
theorem Like.refl (g : List OB) : Like g g := ⟨rfl, fun i o p h1 h2 => by rw [h1] at h2; injection h2 with h2; subst h2; exact ⟨rfl, rfl, rfl, rfl, fun _ => rfl⟩⟩
theorem Like.set {g h : List OB} (hl : Like g h) {i : Nat} {o : OB} (ho : h[i]? = some o) (hk : o.kind ≠ 0) (x : Int) : Like g (h.set i { o with count := x }) := by
  refine ⟨by rw [List.length_set]; exact hl.1, fun j a p h1 h2 => ?_⟩
  by_cases hj : j = i
  · subst hj
    obtain ⟨k1, k2, k3, k4, k5⟩ := hl.2 j a o h1 ho
    have hlt := (List.getElem?_eq_some_iff.1 ho).1
    rw [List.getElem?_set_self hlt] at h2
    injection h2 with h2
    subst h2
    exact ⟨k1, k2, k3, k4, fun e => absurd (k1.trans e) hk⟩
  · rw [List.getElem?_set_ne (Ne.symm hj)] at h2
    exact hl.2 j a p h1 h2
theorem Like.slots {g h : List OB} (hl : Like g h) : h.map OB.slots = g.map OB.slots := by
  refine List.ext_getElem? fun i => ?_
  rw [List.getElem?_map, List.getElem?_map]
  cases hg : g[i]? with
  | none =>
    have := List.getElem?_eq_none_iff.1 hg
    rw [List.getElem?_eq_none (by rw [← hl.1]; exact this)]
  | some o =>
    have hi : i < h.length := by rw [← hl.1]; exact (List.getElem?_eq_some_iff.1 hg).1
    have hp := List.getElem?_eq_getElem hi
    rw [hp]
    simp [(hl.2 i o _ hg hp).2.1]
theorem allRefs_map (g : List OB) : allRefs g = (g.map OB.slots).flatMap refsL := by
  unfold allRefs; rw [List.flatMap_map]
theorem Like.refs {g h : List OB} (hl : Like g h) : allRefs h = allRefs g := by rw [allRefs_map, allRefs_map, hl.slots]
theorem Like.at {g h : List OB} (hl : Like g h) {i : Nat} {p : OB} (hp : h[i]? = some p) : ∃ o, g[i]? = some o ∧ p.kind = o.kind ∧ p.slots = o.slots ∧ p.text = o.text ∧ p.mark = o.mark ∧ (o.kind = 0 → p.count = o.count) := by
  have hi : i < g.length := by rw [hl.1]; exact (List.getElem?_eq_some_iff.1 hp).1
  exact ⟨_, List.getElem?_eq_getElem hi, hl.2 i _ p (List.getElem?_eq_getElem hi) hp⟩
theorem Like.there {g h : List OB} (hl : Like g h) (v : Int × Int) : thereB h v = thereB g v := by
  unfold thereB
  cases hg : g[(v.2 - 1).toNat]? with
  | none =>
    have := List.getElem?_eq_none_iff.1 hg
    rw [List.getElem?_eq_none (by rw [← hl.1]; exact this)]
  | some o =>
    have hi : (v.2 - 1).toNat < h.length := by rw [← hl.1]; exact (List.getElem?_eq_some_iff.1 hg).1
    have hp := List.getElem?_eq_getElem hi
    rw [hp]
    simp only [(hl.2 _ o _ hg hp).1]
theorem Like.slotB {g h : List OB} (hl : Like g h) : Go.Proofs.Ytjlobjgemhapaaa.slotB h = Go.Proofs.Ytjlobjgemhapaaa.slotB g := by
  funext v; unfold Go.Proofs.Ytjlobjgemhapaaa.slotB; rw [hl.there]
theorem Like.check {g h : List OB} (hl : Like g h) (hg : checkB g = true) (hc : ∀ (i : Nat) p, h[i]? = some p → p.kind ≠ 0 → 0 ≤ p.count) : checkB h = true := by
  unfold checkB at hg ⊢
  rw [List.all_eq_true] at hg ⊢
  intro p hp
  obtain ⟨i, hi⟩ := List.getElem?_of_mem hp
  obtain ⟨o, ho, k1, k2, k3, k4, k5⟩ := hl.at hi
  have h0 := hg o (List.mem_of_getElem? ho)
  simp only [objOk, Bool.and_eq_true] at h0 ⊢
  obtain ⟨⟨⟨h1, h2⟩, h3⟩, h4⟩ := h0
  refine ⟨⟨⟨?_, ?_⟩, ?_⟩, ?_⟩
  · unfold kindOk at h1 ⊢; rw [k1]; exact h1
  · unfold numOk at h2 ⊢
    rw [k1, k4]
    by_cases hz : o.kind = 0
    · rw [k5 hz]; exact h2
    · rw [if_neg hz] at h2 ⊢
      have hn := hc i p hi (by rw [k1]; exact hz)
      simp only [Bool.and_eq_true, decide_eq_true_eq] at h2 ⊢
      exact ⟨hn, h2.2⟩
  · unfold textOk at h3 ⊢; rw [k1, k3]; exact h3
  · unfold slotsOk at h4 ⊢; rw [k1, k2, hl.slotB]; exact h4
theorem which_none {p : Nat → OB → Bool} {g : List OB} (h : ∀ (k : Nat) o, g[k]? = some o → p (k + 1) o = false) : whichL p g = [] := by
  have : ∀ k, k ≤ g.length → whichL p (g.take k) = [] := by
    intro k
    induction k with
    | zero => intro _; simp [whichL]
    | succ k ih =>
      intro hk
      obtain ⟨o, ho⟩ : ∃ o, g[k]? = some o := ⟨_, List.getElem?_eq_getElem (by omega)⟩
      rw [which_snoc_no ho (h k o ho)]
      exact ih (by omega)
  have := this g.length (Nat.le_refl _)
  rwa [List.take_length] at this
theorem which_one {p : Nat → OB → Bool} {g : List OB} {i : Nat} {o : OB} (hi : g[i]? = some o) (hp : p (i + 1) o = true) (h : ∀ (k : Nat) o, k ≠ i → g[k]? = some o → p (k + 1) o = false) : whichL p g = [i + 1] := by
  have hlt := (List.getElem?_eq_some_iff.1 hi).1
  have : ∀ k, k ≤ g.length → whichL p (g.take k) = if i < k then [i + 1] else [] := by
    intro k
    induction k with
    | zero => intro _; simp [whichL]
    | succ k ih =>
      intro hk
      obtain ⟨q, hq⟩ : ∃ q, g[k]? = some q := ⟨_, List.getElem?_eq_getElem (by omega)⟩
      by_cases e : k = i
      · subst e
        rw [hi] at hq; injection hq with hq; subst hq
        rw [which_snoc_yes hi hp, ih (by omega), if_neg (Nat.lt_irrefl _), if_pos (Nat.lt_succ_self _)]
        rfl
      · rw [which_snoc_no hq (h k q e hq), ih (by omega)]
        by_cases hik : i < k
        · rw [if_pos hik, if_pos (by omega)]
        · rw [if_neg hik, if_neg (by omega)]
  have := this g.length (Nat.le_refl _)
  rwa [List.take_length, if_pos hlt] at this
/-- How often number i + 1 is held, beside too. -/
def cntA (g : List OB) (more : List (Int × Int)) (n : Int) : Int := cntF (allRefs g ++ refsL more) n
theorem exact_nil {g h : List OB} {more : List (Int × Int)} (hl : Like g h) (hc : ∀ (i : Nat) p, h[i]? = some p → p.kind ≠ 0 → p.count = cntA g more ((i : Int) + 1)) : exactL h more = [] := by
  unfold exactL
  split
  · rw [which_none fun k o ho => ?_]
    · rfl
    · by_cases hk : o.kind = 0
      · simp [hk]
      · have := hc k o ho hk
        rw [hl.refs]
        unfold cntA at this
        simp [this]
  · rfl
theorem exact_one {g h : List OB} {more : List (Int × Int)} (hl : Like g h) (hch : checkB h = true) {i : Nat} {o : OB} (hi : h[i]? = some o) (hk : o.kind ≠ 0) (hx : o.count ≠ cntA g more ((i : Int) + 1))
    (hc : ∀ (j : Nat) p, j ≠ i → h[j]? = some p → p.kind ≠ 0 → p.count = cntA g more ((j : Int) + 1)) : exactL h more = [(i : Int) + 1] := by
  unfold exactL
  rw [if_pos hch, which_one hi ?_ fun k o e ho => ?_]
  · simp [intsOf]
  · rw [hl.refs]
    unfold cntA at hx
    have := hx
    simp [hk, this]
  · by_cases hk : o.kind = 0
    · simp [hk]
    · have := hc k o e ho hk
      rw [hl.refs]
      unfold cntA at this
      simp [this]
theorem refs_total {g : List OB} {m : Nat} (h : (g.map fun o => o.slots.length).sum ≤ m) : (allRefs g).length ≤ m := by
  refine Nat.le_trans ?_ h
  unfold allRefs
  rw [List.length_flatMap]
  clear h
  induction g with
  | nil => simp
  | cons o r ih =>
    simp only [List.map_cons, List.sum_cons]
    have := refsL_len o.slots
    omega
theorem cnt_small {L : List Int} {m : Nat} (h : L.length ≤ m) (hm : m ≤ 4194304) (n : Int) : cntF L n = L.count n ∧ 0 ≤ cntF L n ∧ cntF L n ≤ 4194304 := by
  have h1 : L.count n ≤ L.length := List.count_le_length
  have : cntF L n = L.count n := by
    unfold cntF; exact w64_id ⟨by omega, by omega⟩
  rw [this]
  exact ⟨rfl, by omega, by omega⟩
end Go.Proofs.Ytjlobjgemhapaaa
namespace Go.Proofs.Ytjlobjgemhapaaa
set_option maxRecDepth 20000
set_option maxRecDepth 20000
open Go.ChangeShapes Go.WideShapes Go.ChangeAt Go.RowKit Go.Maps

/-- The block b, one of the call's own, holds the objects h; their slots were there ahead of all. -/
def HAt (w0 w : World) (b : Nat) (h : List OB) : Prop :=
  w0.heap.size ≤ b ∧ (∀ j, w.frozen? ⟨b, j, none⟩ = false) ∧ ∀ (i : Nat) o, h[i]? = some o → ∃ sA sc, CellsAt w ⟨b, i * 5, none⟩ o sA sc ∧ SlotsAt w0 o sA
theorem HAt.graph {w0 w : World} {b : Nat} {h : List OB} (H : HAt w0 w b h) (hb : Below w0.heap.size w0 w) : GAt w (some ⟨b, 0, none⟩) h := by
  intro i o ho
  obtain ⟨sA, sc, hc, hs⟩ := H.2.2 i o ho
  refine ⟨⟨b, 0, none⟩, sA, sc, rfl, (World.block_lt_of_cell? w ⟨b, i * 5, none⟩ hc.1 : b < w.heap.size), ?_, hs.below hb⟩
  have e : (⟨b, 0, none⟩ : Addr).add (i * 5) = ⟨b, i * 5, none⟩ := by unfold Addr.add; split <;> simp_all
  rw [e]; exact hc
theorem HAt.keep {w0 w w' : World} {b : Nat} {h : List OB} (H : HAt w0 w b h) (hk : w'.heap[b]? = w.heap[b]?) : HAt w0 w' b h := by
  obtain ⟨h1, h2, h3⟩ := H
  have e : ∀ j, w'.cell? ⟨b, j, none⟩ = w.cell? ⟨b, j, none⟩ := fun j => by simp only [World.cell?, hk]
  have f : ∀ j, w'.frozen? ⟨b, j, none⟩ = w.frozen? ⟨b, j, none⟩ := fun j => by simp only [World.frozen?, hk]
  refine ⟨h1, fun j => (f j).trans (h2 j), fun i o ho => ?_⟩
  obtain ⟨sA, sc, ⟨c0, c1, c2, c3, c4⟩, hs⟩ := h3 i o ho
  exact ⟨sA, sc, ⟨(e _).trans c0, (e _).trans c1, (e _).trans c2, (e _).trans c3, (e _).trans c4⟩, hs⟩
theorem HAt.set {w0 w : World} {b : Nat} {h : List OB} (H : HAt w0 w b h) {i : Nat} {o : OB} (ho : h[i]? = some o) (x : Int) : HAt w0 (w.setCell ⟨b, i * 5 + 1, none⟩ (iV x)) b (h.set i { o with count := x }) := by
  obtain ⟨h1, h2, h3⟩ := H
  have e : ∀ j, j ≠ i * 5 + 1 → (w.setCell ⟨b, i * 5 + 1, none⟩ (iV x)).cell? ⟨b, j, none⟩ = w.cell? ⟨b, j, none⟩ := fun j hj => World.cell?_setCell_other _ _ _ _ (by intro e; injection e with _ e; exact hj e.symm)
  refine ⟨h1, fun j => by rw [World.frozen?_setCell]; exact h2 j, fun k p hp => ?_⟩
  by_cases hk : k = i
  · subst hk
    obtain ⟨sA, sc, ⟨c0, c1, c2, c3, c4⟩, hs⟩ := h3 k o ho
    rw [List.getElem?_set_self (List.getElem?_eq_some_iff.1 ho).1] at hp
    injection hp with hp
    subst hp
    exact ⟨sA, sc, ⟨(e _ (by omega)).trans c0, World.cell?_setCell_same _ _ _ c1, (e _ (by simp)).trans c2, (e _ (by simp)).trans c3, (e _ (by simp)).trans c4⟩, hs⟩
  · rw [List.getElem?_set_ne (Ne.symm hk)] at hp
    obtain ⟨sA, sc, ⟨c0, c1, c2, c3, c4⟩, hs⟩ := h3 k p hp
    exact ⟨sA, sc, ⟨(e _ (by omega)).trans c0, (e _ (by show k * 5 + 1 ≠ _; omega)).trans c1, (e _ (by show k * 5 + 2 ≠ _; omega)).trans c2, (e _ (by show k * 5 + 3 ≠ _; omega)).trans c3, (e _ (by show k * 5 + 4 ≠ _; omega)).trans c4⟩, hs⟩
theorem obj_info : (Try.prog.info? 38).map (fun i => (i.zero, i.size, i.bytes)) = some (some (.agg #[.int .i64 0, .int .i64 0, .slice none 0 0, .string ⟨#[]⟩, .int .i64 0]), 5, 64) := by kernel_rfl
/-- The cells of objects, their slots' rows by name. -/
def cellsG (sl : Nat → Option Addr × Nat) : Nat → List OB → List Value
  | _, [] => []
  | k, o :: r => iV o.kind :: iV o.count :: .slice (sl k).1 o.slots.length (sl k).2 :: .string o.text :: iV o.mark :: cellsG sl (k + 1) r
theorem cellsG_len (sl : Nat → Option Addr × Nat) : ∀ (k : Nat) (g : List OB), (cellsG sl k g).length = g.length * 5
  | _, [] => rfl
  | k, o :: r => by simp only [cellsG, List.length_cons, cellsG_len sl (k + 1) r]; omega
theorem cellsG_at (sl : Nat → Option Addr × Nat) : ∀ (k : Nat) (g : List OB) (i : Nat) (o : OB), g[i]? = some o →
    (cellsG sl k g)[i * 5]? = some (iV o.kind) ∧ (cellsG sl k g)[i * 5 + 1]? = some (iV o.count) ∧ (cellsG sl k g)[i * 5 + 2]? = some (.slice (sl (k + i)).1 o.slots.length (sl (k + i)).2) ∧ (cellsG sl k g)[i * 5 + 3]? = some (.string o.text) ∧ (cellsG sl k g)[i * 5 + 4]? = some (iV o.mark)
  | k, [], i, o, h => by simp at h
  | k, o :: r, 0, p, h => by injection h with h; subst h; exact ⟨rfl, rfl, rfl, rfl, rfl⟩
  | k, o :: r, i + 1, p, h => by
    have := cellsG_at sl (k + 1) r i p (by simpa using h)
    rw [show k + 1 + i = k + (i + 1) by omega] at this
    have e : ∀ t, (cellsG sl k (o :: r))[(i + 1) * 5 + t]? = (cellsG sl (k + 1) r)[i * 5 + t]? := fun t => by
      rw [show (i + 1) * 5 + t = (i * 5 + t) + 5 by omega]
      rfl
    exact ⟨(e 0).trans this.1, (e 1).trans this.2.1, (e 2).trans this.2.2.1, (e 3).trans this.2.2.2.1, (e 4).trans this.2.2.2.2⟩
theorem five_split (j : Nat) : ∃ i t, j = i * 5 + t ∧ t < 5 := ⟨j / 5, j % 5, by omega, by omega⟩
/-- What lies in the cells of a graph that is there. -/
theorem g_cells {w : World} {ad : Addr} {g : List OB} (h : GAt w (some ad) g) : ∃ sl : Nat → Option Addr × Nat, (∀ i o, g[i]? = some o → SlotsAt w o (sl i).1) ∧ (∀ j u, (cellsG sl 0 g)[j]? = some u → w.cell? (ad.add j) = some u) ∧ ∀ u ∈ cellsG sl 0 g, u.oneCell' = true := by
  have each : ∀ i, i < g.length → ∃ s : Option Addr × Nat, ∀ o, g[i]? = some o → CellsAt w (ad.add (i * 5)) o s.1 s.2 ∧ SlotsAt w o s.1 := by
    intro i hi
    obtain ⟨o, ho⟩ : ∃ o, g[i]? = some o := ⟨_, List.getElem?_eq_getElem hi⟩
    obtain ⟨a, sA, sc, e, _, hc, hs⟩ := h i o ho
    injection e with e
    subst e
    exact ⟨(sA, sc), fun o' ho' => by rw [ho] at ho'; injection ho' with ho'; subst ho'; exact ⟨hc, hs⟩⟩
  obtain ⟨sl, hsl⟩ := Go.Deep.choose_lt each
  have all : ∀ j u, (cellsG sl 0 g)[j]? = some u → w.cell? (ad.add j) = some u ∧ u.oneCell' = true := by
    intro j u hu
    obtain ⟨i, t, rfl, ht⟩ := five_split j
    have hi : i < g.length := by
      have := (List.getElem?_eq_some_iff.1 hu).1
      rw [cellsG_len] at this
      omega
    obtain ⟨o, ho⟩ : ∃ o, g[i]? = some o := ⟨_, List.getElem?_eq_getElem hi⟩
    obtain ⟨⟨c0, c1, c2, c3, c4⟩, hs⟩ := hsl i hi o ho
    obtain ⟨d0, d1, d2, d3, d4⟩ := cellsG_at sl 0 g i o ho
    rw [Nat.zero_add] at d2
    have add : ∀ t, t ≠ 0 → w.cell? (ad.add (i * 5 + t)) = w.cell? ⟨(ad.add (i * 5)).block, (ad.add (i * 5)).off + t, none⟩ := fun t ht => by
      rw [← Addr.add_add ad (i * 5) t]
      conv => lhs; unfold Addr.add
      rw [if_neg ht]
      rfl
    match t, ht with
    | 0, _ => rw [Nat.add_zero] at hu; rw [d0] at hu; injection hu with hu; subst hu; exact ⟨c0, rfl⟩
    | 1, _ => rw [d1] at hu; injection hu with hu; subst hu; exact ⟨(add 1 (by decide)).trans c1, rfl⟩
    | 2, _ => rw [d2] at hu; injection hu with hu; subst hu; exact ⟨(add 2 (by decide)).trans c2, rfl⟩
    | 3, _ => rw [d3] at hu; injection hu with hu; subst hu; exact ⟨(add 3 (by decide)).trans c3, rfl⟩
    | 4, _ => rw [d4] at hu; injection hu with hu; subst hu; exact ⟨(add 4 (by decide)).trans c4, rfl⟩
  refine ⟨sl, fun i o ho => (hsl i (List.getElem?_eq_some_iff.1 ho).1 o ho).2, fun j u hu => (all j u hu).1, fun u hu => ?_⟩
  obtain ⟨j, hj⟩ := List.getElem?_of_mem hu
  exact (all j u hj).2
/-- An own row with those cells, read as objects. -/
theorem h_of_own {w0 w : World} {base : Nat} {v : Value} {g : List OB} {sl : Nat → Option Addr × Nat} (hown : w.ownsRow base 38 5 v g.length (cellsG sl 0 g)) (hbase : w0.heap.size ≤ base) (hs : ∀ i o, g[i]? = some o → SlotsAt w0 o (sl i).1) (hne : g ≠ []) :
    ∃ b cap, v = .slice (some ⟨b, 0, none⟩) g.length cap ∧ base ≤ b ∧ HAt w0 w b g := by
  obtain ⟨_, h | ⟨b, cap, cur, rfl, hb, hc, h1, h2, h3, h4⟩⟩ := hown
  · exact absurd (List.length_eq_zero_iff.1 h.2) hne
  · refine ⟨b, cap, rfl, hb, Nat.le_trans hbase hb, fun j => by simp [World.frozen?, hc], fun i o ho => ⟨(sl i).1, (sl i).2, ?_, hs i o ho⟩⟩
    have hi := (List.getElem?_eq_some_iff.1 ho).1
    have cell : ∀ j u, (cellsG sl 0 g)[j]? = some u → w.cell? ⟨b, j, none⟩ = some u := by
      intro j u hu
      rw [← h4, List.getElem?_take] at hu
      split at hu
      · simp only [World.cell?, hc]
        simpa using hu
      · cases hu
    obtain ⟨d0, d1, d2, d3, d4⟩ := cellsG_at sl 0 g i o ho
    rw [Nat.zero_add] at d2
    exact ⟨cell _ _ d0, cell _ _ d1, cell _ _ d2, cell _ _ d3, cell _ _ d4⟩
theorem wpList_append_objs {ops : Array Oper} {rest : List Oper} {o : Oper} {a : Act} {w : World} {Q : Exit → Act → World → Prop} (hgd : o.guard = none) (s x : Operand)
    (ho : o.op = .call { callee := .builtin .append, args := #[s, x], argTypes := #[22, 22] }) (hs : a.eval s = .slice none 0 0) {w0 : World} {A : Option Addr} {c n : Nat} {g : List OB} (hx : a.eval x = .slice A n c) (hn : n = g.length)
    (hg : GAt w0 A g) (hb : Below w0.heap.size w0 w) (hz : n * 64 ≤ 140737488355328) (hne : g ≠ [])
    (h : ∀ b cap w', Hid (HAt w0 w' b g) → b = w.heap.size → Hid (Below w.heap.size w w') → Hid (b < w'.heap.size) → wpList Try.prog ops Q rest (a.put o.dst (.slice (some ⟨b, 0, none⟩) n cap)) w') : wpList Try.prog ops Q (o :: rest) a w := by
  subst hn
  obtain ⟨ad, rfl⟩ : ∃ ad, A = some ad := by
    cases g with
    | nil => exact absurd rfl hne
    | cons o r => obtain ⟨a, _, _, e, _⟩ := hg 0 o rfl; exact ⟨a, e⟩
  obtain ⟨sl, k1, k2, k3⟩ := g_cells hg
  have hl : ad.block < w0.heap.size := by
    cases g with
    | nil => exact absurd rfl hne
    | cons o r => obtain ⟨a, _, _, e, hl, _⟩ := hg 0 o rfl; injection e with e; subst e; exact hl
  obtain ⟨i0, hi0, hz0, hz1, hz2⟩ := info_parts obj_info
  refine wpList_append_own_at _ hgd s x 22 ho w.heap.size 38 i0 _ 5 64 Try.underlying22 hi0 hz0 hz1 hz2 rfl (by decide) (.slice none 0 0) 0 [] hs ⟨rfl, .inl ⟨rfl, rfl⟩⟩ ad g.length c (cellsG sl 0 g) hx (cellsG_len _ _ _) (fun j u hu => (hb.cell (p := ad.add j) (by rw [Go.ChangeShapes.block_add]; exact hl)).trans (k2 j u hu)) k3 (by unfold maxLen; omega) (by omega) (Nat.le_refl _) ?_
  intro v' w' h1 h2 _ h4
  rw [Nat.zero_add, List.nil_append] at h1
  obtain ⟨b, cap, rfl, hb1, H⟩ := h_of_own h1 hb.size k1 hne
  have hbl : b < w'.heap.size := by
    cases g with
    | nil => exact absurd rfl hne
    | cons o r => obtain ⟨_, _, hc, _⟩ := H.2.2 0 o rfl; exact World.block_lt_of_cell? w' ⟨b, 0 * 5, none⟩ hc.1
  refine h b cap w' H ?_ ⟨h2.os, h2.tape, h2.output, h2.size, fun k hk => h2.block k hk (by simp [Value.ownBlock])⟩ hbl
  rcases h4 with h4 | h4
  · simp [Value.ownBlock] at h4
  · simpa [Value.ownBlock] using h4
end Go.Proofs.Ytjlobjgemhapaaa
namespace Go.Proofs.Ytjlobjgemhapaaa
set_option maxRecDepth 20000
set_option maxRecDepth 20000

/-- All counts of numbers up to q are right. -/
structure StO (g : List OB) (R : List Int) (q : Nat) (h : List OB) : Prop where
  like : Like g h
  done : ∀ (i : Nat) p, i < q → h[i]? = some p → p.kind ≠ 0 → p.count = ((allRefs g).count ((i : Int) + 1) : Int) + (R.count ((i : Int) + 1) : Int)
/-- .. and of number q + 1 the first k of what is held beside are counted. -/
structure StI (g : List OB) (R : List Int) (q k : Nat) (h : List OB) : Prop where
  outer : StO g R q h
  now : ∃ p, h[q]? = some p ∧ p.kind ≠ 0 ∧ p.count = ((allRefs g).count ((q : Int) + 1) : Int) + ((R.take k).count ((q : Int) + 1) : Int)
theorem StO.start (g : List OB) (R : List Int) : StO g R 0 g := ⟨Like.refl g, fun i _ hi => absurd hi (Nat.not_lt_zero i)⟩
theorem StO.skip {g h : List OB} {R : List Int} {q : Nat} (H : StO g R q h) {p : OB} (hp : h[q]? = some p) (hk : p.kind = 0) : StO g R (q + 1) h := by
  refine ⟨H.like, fun i p' hi hp' hk' => ?_⟩
  by_cases e : i = q
  · subst e; rw [hp] at hp'; injection hp' with hp'; subst hp'; exact absurd hk hk'
  · exact H.done i p' (by omega) hp' hk'
theorem StO.set {g h : List OB} {R : List Int} {q : Nat} (H : StO g R q h) {p : OB} (hp : h[q]? = some p) (hk : p.kind ≠ 0) (x : Int) : StO g R q (h.set q { p with count := x }) := by
  refine ⟨H.like.set hp hk x, fun i p' hi hp' hk' => ?_⟩
  rw [List.getElem?_set_ne (by omega)] at hp'
  exact H.done i p' hi hp' hk'
theorem set_now {h : List OB} {q : Nat} {p : OB} (hp : h[q]? = some p) (r : OB) : (h.set q r)[q]? = some r := List.getElem?_set_self (List.getElem?_eq_some_iff.1 hp).1
theorem StO.enter {g h : List OB} {R : List Int} {q : Nat} (H : StO g R q h) {p : OB} (hp : h[q]? = some p) (hk : p.kind ≠ 0) {x : Int} (hx : x = ((allRefs g).count ((q : Int) + 1) : Int)) : StI g R q 0 (h.set q { p with count := x }) :=
  ⟨H.set hp hk x, _, set_now hp _, hk, by simp [hx]⟩
theorem StI.no {g h : List OB} {R : List Int} {q k : Nat} (H : StI g R q k h) {y : Int} (hy : R[k]? = some y) (hne : y ≠ (q : Int) + 1) : StI g R q (k + 1) h := by
  obtain ⟨p, h1, h2, h3⟩ := H.now
  refine ⟨H.outer, p, h1, h2, ?_⟩
  rw [h3, List.take_add_one, hy, List.count_append]
  simp [hne]
theorem StI.yes {g h : List OB} {R : List Int} {q k : Nat} (H : StI g R q k h) (hy : R[k]? = some ((q : Int) + 1)) {p : OB} (hp : h[q]? = some p) : StI g R q (k + 1) (h.set q { p with count := p.count + 1 }) := by
  obtain ⟨p', h1, h2, h3⟩ := H.now
  rw [hp] at h1; injection h1 with h1; subst h1
  refine ⟨H.outer.set hp h2 _, _, set_now hp _, h2, ?_⟩
  show p.count + 1 = _
  rw [h3, List.take_add_one, hy, List.count_append]
  simp [Int.add_assoc]
theorem StI.out {g h : List OB} {R : List Int} {q k : Nat} (H : StI g R q k h) (hk : R.length ≤ k) : StO g R (q + 1) h := by
  obtain ⟨p, h1, h2, h3⟩ := H.now
  rw [List.take_of_length_le hk] at h3
  refine ⟨H.outer.like, fun i p' hi hp' hk' => ?_⟩
  by_cases e : i = q
  · subst e; rw [h1] at hp'; injection hp' with hp'; subst hp'; exact h3
  · exact H.outer.done i p' (by omega) hp' hk'
theorem StI.range {g h : List OB} {R : List Int} {q k : Nat} (H : StI g R q k h) {p : OB} (hp : h[q]? = some p) {m : Nat} (ha : (allRefs g).length ≤ m) (hr : R.length ≤ m) (hm : m ≤ 2097152) : p.kind ≠ 0 ∧ 0 ≤ p.count ∧ p.count ≤ 4194304 := by
  obtain ⟨p', h1, h2, h3⟩ := H.now
  rw [hp] at h1; injection h1 with h1; subst h1
  have a1 : (allRefs g).count ((q : Int) + 1) ≤ (allRefs g).length := List.count_le_length
  have a2 : (R.take k).count ((q : Int) + 1) ≤ (R.take k).length := List.count_le_length
  have a3 : (R.take k).length ≤ R.length := List.length_take_le' _ _
  exact ⟨h2, by omega, by omega⟩
theorem cntA_eq {g : List OB} {more : List (Int × Int)} {m : Nat} (ha : (allRefs g).length ≤ m) (hr : (refsL more).length ≤ m) (hm : m ≤ 2097152) (n : Int) : cntA g more n = ((allRefs g).count n : Int) + ((refsL more).count n : Int) := by
  unfold cntA
  rw [(cnt_small (m := m + m) (by rw [List.length_append]; omega) (by omega) n).1, List.count_append]
  simp
/-- At the end Exact is silent; and behind one more it tells that one. -/
theorem StO.exact {g h : List OB} {more : List (Int × Int)} {q : Nat} (H : StO g (refsL more) q h) (hq : h.length ≤ q) {m : Nat} (ha : (allRefs g).length ≤ m) (hr : (refsL more).length ≤ m) (hm : m ≤ 2097152) :
    exactL h more = [] := exact_nil H.like fun i p hp hk => by
  rw [cntA_eq ha hr hm]
  exact H.done i p (Nat.lt_of_lt_of_le (List.getElem?_eq_some_iff.1 hp).1 hq) hp hk
theorem StO.range {g h : List OB} {R : List Int} {q : Nat} (H : StO g R q h) (hq : h.length ≤ q) {i : Nat} {p : OB} (hp : h[i]? = some p) (hk : p.kind ≠ 0) {m : Nat} (ha : (allRefs g).length ≤ m) (hr : R.length ≤ m) (hm : m ≤ 2097152) : 0 ≤ p.count ∧ p.count ≤ 4194304 := by
  have := H.done i p (Nat.lt_of_lt_of_le (List.getElem?_eq_some_iff.1 hp).1 hq) hp hk
  have a1 : (allRefs g).count ((i : Int) + 1) ≤ (allRefs g).length := List.count_le_length
  have a2 : R.count ((i : Int) + 1) ≤ R.length := List.count_le_length
  omega
theorem StO.one {g h : List OB} {more : List (Int × Int)} {q : Nat} (hg : checkB g = true) (H : StO g (refsL more) q h) (hq : h.length ≤ q) {m : Nat} (ha : (allRefs g).length ≤ m) (hr : (refsL more).length ≤ m) (hm : m ≤ 2097152)
    {i : Nat} {p : OB} (hp : h[i]? = some p) (hk : p.kind ≠ 0) : exactL (h.set i { p with count := p.count + 1 }) more = [(i : Int) + 1] := by
  have hl := H.like.set hp hk (p.count + 1)
  have hpc := H.done i p (Nat.lt_of_lt_of_le (List.getElem?_eq_some_iff.1 hp).1 hq) hp hk
  have hpr := H.range hq hp hk ha hr hm
  refine exact_one hl (hl.check hg fun j r hj hkr => ?_) (set_now hp _) hk ?_ fun j r hne hj hkr => ?_
  · by_cases e : j = i
    · subst e; rw [set_now hp] at hj; injection hj with hj; subst hj; show 0 ≤ p.count + 1; omega
    · rw [List.getElem?_set_ne (Ne.symm e)] at hj
      exact (H.range hq hj hkr ha hr hm).1
  · show p.count + 1 ≠ _
    rw [cntA_eq ha hr hm]; omega
  · rw [List.getElem?_set_ne (Ne.symm hne)] at hj
    rw [cntA_eq ha hr hm]
    exact H.done j r (Nat.lt_of_lt_of_le (List.getElem?_eq_some_iff.1 hj).1 hq) hj hkr
end Go.Proofs.Ytjlobjgemhapaaa
namespace Go.Proofs.Ytjlobjgemhapaaa
set_option maxRecDepth 20000
set_option maxRecDepth 20000

theorem sum_parts {α : Type} (p : α → Bool) (f : α → Nat) : ∀ l : List α, (l.map f).sum = ((l.filter p).map f).sum + ((l.filter fun x => !p x).map f).sum
  | [] => rfl
  | x :: l => by
    have ih := sum_parts p f l
    cases hp : p x <;> simp [hp] <;> omega
theorem sum_pos {α : Type} {f : α → Nat} : ∀ {l : List α}, 0 < (l.map f).sum ↔ ∃ x ∈ l, 0 < f x
  | [] => by simp
  | x :: l => by
    have ih := sum_pos (f := f) (l := l)
    simp only [List.map_cons, List.sum_cons, List.mem_cons]
    constructor
    · intro h
      by_cases hx : 0 < f x
      · exact ⟨x, .inl rfl, hx⟩
      · obtain ⟨y, hy, hy2⟩ := ih.1 (by omega)
        exact ⟨y, .inr hy, hy2⟩
    · rintro ⟨y, rfl | hy, hy2⟩
      · omega
      · have := ih.2 ⟨y, hy, hy2⟩
        omega
/-- What the object of the place i holds. -/
def refsAt (g : List OB) (i : Nat) : List Int := match g[i]? with
  | some o => refsL o.slots
  | none => []
theorem refsAt_cons (o : OB) (r : List OB) (i : Nat) : refsAt (o :: r) (i + 1) = refsAt r i := by simp [refsAt]
theorem allRefs_range : ∀ g : List OB, allRefs g = (List.range g.length).flatMap (refsAt g)
  | [] => rfl
  | o :: r => by
    rw [List.length_cons, List.range_succ_eq_map, List.flatMap_cons, List.flatMap_map]
    simp only [refsAt_cons]
    rw [← allRefs_range r]
    rfl
theorem perm_of_nodup {a b : List Nat} (ha : a.Nodup) (hb : b.Nodup) (h : ∀ x, x ∈ a ↔ x ∈ b) : a.Perm b := by
  rw [List.perm_iff_count]
  intro x
  rw [ha.count, hb.count]
  simp [h x]
/-- How often the numbers of S hold n, of those that are there: of all that hold it those that are of S. -/
theorem seen_sum {g : List OB} {S : List Int} (hd : S.Nodup) (hS : ∀ m ∈ S, 1 ≤ m ∧ m ≤ g.length) (f : Nat → Nat) :
    (S.map fun m => f (m - 1).toNat).sum = (((List.range g.length).filter fun (i : Nat) => decide ((i : Int) + 1 ∈ S)).map f).sum := by
  rw [show (S.map fun m => f (m - 1).toNat) = (S.map fun m => (m - 1).toNat).map f by rw [List.map_map]; rfl]
  refine ((perm_of_nodup ?_ ?_ ?_).map f).sum_nat
  · rw [List.Nodup, List.pairwise_map]
    refine List.Pairwise.imp_of_mem ?_ hd
    intro x y hx hy hne
    have := hS x hx
    have := hS y hy
    omega
  · exact List.Nodup.sublist List.filter_sublist List.nodup_range
  · intro x
    simp only [List.mem_map, List.mem_filter, List.mem_range, decide_eq_true_iff]
    constructor
    · rintro ⟨m, hm, rfl⟩
      have := hS m hm
      exact ⟨by omega, by rw [show (((m - 1).toNat : Nat) : Int) + 1 = m by omega]; exact hm⟩
    · rintro ⟨hx, hm⟩
      exact ⟨_, hm, by omega⟩
theorem allRefs_count (g : List OB) (n : Int) : (allRefs g).count n = ((List.range g.length).map fun i => (refsAt g i).count n).sum := by
  rw [allRefs_range, List.count_flatMap]; rfl
theorem heldG_count {g : List OB} (hg : checkB g = true) {m n : Int} (hm : looksB g m = true) (hn : looksB g n = true) : (heldG g m).count n = (refsAt g (m - 1).toNat).count n := by
  obtain ⟨k, o, rfl, ho, _⟩ := looks_iff.1 hm
  rw [heldG_at ho, heldS_refs hg (List.mem_of_getElem? ho), List.count_filter hn]
  unfold refsAt
  rw [show ((k : Int) + 1 - 1).toNat = k by omega, ho]
theorem seen_count {g : List OB} (hg : checkB g = true) {S : List Int} (hS : ∀ m ∈ S, looksB g m = true) {n : Int} (hn : looksB g n = true) :
    (S.flatMap (heldG g)).count n = (S.map fun m => (refsAt g (m - 1).toNat).count n).sum := by
  rw [List.count_flatMap]
  congr 1
  refine List.map_congr_left fun m hm => ?_
  exact heldG_count hg (hS m hm) hn
/-- Held from outside: beside, or by one that was not seen. -/
theorem out_iff {g : List OB} (hg : checkB g = true) {R : List Int} (hc : ∀ (i : Nat) p, g[i]? = some p → p.kind ≠ 0 → p.count = ((allRefs g).count ((i : Int) + 1) : Int) + (R.count ((i : Int) + 1) : Int)) {S : List Int} (hd : S.Nodup) (hS : ∀ m ∈ S, looksB g m = true)
    (hT : (S.flatMap (heldG g)).length ≤ 4194304) {n : Int} (hn : looksB g n = true) :
    countG g n > cntF (S.flatMap (heldG g)) n ↔ n ∈ R ∨ ∃ i : Nat, i < g.length ∧ (i : Int) + 1 ∉ S ∧ n ∈ refsAt g i := by
  obtain ⟨k, o, hk, ho, h5⟩ := looks_iff.1 hn
  have e1 : countG g n = ((allRefs g).count n : Int) + (R.count n : Int) := by
    rw [hk, ← hc k o ho (by omega)]
    unfold countG
    rw [show ((k : Int) + 1 - 1).toNat = k by omega, ho]
  have e2 : cntF (S.flatMap (heldG g)) n = ((S.flatMap (heldG g)).count n : Int) := (cnt_small hT (by omega) n).1
  have e3 := seen_count hg hS hn
  have e4 := seen_sum hd (fun m hm => looks_range (hS m hm)) fun i => (refsAt g i).count n
  have e5 := allRefs_count g n
  have e6 := sum_parts (fun i : Nat => decide ((i : Int) + 1 ∈ S)) (fun i => (refsAt g i).count n) (List.range g.length)
  have e7 := sum_pos (f := fun i => (refsAt g i).count n) (l := (List.range g.length).filter fun (i : Nat) => !decide ((i : Int) + 1 ∈ S))
  have e8 : 0 < R.count n ↔ n ∈ R := List.count_pos_iff
  rw [e1, e2]
  constructor
  · intro h
    by_cases hr : 0 < R.count n
    · exact .inl (e8.1 hr)
    · obtain ⟨i, hi, hp⟩ := e7.1 (by omega)
      obtain ⟨h1, h2⟩ := List.mem_filter.1 hi
      exact .inr ⟨i, List.mem_range.1 h1, by simpa using h2, List.count_pos_iff.1 hp⟩
  · rintro (h | ⟨i, h1, h2, h3⟩)
    · have := e8.2 h
      omega
    · have := e7.2 ⟨i, List.mem_filter.2 ⟨List.mem_range.2 h1, by simpa using h2⟩, List.count_pos_iff.2 h3⟩
      omega
theorem held_refs {g : List OB} {k x : Nat} : x ∈ heldN g (k + 1) ↔ ∃ y ∈ refsAt g k, y.toNat = x := by
  rw [held_succ]
  unfold refsAt
  cases g[k]? with
  | none => simp
  | some o => simp
theorem heldG_mem {g : List OB} (hg : checkB g = true) {m x : Int} (hm : looksB g m = true) (hx : looksB g x = true) : x ∈ heldG g m ↔ x.toNat ∈ heldN g m.toNat := by
  have hc := heldG_count hg hm hx
  have hr := looks_range hm
  have hr2 := looks_range hx
  rw [← List.count_pos_iff, hc, List.count_pos_iff, show m.toNat = (m - 1).toNat + 1 by omega, held_refs]
  constructor
  · exact fun h => ⟨x, h, rfl⟩
  · rintro ⟨y, hy, e⟩
    rwa [show x = y by omega]
theorem looks_there {g : List OB} {x : Int} (h : looksB g x = true) : thereN g x.toNat = true := by
  obtain ⟨k, o, rfl, ho, h5⟩ := looks_iff.1 h
  rw [show ((k : Int) + 1).toNat = k + 1 by omega]
  simp only [thereN, ho]
  simpa using (show o.kind ≠ 0 by omega)
/-- Black is what can be reached from what is held beside, and from what was not seen. -/
theorem black_iff {g : List OB} (hg : checkB g = true) {R : List Int} (hc : ∀ (i : Nat) p, g[i]? = some p → p.kind ≠ 0 → p.count = ((allRefs g).count ((i : Int) + 1) : Int) + (R.count ((i : Int) + 1) : Int)) {S : List Int} (hd : S.Nodup) (hS : ∀ m ∈ S, looksB g m = true)
    (hT : (S.flatMap (heldG g)).length ≤ 4194304) {T : List Nat} (hroots : ∀ m : Nat, m ∈ T ↔ thereN g m = true ∧ ((m : Int) ∉ S ∨ (m : Int) ∈ R)) {n : Int} (hn : n ∈ S) :
    Fol g (looksB g) (outL g S) n ↔ Rch g T n.toNat := by
  have cast : ∀ {x : Int}, looksB g x = true → ((x.toNat : Nat) : Int) = x := fun h => by have := looks_range h; omega
  have out : ∀ {x : Int}, x ∈ S → (x ∈ outL g S ↔ x ∈ R ∨ ∃ i : Nat, i < g.length ∧ (i : Int) + 1 ∉ S ∧ x ∈ refsAt g i) := fun {x} hx => by
    rw [← out_iff hg hc hd hS hT (hS x hx)]
    unfold outL
    rw [List.mem_filter, decide_eq_true_iff]
    exact ⟨fun h => h.2, fun h => ⟨hx, h⟩⟩
  constructor
  · intro h
    clear hn
    induction h with
    | root h1 h2 =>
      have hx := (List.mem_filter.1 h1).1
      rcases (out hx).1 h1 with h | ⟨i, hi, hni, hr⟩
      · exact .root ((hroots _).2 ⟨looks_there h2, .inr (by rw [cast h2]; exact h)⟩)
      · have hh := held_refs.2 ⟨_, hr, rfl⟩
        exact .step (.root ((hroots (i + 1)).2 ⟨held_from hg hh, .inl hni⟩)) hh
    | step h1 h2 h3 ih => exact .step ih ((heldG_mem hg h1.whom h3).1 h2)
  · have key : ∀ m : Nat, Rch g T m → (m : Int) ∈ S → Fol g (looksB g) (outL g S) (m : Int) := by
      intro m h
      induction h with
      | root h =>
        intro hm
        rcases ((hroots _).1 h).2 with h1 | h1
        · exact absurd hm h1
        · exact .root ((out hm).2 (.inl h1)) (hS _ hm)
      | @step m x h1 h2 ih =>
        intro hx
        have hlx := hS _ hx
        have hth := there_le (held_from hg h2)
        obtain ⟨k, rfl⟩ : ∃ k, m = k + 1 := ⟨m - 1, by omega⟩
        by_cases hm : ((k + 1 : Nat) : Int) ∈ S
        · exact .step (ih hm) ((heldG_mem hg (hS _ hm) hlx).2 (by simpa using h2)) hlx
        · obtain ⟨y, hy, e⟩ := held_refs.1 h2
          have hr := looks_range hlx
          exact .root ((out hx).2 (.inr ⟨k, by omega, hm, by rwa [show (x : Int) = y by omega]⟩)) hlx
    intro h
    have := key _ h (by rw [cast (hS n hn)]; exact hn)
    rwa [cast (hS n hn)] at this
end Go.Proofs.Ytjlobjgemhapaaa
