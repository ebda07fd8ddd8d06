/- tallowlaw11.own: a graph cut to forty objects of forty slots. -/
import Derived.Test.YtiocfnpfmilkgaaRcOpen
import Derived.Test.YtiocfnpfmilkgaaWords
import Derived.Test.YtiocfnpfmilkgaaGrObjs
namespace Go.Proofs.Ytiocfnpfmilkgaa
set_option maxRecDepth 20000
open Go.RowKit Go.Maps

def cutO (o : OB) : OB := { o with slots := o.slots.take 40 }
def cutG (g : List OB) (k : Nat) : List OB := (g.take k).map cutO
def ownG (g : List OB) : List OB := cutG g (min g.length 40)
theorem cut_snoc {g : List OB} {k : Nat} {o : OB} (h : g[k]? = some o) : cutG g (k + 1) = cutG g k ++ [cutO o] := by unfold cutG; rw [List.take_add_one, h]; simp
theorem cut_len (g : List OB) {k : Nat} (hk : k ≤ g.length) : (cutG g k).length = k := by unfold cutG; rw [List.length_map, List.length_take]; omega
theorem ownG_len (g : List OB) : (ownG g).length = min g.length 40 := cut_len g (Nat.min_le_left _ _)
theorem own_slots {g : List OB} {o : OB} (h : o ∈ ownG g) : o.slots.length ≤ 40 := by
  unfold ownG cutG at h
  obtain ⟨x, _, rfl⟩ := List.mem_map.1 h
  exact List.length_take_le _ _
theorem cellsG_congr {sl sl' : Nat → Option Addr × Nat} : ∀ {k : Nat} {g : List OB}, (∀ i, k ≤ i → i < k + g.length → sl i = sl' i) → cellsG sl k g = cellsG sl' k g
  | _, [], _ => rfl
  | k, o :: r, h => by
    simp only [cellsG]
    rw [h k (Nat.le_refl _) (by simp), cellsG_congr (k := k + 1) (g := r) fun i h1 h2 => h i (by omega) (by simp only [List.length_cons]; omega)]
theorem cellsG_snoc {sl : Nat → Option Addr × Nat} : ∀ {k : Nat} {g : List OB} {o : OB}, cellsG sl k (g ++ [o]) = cellsG sl k g ++ [iV o.kind, iV o.count, .slice (sl (k + g.length)).1 o.slots.length (sl (k + g.length)).2, .string o.text, iV o.mark]
  | _, [], _ => rfl
  | k, x :: r, o => by
    simp only [List.cons_append, cellsG, cellsG_snoc (k := k + 1) (g := r), List.length_cons]
    rw [show k + 1 + r.length = k + (r.length + 1) by omega]
theorem val_info : (Try.prog.info? 24).map (fun i => (i.zero, i.size, i.bytes)) = some (some (.agg #[.int .i64 0, .int .i64 0]), 2, 16) := by kernel_rfl
theorem obj_info : (Try.prog.info? 52).map (fun i => (i.zero, i.size, i.bytes)) = some (some (.agg #[.int .i64 0, .int .i64 0, .slice none 0 0, .string ⟨#[]⟩, .int .i64 0]), 5, 64) := by kernel_rfl
theorem pairs_len : ∀ l : List (Int × Int), (pairCells l).length = l.length * 2
  | [] => rfl
  | p :: r => by
    show (_ :: _ :: pairCells r).length = _
    simp only [List.length_cons, pairs_len r]; omega
theorem pairs_reads {w : World} {A : Option Addr} {l : List (Int × Int)} (h : PairsAt w A l) : Reads w w.heap.size 2 A l.length (pairCells l) := by
  refine ⟨pairs_len l, fun h0 => ?_⟩
  obtain ⟨p0, hp0⟩ : ∃ p, l[0]? = some p := ⟨_, List.getElem?_eq_getElem h0⟩
  obtain ⟨ad, rfl, hl, _, _⟩ := h 0 p0 hp0
  refine ⟨ad, rfl, hl, fun j u hu => ?_⟩
  have hj := (List.getElem?_eq_some_iff.1 hu).1
  rw [pairs_len] at hj
  obtain ⟨p, hp⟩ : ∃ p, l[j / 2]? = some p := ⟨_, List.getElem?_eq_getElem (by omega)⟩
  obtain ⟨ad', e, _, k0, k1⟩ := h (j / 2) p hp
  injection e with e
  subst e
  obtain ⟨d0, d1⟩ := pairCells_at l (j / 2) p hp
  rcases Nat.mod_two_eq_zero_or_one j with hm | hm
  · have e : j = j / 2 * 2 := by omega
    rw [e] at hu ⊢
    rw [d0] at hu
    injection hu with hu
    rw [← hu]
    exact k0
  · have e : j = j / 2 * 2 + 1 := by omega
    rw [e] at hu ⊢
    rw [d1] at hu
    injection hu with hu
    rw [← hu, ← Addr.add_add]
    exact k1
theorem pairs_one : ∀ (l : List (Int × Int)), ∀ u ∈ pairCells l, u.oneCell' = true := fun l u hu => by
  unfold pairCells at hu
  obtain ⟨p, _, h⟩ := List.mem_flatMap.1 hu
  simp at h
  rcases h with rfl | rfl <;> rfl
/-- While the objects up to k were cut. -/
structure OwnJ (w : World) (b3 : Nat) (g : List OB) (k : Nat) (v : Value) (sl : Nat → Option Addr × Nat) : Prop where
  cell : w.cell? ⟨b3, 0, none⟩ = some v
  fz : w.frozen? ⟨b3, 0, none⟩ = false
  row : w.ownsRow (b3 + 1) 52 5 v k (cellsG sl 0 (cutG g k))
  slots : ∀ i o, (cutG g k)[i]? = some o → SlotsAt w o (sl i).1 ∧ ∀ a, (sl i).1 = some a → b3 < a.block ∧ a.block < w.heap.size ∧ v.ownBlock ≠ some a.block
theorem slots_keep {w w' : World} {o : OB} {A : Option Addr} (h : SlotsAt w o A) (hk : ∀ a, A = some a → w'.heap[a.block]? = w.heap[a.block]?) (hs : w.heap.size ≤ w'.heap.size) : SlotsAt w' o A := by
  refine ⟨fun i p hp => ?_, h.2⟩
  obtain ⟨ad, e, hl, h0, h1⟩ := h.1 i p hp
  have hb := hk ad e
  exact ⟨ad, e, Nat.lt_of_lt_of_le hl hs, (World.cell?_of_block (by rw [Go.ChangeShapes.block_add]; exact hb)).trans h0, (World.cell?_of_block (by rw [Go.ChangeShapes.block_add, Go.ChangeShapes.block_add]; exact hb)).trans h1⟩
/-- A graph whose blocks lie from lo on. -/
def GAtLo (lo : Nat) (w : World) (A : Option Addr) (g : List OB) : Prop :=
  ∀ i o, g[i]? = some o → ∃ a sA sc, A = some a ∧ a.block < w.heap.size ∧ CellsAt w (a.add (i * 5)) o sA sc ∧ SlotsAt w o sA ∧ lo ≤ a.block ∧ ∀ b, sA = some b → lo ≤ b.block
theorem GAtLo.at {lo : Nat} {w : World} {A : Option Addr} {g : List OB} (h : GAtLo lo w A g) : GAt w A g := fun i o ho => by
  obtain ⟨a, sA, sc, h1, h2, h3, h4, _⟩ := h i o ho
  exact ⟨a, sA, sc, h1, h2, h3, h4⟩
theorem GAtLo.mono {lo lo' : Nat} {w : World} {A : Option Addr} {g : List OB} (h : GAtLo lo w A g) (hl : lo' ≤ lo) : GAtLo lo' w A g := fun i o ho => by
  obtain ⟨a, sA, sc, h1, h2, h3, h4, h5, h6⟩ := h i o ho
  exact ⟨a, sA, sc, h1, h2, h3, h4, Nat.le_trans hl h5, fun b hb => Nat.le_trans hl (h6 b hb)⟩
theorem GAtLo.set {lo : Nat} {w : World} {A : Option Addr} {g : List OB} (h : GAtLo lo w A g) {p : Addr} (hp : p.block < lo) (x : Value) : GAtLo lo (w.setCell p x) A g := fun i o ho => by
  obtain ⟨a, sA, sc, h1, h2, ⟨c0, c1, c2, c3, c4⟩, h4, h5, h6⟩ := h i o ho
  have hk : ∀ j, lo ≤ j → (w.setCell p x).heap[j]? = w.heap[j]? := fun j hj => Below.heap_setCell _ _ _ _ (by omega)
  have hc : ∀ q : Addr, q.block = a.block → (w.setCell p x).cell? q = w.cell? q := fun q hq => World.cell?_of_block (by rw [hq]; exact hk _ h5)
  have hb : (a.add (i * 5)).block = a.block := Go.ChangeShapes.block_add _ _
  exact ⟨a, sA, sc, h1, by simpa using h2, ⟨(hc _ hb).trans c0, (hc ⟨(a.add (i * 5)).block, (a.add (i * 5)).off + 1, none⟩ hb).trans c1, (hc ⟨(a.add (i * 5)).block, (a.add (i * 5)).off + 2, none⟩ hb).trans c2, (hc ⟨(a.add (i * 5)).block, (a.add (i * 5)).off + 3, none⟩ hb).trans c3, (hc ⟨(a.add (i * 5)).block, (a.add (i * 5)).off + 4, none⟩ hb).trans c4⟩, slots_keep h4 (fun b e => hk _ (h6 b e)) (by simp), h5, h6⟩
theorem pairs_of_own {w : World} {base : Nat} {v : Value} {l : List (Int × Int)} (h : w.ownsRow base 24 2 v l.length (pairCells l)) : ∃ A c, v = .slice A l.length c ∧ PairsAt w A l ∧ ∀ a, A = some a → base ≤ a.block ∧ a.block < w.heap.size := by
  have h0 := h
  rcases h.2 with ⟨rfl, h1⟩ | ⟨g, cap, cur, rfl, hb, hg, _⟩
  · have : l = [] := List.length_eq_zero_iff.1 h1
    subst this
    exact ⟨none, 0, rfl, fun i x hx => by simp at hx, fun a h => by cases h⟩
  · have hl := (Array.getElem?_eq_some_iff.1 hg).1
    refine ⟨some ⟨g, 0, none⟩, cap, rfl, fun i p hp => ?_, fun a ha => by injection ha with ha; subst ha; exact ⟨hb, hl⟩⟩
    obtain ⟨d0, d1⟩ := pairCells_at l i p hp
    refine ⟨_, rfl, hl, h0.cells rfl _ _ d0, ?_⟩
    rw [Addr.add_add]
    exact h0.cells rfl _ _ d1
theorem own_step {wr w2 w5 : World} {b3 k m vc : Nat} {g : List OB} {o : OB} {v v'' : Value} {vA : Option Addr} {sl : Nat → Option Addr × Nat} {O1 O2 O4 : Obj} {x : Value} (OJ : OwnJ wr b3 g k v sl) (hk : k ≤ g.length) (ho : g[k]? = some o) (hm : m = (o.slots.take 40).length)
    (h2 : w2.ownsRow (wr.heap.size + 1) 24 2 (.slice vA m vc) m (pairCells (o.slots.take 40))) (g2 : ((wr.alloc O1).alloc O2).grownBy w2 (some (wr.heap.size + 1)))
    (h5 : w5.ownsRow (b3 + 1) 52 5 v'' (k + 1) (cellsG sl 0 (cutG g k) ++ [iV o.kind, iV o.count, .slice vA m vc, .string o.text, iV o.mark])) (g5 : ((w2.setCell ⟨wr.heap.size, 2, none⟩ x).alloc O4).grownBy w5 v.ownBlock)
    (at5 : v''.ownBlock = v.ownBlock ∨ v''.ownBlock = some ((w2.setCell ⟨wr.heap.size, 2, none⟩ x).alloc O4).heap.size) (f5 : w5.frozen? ⟨b3, 0, none⟩ = false) (c5 : w5.cell? ⟨b3, 0, none⟩ = some v) :
    OwnJ (w5.setCell ⟨b3, 0, none⟩ v'') b3 g (k + 1) v'' (fun i => if i = k then (vA, vc) else sl i) ∧ Frm (fun x => b3 ≤ x) wr (w5.setCell ⟨b3, 0, none⟩ v'') := by
  have l3 := World.block_lt_of_cell? wr _ OJ.cell
  simp only at l3
  have sz2 : wr.heap.size + 1 + 1 ≤ w2.heap.size := by have := g2.size; simpa using this
  have sz5 : w2.heap.size + 1 ≤ w5.heap.size := by have := g5.size; simpa using this
  have hv := OJ.row.lt
  -- what was there and is not the row's, nor the variable's
  have keep2 : ∀ j, j < wr.heap.size → w2.heap[j]? = wr.heap[j]? := fun j hj =>
    (g2.block j (by simp; omega) (by intro e; injection e with e; omega)).trans ((Below.heap_alloc _ _ _ (by simp; omega)).trans (Below.heap_alloc _ _ _ hj))
  have keep5 : ∀ j, j < w2.heap.size → j ≠ wr.heap.size → some j ≠ v.ownBlock → j ≠ b3 → (w5.setCell ⟨b3, 0, none⟩ v'').heap[j]? = w2.heap[j]? := fun j hj h1 h3 h4 =>
    (Below.heap_setCell _ _ _ _ h4).trans ((g5.block j (by simp; omega) h3).trans ((Below.heap_alloc _ _ _ (by simpa using hj)).trans (Below.heap_setCell _ _ _ _ h1)))
  obtain ⟨vA', vc', e, hp, hA⟩ := pairs_of_own (by rw [← hm]; exact h2)
  rw [← hm] at e
  injection e with e1 _ e3
  subst e1; subst e3
  have hnv : ∀ y, wr.heap.size ≤ y → some y ≠ v.ownBlock := fun y hy e => by have := (hv y e.symm).2; omega
  have hnew5 : ∀ y, v''.ownBlock = some y → y < w5.heap.size ∧ b3 + 1 ≤ y := fun y hy => ⟨(h5.lt y hy).2, (h5.lt y hy).1⟩
  refine ⟨⟨World.cell?_setCell_same _ _ _ c5, by rw [World.frozen?_setCell]; exact f5, ?_, ?_⟩, ?_⟩
  · rw [cut_snoc ho, cellsG_snoc, cellsG_congr (sl' := sl) (fun i _ hi => if_neg (by rw [cut_len g hk] at hi; omega)), cut_len g hk, Nat.zero_add]
    simp only [if_true]
    have h5' : w5.ownsRow (b3 + 1) 52 5 v'' (k + 1) (cellsG sl 0 (cutG g k) ++ [iV (cutO o).kind, iV (cutO o).count, .slice vA (cutO o).slots.length vc, .string (cutO o).text, iV (cutO o).mark]) := by
      show w5.ownsRow (b3 + 1) _ 5 v'' (k + 1) (cellsG sl 0 (cutG g k) ++ [iV o.kind, iV o.count, .slice vA (o.slots.take 40).length vc, .string o.text, iV o.mark])
      rw [← hm]; exact h5
    refine h5'.kept (w' := w5.setCell ⟨b3, 0, none⟩ v'') (row := some b3) ⟨rfl, rfl, rfl, by simp [World.setCell], fun i _ hne => Below.heap_setCell _ _ _ _ (by rintro rfl; exact hne rfl)⟩ (Or.inr fun e => ?_)
    have := (hnew5 b3 e).2
    omega
  · intro i p hp2
    rw [cut_snoc ho] at hp2
    by_cases hi : i = k
    · subst hi
      rw [List.getElem?_append_right (by rw [cut_len g hk]; exact Nat.le_refl _), cut_len g hk, Nat.sub_self] at hp2
      injection hp2 with hp2
      subst hp2
      simp only [if_true]
      have hs2 : SlotsAt w2 (cutO o) vA := ⟨hp, by show (o.slots.take 40).length * 16 ≤ _; have := List.length_take_le 40 o.slots; omega⟩
      refine ⟨slots_keep hs2 (fun a ha => keep5 _ (hA a ha).2 (by have := (hA a ha).1; omega) (hnv _ (by have := (hA a ha).1; omega)) (by have := (hA a ha).1; omega)) (by simp; omega), fun a ha => ⟨by have := (hA a ha).1; omega, by have := (hA a ha).2; simp; omega, fun e => ?_⟩⟩
      rcases at5 with h | h
      · rw [h] at e; exact hnv _ (by have := (hA a ha).1; omega) e.symm
      · rw [h] at e; injection e with e; simp at e; have := (hA a ha).2; omega
    · have hik : i < k := by
        have := (List.getElem?_eq_some_iff.1 hp2).1
        simp [cut_len g hk] at this
        omega
      rw [List.getElem?_append_left (by rw [cut_len g hk]; exact hik)] at hp2
      obtain ⟨hs, hsa⟩ := OJ.slots i p hp2
      simp only [if_neg hi]
      refine ⟨slots_keep hs (fun a ha => ?_) (by simp; omega), fun a ha => ?_⟩
      · obtain ⟨q1, q2, q3⟩ := hsa a ha
        exact (keep5 _ (by omega) (by omega) (fun e => q3 e.symm) (by omega)).trans (keep2 _ q2)
      · obtain ⟨q1, q2, q3⟩ := hsa a ha
        refine ⟨q1, by simp; omega, fun e => ?_⟩
        rcases at5 with h | h
        · rw [h] at e; exact q3 e
        · rw [h] at e; injection e with e; simp at e; omega
  · refine ⟨g5.os.trans g2.os, g5.tape.trans g2.tape, g5.output.trans g2.output, by simp; omega, fun j hj hn => ?_⟩
    refine (keep5 j (by omega) (by omega) (fun e => ?_) (by omega)).trans (keep2 j hj)
    have := (hv j e.symm).1
    omega
theorem obj_cells {w w2 : World} {x0 x1 x2 x3 x4 : Value} {o : Obj} {T : TypeId} (g2 : ((w.alloc (.cells #[x0, x1, x2, x3, x4] T (0, 0))).alloc o).grownBy w2 (some (w.heap.size + 1))) :
    w2.cell? ⟨w.heap.size, 0, none⟩ = some x0 ∧ w2.cell? ⟨w.heap.size, 1, none⟩ = some x1 ∧ w2.cell? ⟨w.heap.size, 2, none⟩ = some x2 ∧ w2.cell? ⟨w.heap.size, 3, none⟩ = some x3 ∧ w2.cell? ⟨w.heap.size, 4, none⟩ = some x4 ∧ w2.frozen? ⟨w.heap.size, 2, none⟩ = false := by
  have h : w2.heap[w.heap.size]? = some (.cells #[x0, x1, x2, x3, x4] T (0, 0)) :=
    (g2.block _ (by simp; omega) (by intro e; injection e with e; omega)).trans ((Below.heap_alloc _ _ _ (by simp)).trans (Go.MapKept.heap_alloc w _).1)
  refine ⟨?_, ?_, ?_, ?_, ?_, ?_⟩ <;> simp [World.cell?, World.frozen?, h]
theorem lit_cells {w : World} {l : List Value} {T : TypeId} : ∀ j u, l[j]? = some u → (w.alloc (.cells l.toArray T (0, 0))).cell? ((⟨w.heap.size, 0, none⟩ : Addr).add j) = some u := fun j u hu => by
  rw [add_zero_at]
  simp only [World.cell?, (Go.MapKept.heap_alloc w _).1, Nat.zero_add]
  simpa using hu
theorem pairs_take {w : World} {A : Option Addr} {l : List (Int × Int)} (h : PairsAt w A l) (n : Nat) : PairsAt w A (l.take n) := fun i p hp => by
  have hi : i < (l.take n).length := (List.getElem?_eq_some_iff.1 hp).1
  rw [List.length_take] at hi
  rw [List.getElem?_take_of_lt (by omega)] at hp
  exact h i p hp
theorem reads_below {w w' : World} {A : Option Addr} {l : List (Int × Int)} (h : PairsAt w A l) (hb : Below w.heap.size w w') : Reads w' w'.heap.size 2 A l.length (pairCells l) := pairs_reads (pairs_below h hb)
theorem empty_own (w : World) : (w.alloc (.cells #[] 24 (0, 0))).ownsRow w.heap.size 24 2 (.slice (some ⟨w.heap.size, 0, none⟩) 0 0) 0 [] :=
  ⟨rfl, .inr ⟨w.heap.size, 0, #[], rfl, Nat.le_refl _, (Go.MapKept.heap_alloc w _).1, Nat.le_refl _, Nat.zero_le _, rfl, rfl⟩⟩
theorem slice_own {w : World} {base n size : Nat} {e : TypeId} {v : Value} {xs : List Value} (h : w.ownsRow base e size v n xs) : ∃ A c, v = .slice A n c := by
  rcases h.2 with ⟨rfl, h1⟩ | ⟨g, cap, cur, rfl, _, hg, _⟩
  · subst h1; exact ⟨none, 0, rfl⟩
  · exact ⟨_, _, rfl⟩
theorem row_at {w w2 : World} {b3 k : Nat} {v : Value} {xs : List Value} {O1 O2 O4 : Obj} {x : Value} (h : w.ownsRow (b3 + 1) 52 5 v k xs) (g2 : ((w.alloc O1).alloc O2).grownBy w2 (some (w.heap.size + 1))) (_ : b3 < w.heap.size) :
    ((w2.setCell ⟨w.heap.size, 2, none⟩ x).alloc O4).ownsRow (b3 + 1) 52 5 v k xs := by
  have h1 := (h.alloc O1).alloc O2
  have hv := h.lt
  have h2 := h1.kept g2 (Or.inr fun e => by have := (hv _ e).2; omega)
  have h3 := h2.kept (w' := w2.setCell ⟨w.heap.size, 2, none⟩ x) (row := some w.heap.size) ⟨rfl, rfl, rfl, by simp [World.setCell], fun i _ hne => Below.heap_setCell _ _ _ _ (by rintro rfl; exact hne rfl)⟩ (Or.inr fun e => by have := (hv _ e).2; omega)
  exact h3.alloc O4
theorem lit_after {w : World} {a : Addr} {x : Value} {l : List Value} {T : TypeId} : ∀ j u, l[j]? = some u → ((w.setCell a x).alloc (.cells l.toArray T (0, 0))).cell? ((⟨w.heap.size, 0, none⟩ : Addr).add j) = some u := fun j u hu => by
  have := lit_cells (w := w.setCell a x) (T := T) j u hu
  simpa using this
theorem var_at {w w2 w5 : World} {b3 k : Nat} {v y : Value} {xs : List Value} {O1 O2 O4 : Obj} {x : Value} (g2 : ((w.alloc O1).alloc O2).grownBy w2 (some (w.heap.size + 1))) (g5 : ((w2.setCell ⟨w.heap.size, 2, none⟩ x).alloc O4).grownBy w5 v.ownBlock) (h : w.ownsRow (b3 + 1) 52 5 v k xs) (l3 : b3 < w.heap.size) (y3 : w2.cell? ⟨b3, 0, none⟩ = some y) (f3 : w.frozen? ⟨b3, 0, none⟩ = false) :
    w5.cell? ⟨b3, 0, none⟩ = some y ∧ w5.frozen? ⟨b3, 0, none⟩ = false := by
  have s2 : w.heap.size + 1 + 1 ≤ w2.heap.size := by have := g2.size; simpa using this
  have k2 : w2.heap[b3]? = w.heap[b3]? := (g2.block b3 (by simp; omega) (by intro e; injection e with e; omega)).trans ((Below.heap_alloc _ _ _ (by simp; omega)).trans (Below.heap_alloc _ _ _ l3))
  have k5 : w5.heap[b3]? = w2.heap[b3]? := (g5.block b3 (by simp; omega) (fun e => by have := (h.lt b3 e.symm).1; omega)).trans ((Below.heap_alloc _ _ _ (by simp; omega)).trans (Below.heap_setCell _ _ _ _ (show b3 ≠ w.heap.size by omega)))
  exact ⟨(World.cell?_of_block (w := w2) (a := ⟨b3, 0, none⟩) k5).trans y3, (World.frozen?_of_block (w := w) (a := ⟨b3, 0, none⟩) (k5.trans k2)).trans f3⟩
theorem own_graph {w : World} {b2 b3 k zc : Nat} {g : List OB} {zA : Option Addr} {sl : Nat → Option Addr × Nat} {x : Value} (OJ : OwnJ w b3 g k (.slice zA k zc) sl) (hk : k ≤ g.length) (hb : b2 < b3) : GAtLo b3 (w.setCell ⟨b2, 0, none⟩ x) zA (cutG g k) := by
  have hkeep : ∀ j, b3 ≤ j → (w.setCell ⟨b2, 0, none⟩ x).heap[j]? = w.heap[j]? := fun j hj => Below.heap_setCell _ _ _ _ (show j ≠ b2 by omega)
  have hrow := OJ.row
  intro i o ho
  have hi := (List.getElem?_eq_some_iff.1 ho).1
  rw [cut_len g hk] at hi
  obtain ⟨hs, hsa⟩ := OJ.slots i o ho
  rcases hrow.2 with ⟨_, h1⟩ | ⟨gb, cap, cur, e, h1, h2, h3, h4, h5, h6⟩
  · omega
  · injection e with e1 _ _
    subst e1
    have hl : gb < w.heap.size := (Array.getElem?_eq_some_iff.1 h2).1
    obtain ⟨d0, d1, d2, d3, d4⟩ := cellsG_at sl 0 (cutG g k) i o ho
    rw [Nat.zero_add] at d2
    have hc : ∀ t u, (cellsG sl 0 (cutG g k))[i * 5 + t]? = some u → (w.setCell ⟨b2, 0, none⟩ x).cell? ⟨gb, i * 5 + t, none⟩ = some u := fun t u hu => by
      have := hrow.cells (g := gb) rfl _ _ hu
      rw [add_zero_at, Nat.zero_add] at this
      exact (World.cell?_of_block (w := w) (a := ⟨gb, i * 5 + t, none⟩) (hkeep gb (by omega))).trans this
    have ea : (⟨gb, 0, none⟩ : Addr).add (i * 5) = ⟨gb, i * 5, none⟩ := by rw [add_zero_at, Nat.zero_add]
    refine ⟨⟨gb, 0, none⟩, (sl i).1, (sl i).2, rfl, by simpa using hl, ?_, slots_keep hs (fun a ha => hkeep _ (by have := (hsa a ha).1; omega)) (by simp), by show b3 ≤ gb; omega, fun a ha => by have := (hsa a ha).1; omega⟩
    rw [ea]
    exact ⟨hc 0 _ d0, hc 1 _ d1, hc 2 _ d2, hc 3 _ d3, hc 4 _ d4⟩
set_option maxHeartbeats 4000000 in
theorem own_any {w : World} {A : Option Addr} {c : Nat} {g : List OB} (hg : GAtC w A g) (hn : g.length * 64 ≤ 140737488355328) :
    Calls Try.prog 27 #[gV A g.length c] w fun e w' => ∃ B d, e = .returned (gV B (ownG g).length d) ∧ GAtLo w.heap.size w' B (ownG g) ∧ Below w.heap.size w w' := by
  have G := Lib.hid hg
  have GET : Hid (∀ i, i < g.length → ∃ p, g[i]? = some p) := fun i hi => ⟨_, List.getElem?_eq_getElem hi⟩
  have CL : Hid (∀ k, k ≤ g.length → (cutG g k).length = k) := fun k => cut_len g
  have OE : Hid (ownG g = cutG g (min g.length 40)) := (rfl : ownG g = _)
  rw [OE.out]
  clear hg
  generalize hgn : g.length = n at *
  go_enter Try.func27, Try.ntmps27
  go_wp2_with fail
  refine at_world (fun V => Below w.heap.size w V ∧ V.cell? ⟨w.heap.size, 0, none⟩ = some (.slice A n c) ∧ (V.cell? ⟨w.heap.size + 1, 0, none⟩ = some (.slice none 0 0) ∧ V.frozen? ⟨w.heap.size + 1, 0, none⟩ = false) ∧ OwnJ V (w.heap.size + 1 + 1) g 0 (.slice none 0 0) (fun _ => (none, 0))) ?_ fun V HV => ?_
  · refine ⟨(((Below.refl _ _).alloc (Nat.le_refl _) _).alloc (by simp) _).alloc (by simp; omega) _, by simp [go_sem], ⟨by simp [go_sem], by simp [go_sem]⟩, ⟨by simp [go_sem], by simp [go_sem], ⟨by simp [cutG, cellsG], .inl ⟨rfl, rfl⟩⟩, fun i o ho => by simp [cutG] at ho⟩⟩
  obtain ⟨hbl, c1, ⟨c2, f2⟩, hO⟩ := HV
  have BV := Lib.hid hbl
  have O0 := Lib.hid hO
  have lV := World.block_lt_of_cell? V _ hO.cell
  simp only at lV
  clear hbl hO
  obtain ⟨b1, hb1⟩ : ∃ b1, b1 = w.heap.size := ⟨_, rfl⟩
  have HB1 : Hid (b1 = w.heap.size) := hb1
  generalize hb3 : w.heap.size + 1 + 1 = b3 at *
  generalize hb2 : w.heap.size + 1 = b2 at *
  have b12 : b1 < b2 ∧ b2 < b3 := by omega
  rw [← hb1] at c1 ⊢
  clear hb1 hb2 hb3
  go_loopg [4] n (fun gg s4 wr => ∃ (k : Nat) (v : Value) (sl : Nat → Option Addr × Nat), k ≤ n ∧ k ≤ 40 ∧ n - k ≤ gg ∧ s4 = .int .i64 k ∧ Hid (OwnJ wr b3 g k v sl) ∧ Hid (Frm (fun x => b3 ≤ x) V wr))
  case atStart => exact ⟨0, _, _, Nat.zero_le _, Nat.zero_le _, by omega, rfl, O0.out, Frm.refl _ _⟩
  case round =>
    obtain ⟨k, v, sl, hk, hk40, hgg, rfl, OJ, FF⟩ := hrel
    have x1 := (FF.out.cell (p := ⟨b1, 0, none⟩) (show b1 < _ by omega) (show ¬ (b3 ≤ b1) by omega)).trans c1
    have BW : Hid (Below w.heap.size w wr) := below_frm BV.out FF.out (fun j hj => by have := HB1.out; omega)
    by_cases hlt : k < n ∧ k < 40
    · obtain ⟨o, ho⟩ := GET.out k hlt.1
      obtain ⟨a, sA, sc, e, hal, ⟨k0, k1, k2, k3, k4⟩, hs, hsc⟩ := (G.out.below BW.out) k o ho
      subst e
      have hl2 : (a.add (k * 5)).block < wr.heap.size := by rw [Go.ChangeShapes.block_add]; exact hal
      have h40 : decide ((k : Int) < 40) = true := by simp; omega
      have hkn : k < n := hlt.1
      obtain ⟨i1, hi1, hv0, hv1, hv2⟩ := info_parts val_info
      obtain ⟨i5, hi5, ho0, ho1, ho2⟩ := info_parts obj_info
      obtain ⟨m, hm⟩ : ∃ m, m = (o.slots.take 40).length := ⟨_, rfl⟩
      have hmin : min ((o.slots.length : Nat) : Int) 40 = (m : Int) := by rw [hm, List.length_take]; omega
      have hms : m ≤ sc := by rw [hm, List.length_take]; omega
      have hm40 : m ≤ 40 := by rw [hm]; exact List.length_take_le _ _
      have HM := Lib.hid hm
      have PT := Lib.hid (pairs_take hs.1 40)
      have ROW := Lib.hid OJ.out.row
      have x3 := OJ.out.cell
      have f3 := OJ.out.fz
      have l3 := World.block_lt_of_cell? wr _ x3
      have HO := Lib.hid ho
      simp only at l3
      clear hm hs hsc ho
      go_wp2_with (first
        | (at_builtin; (refine wpList_append_any _ rfl (.tmp 22) (.tmp 29) _ rfl (wr.heap.size + 1) 24 i1 _ 2 16 Try.underlying22 hi1 hv0 hv1 hv2 rfl (by decide) (.slice (some ⟨wr.heap.size + 1, 0, none⟩) 0 0) 0 [] rfl (by have := empty_own (wr.alloc (.cells #[.int .i64 o.kind, .int .i64 o.count, .slice sA o.slots.length sc, .string o.text, .int .i64 o.mark] 52 (0, 0))); simpa using this) _ sA m sc (pairCells (o.slots.take 40)) rfl (by rw [HM.out]; exact reads_below PT.out (((Below.refl _ _).alloc (Nat.le_refl _) _).alloc (by simp) _)) (pairs_one _) (by unfold maxLen; omega) (by omega) (by simp) ?_); intro v1 w2 hw2 hg2 hat2; rw [Nat.zero_add, List.nil_append] at hw2; obtain ⟨vA, vc, rfl⟩ := slice_own hw2; have OC := obj_cells hg2; obtain ⟨e0, e1, e2, e3, e4, e5⟩ := OC; have y3 : w2.cell? ⟨b3, 0, none⟩ = some v := hg2.cell ((((Below.refl _ _).alloc (Nat.le_refl _) _).alloc (by simp) _ : Below wr.heap.size wr _).cell (p := ⟨b3, 0, none⟩) l3 |>.trans x3) (by intro e; injection e with e; have : b3 = wr.heap.size + 1 := e; omega); have HW2 := Lib.hid hw2; have HG2 := Lib.hid hg2; clear hw2 hg2 hat2)
        | (at_builtin; (refine wpList_append_own_at _ rfl (.tmp 33) (.tmp 35) _ rfl (b3 + 1) 52 i5 _ 5 64 Try.underlying39 hi5 ho0 ho1 ho2 rfl (by decide) v k (cellsG sl 0 (cutG g k)) rfl (row_at ROW.out HG2.out l3) ⟨w2.heap.size, 0, none⟩ 1 1 [iV o.kind, iV o.count, .slice vA m vc, .string o.text, iV o.mark] rfl rfl lit_after (by simp [Value.oneCell']) (by unfold maxLen; omega) (by omega) (by have := HG2.out.size; simp at *; omega) ?_); intro v2 w5 hw5 hg5 _ hat5; obtain ⟨zA, zc, rfl⟩ := slice_own hw5; have K5 := var_at HG2.out hg5 ROW.out l3 y3 f3; obtain ⟨y5, f5⟩ := K5; have HW5 := Lib.hid hw5; have HG5 := Lib.hid hg5; have HA5 := Lib.hid hat5; clear hw5 hg5 hat5))
      have ST := own_step OJ.out (by omega) HO.out HM.out HW2.out HG2.out HW5.out HG5.out HA5.out f5 y5
      have S1 := Lib.hid ST.1
      have S2 := Lib.hid ST.2
      clear ST HW2 HG2 HW5 HG5 HA5
      go_roundg (n - (k + 1))
      case measure => omega
      case rel => exact ⟨k + 1, _, _, by omega, by omega, by omega, by go_num, S1.out, FF.out.trans S2.out⟩
    · have hkm : k = min n 40 := by omega
      have x3 := OJ.out.cell
      obtain ⟨zA, zc, rfl⟩ := slice_own OJ.out.row
      have x2 := (FF.out.cell (p := ⟨b2, 0, none⟩) (show b2 < _ by omega) (show ¬ (b3 ≤ b2) by omega)).trans c2
      have f2' : wr.frozen? ⟨b2, 0, none⟩ = false := (World.frozen?_of_block (w := V) (a := ⟨b2, 0, none⟩) (FF.out.block b2 (by omega) (show ¬ (b3 ≤ b2) by omega))).trans f2
      have GG := Lib.hid ((own_graph (x := .slice zA k zc) OJ.out (by omega) b12.2).mono (show w.heap.size ≤ b3 by have := HB1.out; omega))
      have BE : Hid (Below w.heap.size w (wr.setCell ⟨b2, 0, none⟩ (.slice zA k zc))) := BW.out.setCell (show w.heap.size ≤ b2 by have := HB1.out; omega) _
      have LK := CL.out k hk
      have HKM := Lib.hid hkm
      rcases Nat.lt_or_ge k n with hq | hq
      · have hk4 : k = 40 := by omega
        have h40 : decide ((k : Int) < 40) = false := by simp; omega
        clear hlt hkm hk4
        go_wp2_with fail
        refine bodyPost_ret (v := gV zA k zc) (by simp [results, Try.results27, go_sem, x2]) rfl ?_
        rw [← HKM.out]
        exact ⟨zA, zc, by rw [LK], GG.out, BE.out⟩
      · have hkn : k = n := by omega
        have hkd : decide ((k : Int) < (n : Int)) = false := by simp; omega
        clear hlt hkm hkn
        go_wp2_with fail
        refine bodyPost_ret (v := gV zA k zc) (by simp [results, Try.results27, go_sem, x2]) rfl ?_
        rw [← HKM.out]
        exact ⟨zA, zc, by rw [LK], GG.out, BE.out⟩
end Go.Proofs.Ytiocfnpfmilkgaa
