/- chain's rows: names, owners, registers; a row of trees. No walk. -/
import Derived.Test.YtlbbbfmnghcdnaaScChainW
namespace Go.Proofs.Ytlbbbfmnghcdnaa
set_option maxRecDepth 20000
open Go.RowKit Go.Maps

/-- The name at a place of function i. -/
theorem name_of {c : Nat → Nat} {d : Nat} (hd : d ≤ 6) {i k : Nat} (hi : i < d) (hk : k < c i) : nameC c d (posC c i + k) = (i, k) ∧ posC c i + k < posC c d := by
  have hlt : posC c i + k < posC c d := by
    have := posC_le c (show i + 1 ≤ d by omega)
    rw [posC] at this; omega
  refine ⟨?_, hlt⟩
  obtain ⟨h1, h2, h3⟩ := name_at hd hlt
  have e : (nameC c d (posC c i + k)).1 = i := by
    rcases Nat.lt_trichotomy (nameC c d (posC c i + k)).1 i with h | h | h
    · have := posC_le c (show (nameC c d (posC c i + k)).1 + 1 ≤ i by omega)
      rw [posC] at this; omega
    · exact h
    · have := posC_le c (show i + 1 ≤ (nameC c d (posC c i + k)).1 by omega)
      rw [posC] at this; omega
  rw [e] at h3
  have e2 : (nameC c d (posC c i + k)).2 = k := by omega
  exact Prod.ext e e2
theorem text_of {c : Nat → Nat} {d : Nat} (hd : d ≤ 6) {i k : Nat} (hi : i < d) (hk : k < c i) : textC c d (posC c i + k) = letB (i * 5 + k) := by
  rw [textC, (name_of hd hi hk).1]
  show letB (5 * i + k) = _
  rw [Nat.mul_comm]
def namesV (c : Nat → Nat) (d n : Nat) : List Value := (List.range n).map fun j => sV (textC c d j)
def ownersV (c : Nat → Nat) (d n : Nat) : List Value := (List.range n).map fun j => iV ((nameC c d j).1 : Nat)
def regsV (c : Nat → Nat) (d n : Nat) : List Value := (List.range n).map fun j => iV ((nameC c d j).2 : Nat)
structure NamesX (lo : Nat) (w : World) (vN vO vR : Value) (c : Nat → Nat) (d a b e : Nat) : Prop where
  rn : w.ownsRow lo 9 1 vN a (namesV c d a)
  ro : w.ownsRow lo 3 1 vO b (ownersV c d b)
  rr : w.ownsRow lo 3 1 vR e (regsV c d e)
  ap : ∀ k, vO.ownBlock = some k → vR.ownBlock ≠ some k
theorem NamesX.nil (lo : Nat) (w : World) (c : Nat → Nat) (d : Nat) : NamesX lo w (.slice none 0 0) (.slice none 0 0) (.slice none 0 0) c d 0 0 0 := ⟨World.ownsRow_nil _ _ _ _, World.ownsRow_nil _ _ _ _, World.ownsRow_nil _ _ _ _, fun k h => by simp [Value.ownBlock] at h⟩
section
variable {lo : Nat} {w w' : World} {vN vO vR v' : Value} {c : Nat → Nat} {d a b e : Nat} (h : NamesX lo w vN vO vR c d a b e)
include h
theorem NamesX.below (hb : Below w.heap.size w w') : NamesX lo w' vN vO vR c d a b e := ⟨own_below h.rn hb, own_below h.ro hb, own_below h.rr hb, h.ap⟩
theorem NamesX.moreN (ho : w'.ownsRow lo 9 1 v' (a + 1) (namesV c d a ++ [sV (textC c d a)])) (hg : w.grownBy w' vN.ownBlock) : NamesX lo w' v' vO vR c d (a + 1) b e := by
  refine ⟨by rw [namesV, List.range_succ, List.map_append]; exact ho, row_keep h.ro fun k hk => hg.block k (h.ro.lt k hk).2 (fun e => rows_apart h.ro h.rn (by decide) k hk e.symm), row_keep h.rr fun k hk => hg.block k (h.rr.lt k hk).2 (fun e => rows_apart h.rr h.rn (by decide) k hk e.symm), h.ap⟩
theorem NamesX.moreO (ho : w'.ownsRow lo 3 1 v' (b + 1) (ownersV c d b ++ [iV ((nameC c d b).1 : Nat)])) (hg : w.grownBy w' vO.ownBlock) (hat : v'.ownBlock = vO.ownBlock ∨ v'.ownBlock = some w.heap.size) : NamesX lo w' vN v' vR c d a (b + 1) e := by
  refine ⟨row_keep h.rn fun k hk => hg.block k (h.rn.lt k hk).2 (fun e => rows_apart h.rn h.ro (by decide) k hk e.symm), by rw [ownersV, List.range_succ, List.map_append]; exact ho, row_keep h.rr fun k hk => hg.block k (h.rr.lt k hk).2 (fun e => h.ap k e.symm hk), fun k hk hk2 => ?_⟩
  rcases hat with h1 | h1
  · exact h.ap k (h1 ▸ hk) hk2
  · rw [h1] at hk; injection hk with hk; have := (h.rr.lt k hk2).2; omega
theorem NamesX.moreR (ho : w'.ownsRow lo 3 1 v' (e + 1) (regsV c d e ++ [iV ((nameC c d e).2 : Nat)])) (hg : w.grownBy w' vR.ownBlock) (hat : v'.ownBlock = vR.ownBlock ∨ v'.ownBlock = some w.heap.size) : NamesX lo w' vN vO v' c d a b (e + 1) := by
  refine ⟨row_keep h.rn fun k hk => hg.block k (h.rn.lt k hk).2 (fun e => rows_apart h.rn h.rr (by decide) k hk e.symm), row_keep h.ro fun k hk => hg.block k (h.ro.lt k hk).2 (fun e => h.ap k hk e.symm), by rw [regsV, List.range_succ, List.map_append]; exact ho, fun k hk hk2 => ?_⟩
  rcases hat with h1 | h1
  · exact h.ap k hk (h1 ▸ hk2)
  · rw [h1] at hk2; injection hk2 with hk2; have := (h.ro.lt k hk).2; omega
end
/-! A row of trees -/
def FreeT (lo : Nat) (w : World) (vb : Value) (k : Nat) : Prop := lo ≤ k ∧ k < w.heap.size ∧ vb.ownBlock ≠ some k
structure TreesX (lo : Nat) (w : World) (vb : Value) (acc : List Tree) (xs : List Value) : Prop where
  rb : w.ownsRow lo 61 1 vb acc.length xs
  ht : ∀ (j : Nat) (t : Tree) (x : Value), acc[j]? = some t → xs[j]? = some x → At w (FreeT lo w vb) t x
theorem TreesX.nil (lo : Nat) (w : World) : TreesX lo w (.slice none 0 0) [] [] := ⟨World.ownsRow_nil _ _ _ _, fun j t x h => by simp at h⟩
theorem TreesX.below {lo : Nat} {w w' : World} {vb : Value} {acc : List Tree} {xs : List Value} (h : TreesX lo w vb acc xs) (hb : Below w.heap.size w w') : TreesX lo w' vb acc xs :=
  ⟨own_below h.rb hb, fun j t x h1 h2 => (at_keep (fun g hg => ⟨⟨hg.1, Nat.lt_of_lt_of_le hg.2.1 hb.size, hg.2.2⟩, hb.block g hg.2.1⟩) t).1 _ (h.ht j t x h1 h2)⟩
theorem TreesX.mono {lo lo' : Nat} {w : World} {vb : Value} {acc : List Tree} {xs : List Value} (h : TreesX lo w vb acc xs) (hl : lo' ≤ lo) : TreesX lo' w vb acc xs := by
  refine ⟨⟨h.rb.1, ?_⟩, fun j t x h1 h2 => (at_keep (fun g hg => ⟨⟨Nat.le_trans hl hg.1, hg.2⟩, rfl⟩) t).1 _ (h.ht j t x h1 h2)⟩
  rcases h.rb.2 with h2 | ⟨g, cap, cur, e, hb, r⟩
  · exact .inl h2
  · exact .inr ⟨g, cap, cur, e, Nat.le_trans hl hb, r⟩
theorem TreesX.free {lo : Nat} {w w' : World} {vb : Value} {acc : List Tree} {xs : List Value} (h : TreesX lo w vb acc xs) (hlo : lo ≤ w.heap.size) {t : Tree} {x : Value} (ha : AtS w.heap.size w' t x) : At w' (FreeT lo w' vb) t x :=
  (at_keep (fun g hg => ⟨⟨Nat.le_trans hlo hg.1, hg.2, fun e => by have := (h.rb.lt g e).2; have := hg.1; omega⟩, rfl⟩) t).1 _ ha
theorem TreesX.more {lo m : Nat} {w w' : World} {vb v' : Value} {acc ts : List Tree} {xs news : List Value} (h : TreesX lo w vb acc xs) (hn : ∀ (j : Nat) (t : Tree) (x : Value), ts[j]? = some t → news[j]? = some x → At w (FreeT lo w vb) t x) (hm : m = ts.length)
    (ho : w'.ownsRow lo 61 1 v' (acc.length + m) (xs ++ news)) (hg : w.grownBy w' vb.ownBlock) (hat : v'.ownBlock = vb.ownBlock ∨ v'.ownBlock = some w.heap.size) : TreesX lo w' v' (acc ++ ts) (xs ++ news) := by
  subst hm
  have hxl : xs.length = acc.length := by have := h.rb.1; omega
  have key : ∀ g, FreeT lo w vb g → FreeT lo w' v' g ∧ w'.heap[g]? = w.heap[g]? := fun g hf => ⟨⟨hf.1, Nat.lt_of_lt_of_le hf.2.1 hg.size, fun e => by
      rcases hat with h1 | h1
      · exact hf.2.2 (h1 ▸ e)
      · rw [h1] at e; injection e with e; have := hf.2.1; omega⟩, hg.block g hf.2.1 (fun e => hf.2.2 e.symm)⟩
  refine ⟨by rw [List.length_append]; exact ho, fun j t x h1 h2 => ?_⟩
  by_cases hj : j < acc.length
  · rw [List.getElem?_append_left hj] at h1
    rw [List.getElem?_append_left (by omega)] at h2
    exact (at_keep key t).1 _ (h.ht j t x h1 h2)
  · rw [List.getElem?_append_right (by omega)] at h1
    rw [List.getElem?_append_right (by omega), hxl] at h2
    exact (at_keep key t).1 _ (hn _ t x h1 h2)
theorem TreesX.sl {lo : Nat} {w : World} {vb : Value} {ts : List Tree} {xs : List Value} (h : TreesX lo w vb ts xs) : Sl w (Since lo w) (treeL ts) vb := by
  have hxl : xs.length = ts.length := by have := h.rb.1; omega
  have ht : ∀ (j : Nat) (t : Tree) (x : Value), ts[j]? = some t → xs[j]? = some x → At w (Since lo w) t x := fun j t x h1 h2 => (at_keep (fun g hg => ⟨⟨hg.1, hg.2.1⟩, rfl⟩) t).1 _ (h.ht j t x h1 h2)
  rcases row_form h.rb with ⟨rfl, h0⟩ | ⟨g, cap, rfl, _⟩
  · have : ts = [] := List.eq_nil_of_length_eq_zero h0
    subst this
    exact sl_nil _ _
  · have hb := h.rb.lt g rfl
    refine ⟨some ⟨g, 0, none⟩, cap, by rw [lenT_treeL], row_of (S := Since lo w) ⟨hb.1, hb.2⟩ ts 0 xs hxl (fun j u hu => ?_) ht⟩
    rw [Nat.zero_add]
    exact row_cell h.rb hu
theorem TreesX.slB {lo : Nat} {w : World} {vb : Value} {ts : List Tree} {xs : List Value} (h : TreesX lo w vb ts xs) : SlB w (treeL ts) vb := Sl.keep (fun _ hg => ⟨hg.2, rfl⟩) h.sl
/-- What name, local, back and function lay: new blocks alone. -/
theorem back_new {t : Tree} {g lo : Nat} (w : World) (h : AtS lo w t (pV g)) (hlo : lo ≤ w.heap.size) : Calls Try.prog 27 #[pV g] w fun e w' => ∃ v, e = .returned (pV v) ∧ AtS lo w' (backT t) (pV v) ∧ Below w.heap.size w w' := by
  have H := Lib.hid h
  clear h
  go_enter Try.func27, Try.ntmps27
  go_wp2
  go_ret
  exact ⟨_, rfl, at_st (stC_new w 8 0 [] _ _ _ _ _ _) ⟨hlo, by simp⟩ (at_nil _ _) (AtS.below H.out (below_alloc _ _)) (at_nil _ _) (sl_nil _ _) (sl_nil _ _), below_alloc _ _⟩
theorem function_new {b : List Tree} {vb : Value} {lo : Nat} (w : World) (hb : Sl w (Since lo w) (treeL b) vb) (hlo : lo ≤ w.heap.size) : Calls Try.prog 30 #[.slice none 0 0, vb] w fun e w' => ∃ v, e = .returned (pV v) ∧ AtS lo w' (funT [] b) (pV v) ∧ Below w.heap.size w w' := by
  have HB := Lib.hid hb
  obtain ⟨A2, c2, rfl, _⟩ := hb
  go_enter Try.func30, Try.ntmps30
  go_wp2
  go_ret
  exact ⟨_, rfl, at_ex (exC_new w 9 0 0 [] _ _ _ _ _ _ _) ⟨hlo, by simp⟩ (at_nil _ _) (at_nil _ _) (sl_nil _ _) (sl_nil _ _) (sl_nil _ _) (Sl.keep (fun g hg => ⟨⟨hg.1, by have := hg.2; simp; omega⟩, Below.heap_alloc _ _ _ hg.2⟩) HB.out) (fun _ _ _ => Nat.zero_le _), below_alloc _ _⟩
end Go.Proofs.Ytlbbbfmnghcdnaa
