/- StMath: A stable sort's plain words: rows as functions of the index, swaps, blocks exchanged, what is in order, and that alike ones stay as they stood. No walk, no program. | StMerge: A stable merge's plain words: one element put into a row in order; two rows in order merged by halves. No walk. | StSwap: slices.swapRangeCmpFunc and rotateCmpFunc at ints: two blocks of a row exchanged. -/
import Derived.Test.YtjlobjgemhapaaaOldV
import Derived.Test.YtjlobjgemhapaaaOldG
import Derived.Sort.LotA
import Derived.Sort.Row
import Derived.Shelf.SlSortCmp.Insertion1
import Derived.Shelf.SlSortCmp.Kit1
import Derived.Sort.WalkA
import Derived.Sort.WalkB2
import Derived.Sort.WalkB12
import Derived.Deep.LoopGhost
import Derived.Shelf.Abstract
namespace Go.Proofs.Ytjlobjgemhapaaa
set_option maxRecDepth 20000
set_option maxRecDepth 20000
open Go.Sort
variable {α : Type}

theorem le_trans_of {α : Type} {lt : α → α → Bool} (h : SWO lt) {a b c : α} (h1 : lt b a = false) (h2 : lt c b = false) : lt c a = false := h.ntrans c b a h2 h1
theorem lt_le_of {α : Type} {lt : α → α → Bool} (h : SWO lt) {a b c : α} (h1 : lt a b = true) (h2 : lt c b = false) : lt a c = true := by
  cases e : lt a c
  · rw [h.ntrans a c b e h2] at h1; cases h1
  · rfl
theorem le_lt_of {α : Type} {lt : α → α → Bool} (h : SWO lt) {a b c : α} (h1 : lt b a = false) (h2 : lt b c = true) : lt a c = true := by
  cases e : lt a c
  · rw [h.ntrans b a c h1 e] at h2; cases h2
  · rfl
theorem asymm_of {α : Type} {lt : α → α → Bool} (h : SWO lt) {a b : α} (h1 : lt a b = true) : lt b a = false := by
  cases e : lt b a
  · rfl
  · have := h.trans a b a h1 e; rw [h.irrefl] at this; cases this

def swpF (F : Nat → α) (i j : Nat) : Nat → α := fun x => if x = i then F j else if x = j then F i else F x
def swrF (F : Nat → α) (a b n : Nat) : Nat → α := fun x => if a ≤ x ∧ x < a + n then F (x - a + b) else if b ≤ x ∧ x < b + n then F (x - b + a) else F x
def rotF (F : Nat → α) (a m b : Nat) : Nat → α := fun x => if a ≤ x ∧ x < a + (b - m) then F (x + (m - a)) else if a + (b - m) ≤ x ∧ x < b then F (x - (b - m)) else F x
theorem swr_zero (F : Nat → α) (a b : Nat) : swrF F a b 0 = F := by
  funext x; unfold swrF; rw [if_neg (by omega), if_neg (by omega)]
theorem swr_step {F : Nat → α} {a b k : Nat} (h : a + k < b) : swpF (swrF F a b k) (a + k) (b + k) = swrF F a b (k + 1) := by
  funext x
  simp only [swpF, swrF]
  (repeat' split) <;> first | rfl | (exfalso; omega) | (congr 1; omega)
theorem rot_eq {F : Nat → α} {m i : Nat} (hi : i ≤ m) : swrF F (m - i) m i = rotF F (m - i) m (m + i) := by
  funext x
  simp only [swrF, rotF]
  (repeat' split) <;> first | rfl | (exfalso; omega) | (congr 1; omega)
theorem rot_left {F : Nat → α} {m i j : Nat} (hi : i ≤ m) (hj : j < i) : rotF (swrF F (m - i) m j) (m - (i - j)) m (m + j) = rotF F (m - i) m (m + j) := by
  funext x
  simp only [rotF, swrF]
  (repeat' split) <;> first | rfl | (exfalso; omega) | (congr 1; omega)
theorem rot_right {F : Nat → α} {m i j : Nat} (hi : i ≤ m) (hj : i < j) : rotF (swrF F (m - i) (m + j - i) i) (m - i) m (m + (j - i)) = rotF F (m - i) m (m + j) := by
  funext x
  simp only [rotF, swrF]
  (repeat' split) <;> first | rfl | (exfalso; omega) | (congr 1; omega)
/-- One element moves up behind those that follow. -/
theorem rot_up {F : Nat → α} {a k : Nat} (h : a ≤ k) : swpF (rotF F a (a + 1) (k + 1)) k (k + 1) = rotF F a (a + 1) (k + 2) := by
  funext x
  simp only [swpF, rotF]
  (repeat' split) <;> first | rfl | (exfalso; omega) | (congr 1; omega)
theorem rot_up0 (F : Nat → α) (a : Nat) : rotF F a (a + 1) (a + 1) = F := by
  funext x
  simp only [rotF]
  (repeat' split) <;> first | rfl | (exfalso; omega) | (congr 1; omega)
theorem rot_down {F : Nat → α} {m k : Nat} (h : k < m) : swpF (rotF F (k + 1) m (m + 1)) (k + 1) k = rotF F k m (m + 1) := by
  funext x
  simp only [swpF, rotF]
  (repeat' split) <;> first | rfl | (exfalso; omega) | (congr 1; omega)
theorem rot_down0 (F : Nat → α) (m : Nat) : rotF F m m (m + 1) = F := by
  funext x
  simp only [rotF]
  (repeat' split) <;> first | rfl | (exfalso; omega) | (congr 1; omega)
/-- F' has what F has: in [a, b) in another order, elsewhere as it was. -/
def Mix (a b : Nat) (F F' : Nat → α) : Prop := ∃ σ : Nat → Nat, (∀ i, F' i = F (σ i)) ∧ (∀ i, a ≤ i → i < b → a ≤ σ i ∧ σ i < b) ∧ (∀ i, ¬ (a ≤ i ∧ i < b) → σ i = i) ∧ ∀ i j, σ i = σ j → i = j
theorem Mix.refl (a b : Nat) (F : Nat → α) : Mix a b F F := ⟨id, fun _ => rfl, fun _ h1 h2 => ⟨h1, h2⟩, fun _ _ => rfl, fun _ _ h => h⟩
theorem Mix.trans {a b : Nat} {F G H : Nat → α} (h : Mix a b F G) (k : Mix a b G H) : Mix a b F H := by
  obtain ⟨s, s1, s2, s3, s4⟩ := h
  obtain ⟨t, t1, t2, t3, t4⟩ := k
  refine ⟨fun i => s (t i), fun i => by rw [t1, s1], fun i h1 h2 => ?_, fun i h => ?_, fun i j h => t4 _ _ (s4 _ _ h)⟩
  · obtain ⟨h3, h4⟩ := t2 i h1 h2
    exact s2 _ h3 h4
  · show s (t i) = i
    rw [t3 i h, s3 i h]
theorem Mix.mono {a b c d : Nat} {F G : Nat → α} (h : Mix a b F G) (h1 : c ≤ a) (h2 : b ≤ d) : Mix c d F G := by
  obtain ⟨s, s1, s2, s3, s4⟩ := h
  refine ⟨s, s1, fun i h3 h4 => ?_, fun i h => s3 i (by omega), s4⟩
  by_cases e : a ≤ i ∧ i < b
  · have := s2 i e.1 e.2; omega
  · rw [s3 i e]; omega
theorem Mix.out {a b : Nat} {F G : Nat → α} (h : Mix a b F G) {i : Nat} (hi : ¬ (a ≤ i ∧ i < b)) : G i = F i := by
  obtain ⟨s, s1, s2, s3, s4⟩ := h
  rw [s1, s3 i hi]
theorem Mix.in {a b : Nat} {F G : Nat → α} (h : Mix a b F G) {i : Nat} (h1 : a ≤ i) (h2 : i < b) : ∃ k, a ≤ k ∧ k < b ∧ G i = F k := by
  obtain ⟨s, s1, s2, s3, s4⟩ := h
  exact ⟨s i, (s2 i h1 h2).1, (s2 i h1 h2).2, s1 i⟩
theorem Mix.swp {a b i j : Nat} (F : Nat → α) (h1 : a ≤ i) (h2 : i < b) (h3 : a ≤ j) (h4 : j < b) : Mix a b F (swpF F i j) := by
  refine ⟨fun x => if x = i then j else if x = j then i else x, fun x => ?_, fun x hx1 hx2 => ?_, fun x hx => ?_, fun x y h => ?_⟩
  · unfold swpF; dsimp only; split
    · rfl
    · split <;> rfl
  · dsimp only; split
    · exact ⟨h3, h4⟩
    · split
      · exact ⟨h1, h2⟩
      · exact ⟨hx1, hx2⟩
  · dsimp only; rw [if_neg (by rintro rfl; exact hx ⟨h1, h2⟩), if_neg (by rintro rfl; exact hx ⟨h3, h4⟩)]
  · dsimp only at h
    (repeat' split at h) <;> omega
theorem Mix.rot {a m b : Nat} (F : Nat → α) (h1 : a ≤ m) (h2 : m ≤ b) : Mix a b F (rotF F a m b) := by
  refine ⟨fun x => if a ≤ x ∧ x < a + (b - m) then x + (m - a) else if a + (b - m) ≤ x ∧ x < b then x - (b - m) else x, fun x => ?_, fun x hx1 hx2 => ?_, fun x hx => ?_, fun x y h => ?_⟩
  · unfold rotF; dsimp only; split
    · rfl
    · split <;> rfl
  · dsimp only
    split
    · omega
    · split <;> omega
  · dsimp only; rw [if_neg (by omega), if_neg (by omega)]
  · dsimp only at h
    (repeat' split at h) <;> omega
/-- In [a, b) none is behind one that it ought to be ahead of. -/
def Ord (lt : α → α → Bool) (a b : Nat) (F : Nat → α) : Prop := ∀ i j, a ≤ i → i < j → j < b → lt (F j) (F i) = false
/-- Alike ones stand as R says. -/
def Tie (lt : α → α → Bool) (R : α → α → Prop) (n : Nat) (F : Nat → α) : Prop := ∀ i j, i < j → j < n → lt (F i) (F j) = false → lt (F j) (F i) = false → R (F i) (F j)
theorem Ord.out {lt : α → α → Bool} {a b c d : Nat} {F G : Nat → α} (h : Ord lt c d F) (hm : Mix a b F G) (hd : d ≤ a ∨ b ≤ c) : Ord lt c d G := fun i j h1 h2 h3 => by
  rw [hm.out (i := i) (by omega), hm.out (i := j) (by omega)]
  exact h i j h1 h2 h3
theorem Ord.sub {lt : α → α → Bool} {a b c d : Nat} {F : Nat → α} (h : Ord lt a b F) (h1 : a ≤ c) (h2 : d ≤ b) : Ord lt c d F := fun i j h3 h4 h5 => h i j (by omega) h4 (by omega)
/-- Blocks are exchanged where each of the second is ahead of each of the first: alike ones stay as they stood. -/
theorem Tie.rot {lt : α → α → Bool} {R : α → α → Prop} {n a m b : Nat} {F : Nat → α} (h : Tie lt R n F) (h1 : a ≤ m) (h2 : m ≤ b) (h3 : b ≤ n) (hx : ∀ i j, a ≤ i → i < m → m ≤ j → j < b → lt (F j) (F i) = true) : Tie lt R n (rotF F a m b) := by
  intro i j hij hj e1 e2
  obtain ⟨s, hs1, hc⟩ : ∃ s : Nat → Nat, (∀ x, rotF F a m b x = F (s x)) ∧ ∀ x, (s x = x + (m - a) ∧ a ≤ x ∧ x < a + (b - m)) ∨ (s x = x - (b - m) ∧ a + (b - m) ≤ x ∧ x < b) ∨ (s x = x ∧ ¬ (a ≤ x ∧ x < b)) := by
    refine ⟨fun x => if a ≤ x ∧ x < a + (b - m) then x + (m - a) else if a + (b - m) ≤ x ∧ x < b then x - (b - m) else x, fun x => ?_, fun x => ?_⟩
    · unfold rotF; dsimp only; split
      · rfl
      · split <;> rfl
    · dsimp only
      by_cases c1 : a ≤ x ∧ x < a + (b - m)
      · rw [if_pos c1]; exact .inl ⟨rfl, c1⟩
      · rw [if_neg c1]
        by_cases c2 : a + (b - m) ≤ x ∧ x < b
        · rw [if_pos c2]; exact .inr (.inl ⟨rfl, c2⟩)
        · rw [if_neg c2]; exact .inr (.inr ⟨rfl, by omega⟩)
  rw [hs1 i] at e1 e2 ⊢
  rw [hs1 j] at e1 e2 ⊢
  have hi := hc i
  have hjc := hc j
  by_cases hlt : s i < s j
  · refine h _ _ hlt ?_ e1 e2
    omega
  · exfalso
    have hne : s i ≠ s j := by omega
    have := hx (s j) (s i) (by omega) (by omega) (by omega) (by omega)
    rw [e1] at this
    cases this
theorem Tie.swp {lt : α → α → Bool} {R : α → α → Prop} {n k : Nat} {F : Nat → α} (h : Tie lt R n F) (hk : k + 1 < n) (hx : lt (F (k + 1)) (F k) = true) : Tie lt R n (swpF F k (k + 1)) := by
  have e : swpF F k (k + 1) = rotF F k (k + 1) (k + 2) := by
    have := rot_up (F := F) (a := k) (k := k) (Nat.le_refl _)
    rw [rot_up0] at this
    exact this
  rw [e]
  refine h.rot (by omega) (by omega) (by omega) (fun i j h1 h2 h3 h4 => ?_)
  obtain rfl : i = k := by omega
  obtain rfl : j = i + 1 := by omega
  exact hx
theorem swp_comm (F : Nat → α) (i j : Nat) : swpF F i j = swpF F j i := by
  funext x; unfold swpF
  by_cases e1 : x = i <;> by_cases e2 : x = j
  · subst e1; subst e2; rfl
  · simp [e1]; intro h; rw [h]
  · simp [e2]; intro h; rw [h]
  · simp [e1, e2]
/-- The row as a list. -/
def toL (F : Nat → α) (n : Nat) : List α := (List.range n).map F
theorem toL_len (F : Nat → α) (n : Nat) : (toL F n).length = n := by simp [toL]
theorem toL_at {F : Nat → α} {n i : Nat} (h : i < n) : (toL F n)[i]? = some (F i) := by simp [toL, h]
theorem perm_range {n : Nat} {s : Nat → Nat} (h1 : ∀ i, i < n → s i < n) (h2 : ∀ i j, i < n → j < n → s i = s j → i = j) : ((List.range n).map s).Perm (List.range n) := by
  have hnd : ((List.range n).map s).Pairwise (· ≠ ·) := by
    rw [List.pairwise_map]
    refine List.Pairwise.imp_of_mem (R := fun a b => a ≠ b) (fun {a b} ha hb hne e => hne (h2 a b (List.mem_range.1 ha) (List.mem_range.1 hb) e)) ?_
    exact List.nodup_range
  have hlt : ∀ x ∈ (List.range n).map s, x < n := fun x hx => by
    obtain ⟨i, hi, rfl⟩ := List.mem_map.1 hx
    exact h1 i (List.mem_range.1 hi)
  rw [List.perm_iff_count]
  intro x
  have hc1 : ((List.range n).map s).count x ≤ 1 := List.nodup_iff_count.1 hnd x
  rw [List.count_range]
  by_cases hx : x < n
  · rw [if_pos hx]
    have : x ∈ (List.range n).map s := by
      refine Classical.byContradiction fun hn => ?_
      have := nodup_short n (x :: (List.range n).map s) (List.pairwise_cons.2 ⟨fun y hy e => hn (by rw [e]; exact hy), hnd⟩) (fun y hy => by
        rcases List.mem_cons.1 hy with rfl | hy
        · exact hx
        · exact hlt y hy)
      simp at this
      omega
    have := List.count_pos_iff.2 this
    omega
  · rw [if_neg hx, List.count_eq_zero]
    exact fun h => hx (hlt x h)
theorem Mix.perm {n : Nat} {F G : Nat → α} (h : Mix 0 n F G) : (toL G n).Perm (toL F n) := by
  obtain ⟨s, s1, s2, s3, s4⟩ := h
  unfold toL
  have : (List.range n).map G = ((List.range n).map s).map F := by
    rw [List.map_map]
    exact List.map_congr_left fun x _ => s1 x
  rw [this]
  exact (perm_range (fun i hi => (s2 i (Nat.zero_le _) hi).2) (fun i j _ _ e => s4 i j e)).map F
/-! Arrays, as functions of the index. -/
section
variable [Inhabited α]
def FA (d : Array α) : Nat → α := fun i => d[i]!
theorem FA_swp {d : Array α} {i j : Nat} (hi : i < d.size) (hj : j < d.size) : FA (swp d i j) = swpF (FA d) j i := by
  funext x
  unfold FA swpF swp
  by_cases e1 : x = j
  · subst e1
    rw [if_pos rfl, getElem!_set_same _ _ _ (by simpa using hj)]
  · rw [if_neg e1, getElem!_set_other _ _ _ _ e1]
    by_cases e2 : x = i
    · subst e2
      rw [if_pos rfl, getElem!_set_same _ _ _ hi]
    · rw [if_neg e2, getElem!_set_other _ _ _ _ e2]
theorem FA_swp2 {d : Array α} {i j : Nat} (hi : i < d.size) (hj : j < d.size) : FA (swp d i j) = swpF (FA d) i j := by rw [FA_swp hi hj, swp_comm]
theorem insInner_mix {lt : α → α → Bool} {a b : Nat} : ∀ (j : Nat) (d : Array α), j < b → b ≤ d.size → Mix a b (FA d) (FA (insInner lt a j d)) ∧ (insInner lt a j d).size = d.size
  | 0, d, _, _ => ⟨Mix.refl _ _ _, rfl⟩
  | j + 1, d, hj, hb => by
    unfold insInner
    split
    · rename_i h
      simp only [Bool.and_eq_true, decide_eq_true_eq] at h
      obtain ⟨h1, h2⟩ := insInner_mix (lt := lt) (a := a) (b := b) j (swp d (j + 1) j) (by omega) (by rw [size_swp]; exact hb)
      refine ⟨?_, h2.trans (size_swp _ _ _)⟩
      refine Mix.trans ?_ h1
      rw [FA_swp2 (i := j + 1) (j := j) (by omega) (by omega)]
      exact Mix.swp (i := j + 1) (j := j) _ (by omega) (by omega) (by omega) (by omega)
    · exact ⟨Mix.refl _ _ _, rfl⟩
theorem insInner_tie {lt : α → α → Bool} {R : α → α → Prop} {n a : Nat} : ∀ (j : Nat) (d : Array α), j < n → n ≤ d.size → Tie lt R n (FA d) → Tie lt R n (FA (insInner lt a j d))
  | 0, d, _, _, h => h
  | j + 1, d, hj, hn, h => by
    unfold insInner
    split
    · rename_i h2
      simp only [Bool.and_eq_true, decide_eq_true_eq] at h2
      refine insInner_tie j _ (by omega) (by rw [size_swp]; exact hn) ?_
      rw [FA_swp (i := j + 1) (j := j) (by omega) (by omega)]
      exact h.swp (by omega) h2.2
    · exact h
theorem insOuter_mix {lt : α → α → Bool} {a b : Nat} : ∀ (k i : Nat) (d : Array α), b - i = k → b ≤ d.size → Mix a b (FA d) (FA (insOuter lt a b i d)) ∧ (insOuter lt a b i d).size = d.size
  | 0, i, d, hk, hb => by
    rw [insOuter, if_neg (by omega)]
    exact ⟨Mix.refl _ _ _, rfl⟩
  | k + 1, i, d, hk, hb => by
    rw [insOuter, if_pos (by omega)]
    obtain ⟨h1, h2⟩ := insInner_mix (lt := lt) (a := a) (b := b) i d (by omega) hb
    obtain ⟨h3, h4⟩ := insOuter_mix (lt := lt) (a := a) (b := b) k (i + 1) (insInner lt a i d) (by omega) (by omega)
    exact ⟨h1.trans h3, h4.trans h2⟩
theorem insOuter_tie {lt : α → α → Bool} {R : α → α → Prop} {n a b : Nat} (hbn : b ≤ n) : ∀ (k i : Nat) (d : Array α), b - i = k → n ≤ d.size → Tie lt R n (FA d) → Tie lt R n (FA (insOuter lt a b i d))
  | 0, i, d, hk, hn, h => by
    rw [insOuter, if_neg (by omega)]
    exact h
  | k + 1, i, d, hk, hn, h => by
    rw [insOuter, if_pos (by omega)]
    have h2 := (insInner_mix (lt := lt) (a := a) (b := b) i d (by omega) (by omega)).2
    exact insOuter_tie hbn k (i + 1) _ (by omega) (by omega) (insInner_tie i d (by omega) hn h)
theorem ins_spec {lt : α → α → Bool} (hs : SWO lt) {R : α → α → Prop} {a b : Nat} {d : Array α} (hab : a ≤ b) (hb : b ≤ d.size) :
    Mix a b (FA d) (FA (insertionSort lt d a b)) ∧ (insertionSort lt d a b).size = d.size ∧ Ord lt a b (FA (insertionSort lt d a b)) ∧ (Tie lt R d.size (FA d) → Tie lt R d.size (FA (insertionSort lt d a b))) :=
  ⟨(insOuter_mix _ _ _ rfl hb).1, (insOuter_mix (a := a) _ _ _ rfl hb).2, (insertionSort_holds hs d a b hab hb).2, insOuter_tie hb _ _ _ rfl (Nat.le_refl _)⟩
end
end Go.Proofs.Ytjlobjgemhapaaa
namespace Go.Proofs.Ytjlobjgemhapaaa
set_option maxRecDepth 20000
set_option maxRecDepth 20000
open Go.Sort
variable {α : Type}

/-- F' is F with [a, b) in order, alike ones as they stood. -/
structure Merged (lt : α → α → Bool) (R : α → α → Prop) (n a b : Nat) (F F' : Nat → α) : Prop where
  mix : Mix a b F F'
  ord : Ord lt a b F'
  tie : Tie lt R n F → Tie lt R n F'
theorem Ord.le {lt : α → α → Bool} (hs : SWO lt) {a b : Nat} {F : Nat → α} (h : Ord lt a b F) {i j : Nat} (h1 : a ≤ i) (h2 : i ≤ j) (h3 : j < b) : lt (F j) (F i) = false := by
  by_cases e : i = j
  · subst e; exact hs.irrefl _
  · exact h i j h1 (by omega) h3
/-- Where a block exchange takes what lies at x from. -/
theorem rot_at (F : Nat → α) {a m b : Nat} (_h1 : a ≤ m) (h2 : m ≤ b) (x : Nat) : (a ≤ x ∧ x < a + (b - m) ∧ rotF F a m b x = F (x + (m - a))) ∨ (a + (b - m) ≤ x ∧ x < b ∧ rotF F a m b x = F (x - (b - m))) ∨ (¬ (a ≤ x ∧ x < b) ∧ rotF F a m b x = F x) := by
  unfold rotF
  by_cases c1 : a ≤ x ∧ x < a + (b - m)
  · rw [if_pos c1]; exact .inl ⟨c1.1, c1.2, rfl⟩
  · rw [if_neg c1]
    by_cases c2 : a + (b - m) ≤ x ∧ x < b
    · rw [if_pos c2]; exact .inr (.inl ⟨c2.1, c2.2, rfl⟩)
    · rw [if_neg c2]; exact .inr (.inr ⟨by omega, rfl⟩)
theorem ins_up {lt : α → α → Bool} {R : α → α → Prop} {n a i b : Nat} {F : Nat → α} (h1 : a + 1 ≤ i) (h2 : i ≤ b) (hb : b ≤ n) (hO : Ord lt (a + 1) b F) (hl : ∀ k, a + 1 ≤ k → k < i → lt (F k) (F a) = true) (hr : ∀ k, i ≤ k → k < b → lt (F k) (F a) = false) (hs : SWO lt) : Merged lt R n a b F (rotF F a (a + 1) i) := by
  refine ⟨(Mix.rot F (by omega) h1).mono (Nat.le_refl _) h2, fun p q hp hpq hq => ?_, fun ht => ht.rot (by omega) h1 (by omega) fun x y hx1 hx2 hy1 hy2 => ?_⟩
  · rcases rot_at F (a := a) (m := a + 1) (b := i) (by omega) h1 p with ⟨p1, p2, e1⟩ | ⟨p1, p2, e1⟩ | ⟨p1, e1⟩ <;> rcases rot_at F (a := a) (m := a + 1) (b := i) (by omega) h1 q with ⟨q1, q2, e2⟩ | ⟨q1, q2, e2⟩ | ⟨q1, e2⟩ <;> rw [e1, e2]
    · exact hO _ _ (by omega) (by omega) (by omega)
    · rw [show q - (i - (a + 1)) = a by omega]
      exact asymm_of hs (hl _ (by omega) (by omega))
    · exact hO _ _ (by omega) (by omega) (by omega)
    · omega
    · omega
    · rw [show p - (i - (a + 1)) = a by omega]
      exact hr _ (by omega) hq
    · omega
    · omega
    · exact hO _ _ (by omega) hpq hq
  · obtain rfl : x = a := by omega
    exact hl y hy1 hy2
theorem ins_down {lt : α → α → Bool} {R : α → α → Prop} {n a i m : Nat} {F : Nat → α} (h1 : a ≤ i) (h2 : i ≤ m) (hb : m + 1 ≤ n) (hO : Ord lt a m F) (hl : ∀ k, a ≤ k → k < i → lt (F m) (F k) = false) (hr : ∀ k, i ≤ k → k < m → lt (F m) (F k) = true) (hs : SWO lt) : Merged lt R n a (m + 1) F (rotF F i m (m + 1)) := by
  refine ⟨(Mix.rot F h2 (by omega)).mono h1 (Nat.le_refl _), fun p q hp hpq hq => ?_, fun ht => ht.rot h2 (by omega) hb fun x y hx1 hx2 hy1 hy2 => ?_⟩
  · rcases rot_at F (a := i) (m := m) (b := m + 1) h2 (by omega) p with ⟨p1, p2, e1⟩ | ⟨p1, p2, e1⟩ | ⟨p1, e1⟩ <;> rcases rot_at F (a := i) (m := m) (b := m + 1) h2 (by omega) q with ⟨q1, q2, e2⟩ | ⟨q1, q2, e2⟩ | ⟨q1, e2⟩ <;> rw [e1, e2]
    · omega
    · rw [show p + (m - i) = m by omega]
      exact asymm_of hs (hr _ (by omega) (by omega))
    · omega
    · omega
    · exact hO _ _ (by omega) (by omega) (by omega)
    · omega
    · rw [show q + (m - i) = m by omega]
      exact hl _ hp (by omega)
    · exact hO _ _ hp (by omega) (by omega)
    · exact hO _ _ hp hpq (by omega)
  · obtain rfl : y = m := by omega
    exact hr x hx1 hx2
/-- What the search for the place to cut at has found: s. -/
structure Cut (lt : α → α → Bool) (a m b s : Nat) (F : Nat → α) : Prop where
  lo : a ≤ s
  le : s ≤ m
  mid : s ≤ (a + b) / 2
  hi : (a + b) / 2 + m - s ≤ b
  less : ∀ x y, s ≤ x → x < m → m ≤ y → y < (a + b) / 2 + m - s → lt (F y) (F x) = true
  more : ∀ x y, a ≤ x → x < s → (a + b) / 2 + m - s ≤ y → y < b → lt (F y) (F x) = false
/-- Where the search begins, and its end. -/
def s0 (a m b : Nat) : Nat := if (a + b) / 2 < m then (a + b) / 2 + m - b else a
def r0 (a m b : Nat) : Nat := if (a + b) / 2 < m then (a + b) / 2 else m
theorem sr_le {a m b : Nat} (h1 : a < m) (h2 : m < b) : a ≤ s0 a m b ∧ s0 a m b ≤ r0 a m b ∧ r0 a m b ≤ m ∧ r0 a m b ≤ (a + b) / 2 ∧ ∀ c, s0 a m b ≤ c → c < r0 a m b → a ≤ c ∧ c < m ∧ m ≤ (a + b) / 2 + m - 1 - c ∧ (a + b) / 2 + m - 1 - c < b := by
  unfold s0 r0
  split
  · refine ⟨by omega, by omega, by omega, by omega, fun c h3 h4 => ⟨by omega, by omega, by omega, by omega⟩⟩
  · refine ⟨by omega, by omega, by omega, by omega, fun c h3 h4 => ⟨by omega, by omega, by omega, by omega⟩⟩
theorem cut_of {lt : α → α → Bool} (hs : SWO lt) {a m b s : Nat} {F : Nat → α} (h1 : a < m) (h2 : m < b) (hA : Ord lt a m F) (hB : Ord lt m b F) (hs1 : s0 a m b ≤ s) (hs2 : s ≤ r0 a m b)
    (hl : ∀ c, s0 a m b ≤ c → c < s → lt (F ((a + b) / 2 + m - 1 - c)) (F c) = false) (hr : ∀ c, s ≤ c → c < r0 a m b → lt (F ((a + b) / 2 + m - 1 - c)) (F c) = true) : Cut lt a m b s F := by
  obtain ⟨q1, q2, q3, q4, q5⟩ := sr_le h1 h2
  refine ⟨by omega, by omega, by omega, ?_, fun x y hx1 hx2 hy1 hy2 => ?_, fun x y hx1 hx2 hy1 hy2 => ?_⟩
  · unfold s0 at hs1; split at hs1 <;> omega
  · have hsr : s < r0 a m b := by unfold r0; split <;> omega
    have h3 := hr s (Nat.le_refl _) hsr
    have h4 := q5 s hs1 hsr
    have h5 := lt_le_of hs h3 (hA.le hs (i := s) (j := x) (by omega) hx1 hx2)
    exact le_lt_of hs (hB.le hs (i := y) (j := (a + b) / 2 + m - 1 - s) hy1 (by omega) (by omega)) h5
  · by_cases e : s0 a m b < s
    · have h3 := hl (s - 1) (by omega) (by omega)
      have h4 := q5 (s - 1) (by omega) (by omega)
      rw [show (a + b) / 2 + m - 1 - (s - 1) = (a + b) / 2 + m - s by omega] at h3
      have h5 := le_trans_of hs (hA.le hs (i := x) (j := s - 1) hx1 (by omega) (by omega)) h3
      exact le_trans_of hs h5 (hB.le hs (i := (a + b) / 2 + m - s) (j := y) (by omega) hy1 hy2)
    · have e2 : s = s0 a m b := by omega
      unfold s0 at e2
      split at e2 <;> omega
theorem rot_triv {F : Nat → α} {a m b : Nat} (h : a = m ∨ m = b) (h1 : a ≤ m) (h2 : m ≤ b) : rotF F a m b = F := by
  funext x
  rcases rot_at F h1 h2 x with ⟨q1, q2, e⟩ | ⟨q1, q2, e⟩ | ⟨q1, e⟩
  · rw [e]; congr 1; omega
  · rw [e]; congr 1; omega
  · exact e
/-- The blocks exchanged at the cut. -/
structure Halves (lt : α → α → Bool) (a b s e : Nat) (G : Nat → α) : Prop where
  o1 : Ord lt a s G
  o2 : Ord lt s ((a + b) / 2) G
  o3 : Ord lt ((a + b) / 2) e G
  o4 : Ord lt e b G
  cross : ∀ i j, a ≤ i → i < (a + b) / 2 → (a + b) / 2 ≤ j → j < b → lt (G j) (G i) = false
theorem halves_of {lt : α → α → Bool} (hs : SWO lt) {a m b s : Nat} {F : Nat → α} (hA : Ord lt a m F) (hB : Ord lt m b F) (hc : Cut lt a m b s F) : Halves lt a b s ((a + b) / 2 + m - s) (rotF F s m ((a + b) / 2 + m - s)) := by
  have c1 := hc.lo
  have c2 := hc.le
  have c3 := hc.mid
  have c4 := hc.hi
  have he : m ≤ (a + b) / 2 + m - s := by omega
  have at1 : ∀ x, x < s → rotF F s m ((a + b) / 2 + m - s) x = F x := fun x hx => by
    rcases rot_at F c2 he x with ⟨q1, q2, e⟩ | ⟨q1, q2, e⟩ | ⟨q1, e⟩
    · omega
    · omega
    · exact e
  have at2 : ∀ x, s ≤ x → x < (a + b) / 2 → rotF F s m ((a + b) / 2 + m - s) x = F (x + (m - s)) := fun x h1 h2 => by
    rcases rot_at F c2 he x with ⟨q1, q2, e⟩ | ⟨q1, q2, e⟩ | ⟨q1, e⟩
    · exact e
    · omega
    · omega
  have at3 : ∀ x, (a + b) / 2 ≤ x → x < (a + b) / 2 + m - s → rotF F s m ((a + b) / 2 + m - s) x = F (x - ((a + b) / 2 - s)) := fun x h1 h2 => by
    rcases rot_at F c2 he x with ⟨q1, q2, e⟩ | ⟨q1, q2, e⟩ | ⟨q1, e⟩
    · omega
    · rw [e]; congr 1; omega
    · omega
  have at4 : ∀ x, (a + b) / 2 + m - s ≤ x → rotF F s m ((a + b) / 2 + m - s) x = F x := fun x h1 => by
    rcases rot_at F c2 he x with ⟨q1, q2, e⟩ | ⟨q1, q2, e⟩ | ⟨q1, e⟩
    · omega
    · omega
    · exact e
  refine ⟨fun i j h1 h2 h3 => ?_, fun i j h1 h2 h3 => ?_, fun i j h1 h2 h3 => ?_, fun i j h1 h2 h3 => ?_, fun i j h1 h2 h3 h4 => ?_⟩
  · rw [at1 i (by omega), at1 j h3]; exact hA i j h1 h2 (by omega)
  · rw [at2 i h1 (by omega), at2 j (by omega) h3]; exact hB _ _ (by omega) (by omega) (by omega)
  · rw [at3 i h1 (by omega), at3 j (by omega) h3]; exact hA _ _ (by omega) (by omega) (by omega)
  · rw [at4 i h1, at4 j (by omega)]; exact hB _ _ (by omega) h2 h3
  · by_cases hi : i < s
    · rw [at1 i hi]
      by_cases hj : j < (a + b) / 2 + m - s
      · rw [at3 j h3 hj]; exact hA _ _ h1 (by omega) (by omega)
      · rw [at4 j (by omega)]; exact hc.more i j h1 hi (by omega) h4
    · rw [at2 i (by omega) h2]
      by_cases hj : j < (a + b) / 2 + m - s
      · rw [at3 j h3 hj]
        exact asymm_of hs (hc.less _ _ (by omega) (by omega) (by omega) (by omega))
      · rw [at4 j (by omega)]; exact hB _ _ (by omega) (by omega) h4
theorem merged_of {lt : α → α → Bool} {R : α → α → Prop} {n a m b s : Nat} {F H K : Nat → α} (hc : Cut lt a m b s F) (_h1 : a < m) (_h2 : m < b) (hb : b ≤ n)
    (hG : Halves lt a b s ((a + b) / 2 + m - s) (rotF F s m ((a + b) / 2 + m - s)))
    (hL : Mix a ((a + b) / 2) (rotF F s m ((a + b) / 2 + m - s)) H ∧ Ord lt a ((a + b) / 2) H ∧ (Tie lt R n (rotF F s m ((a + b) / 2 + m - s)) → Tie lt R n H))
    (hR : Mix ((a + b) / 2) b H K ∧ Ord lt ((a + b) / 2) b K ∧ (Tie lt R n H → Tie lt R n K)) : Merged lt R n a b F K := by
  have c1 := hc.lo
  have c2 := hc.le
  have c3 := hc.mid
  have c4 := hc.hi
  refine ⟨((Mix.rot F c2 (by omega)).mono c1 c4).trans ((hL.1.mono (Nat.le_refl _) (by omega)).trans (hR.1.mono (by omega) (Nat.le_refl _))), fun i j hi hij hj => ?_, fun ht => hR.2.2 (hL.2.2 (ht.rot c2 (by omega) (by omega) fun x y p1 p2 p3 p4 => hc.less x y p1 p2 p3 p4))⟩
  by_cases e1 : (a + b) / 2 ≤ i
  · exact hR.2.1 i j e1 hij hj
  · by_cases e2 : j < (a + b) / 2
    · rw [hR.1.out (i := i) (by omega), hR.1.out (i := j) (by omega)]
      exact hL.2.1 i j hi hij e2
    · rw [hR.1.out (i := i) (by omega)]
      obtain ⟨k, k1, k2, ek⟩ := hR.1.in (i := j) (by omega) hj
      obtain ⟨p, p1, p2, ep⟩ := hL.1.in (i := i) hi (by omega)
      rw [ek, ep, hL.1.out (i := k) (by omega)]
      exact hG.cross p k p1 p2 k1 k2
end Go.Proofs.Ytjlobjgemhapaaa
namespace Go.Proofs.Ytjlobjgemhapaaa
set_option maxRecDepth 20000
set_option maxRecDepth 1000000
open Go.Shelf Go.RowKit Go.Lib Go.Sort
abbrev encN {α : Type} (num : α → Int) : α → Value := fun x => .int .i64 (num x)
theorem encN_one {α : Type} (num : α → Int) : OneCell (encN num) := fun _ => rfl
variable {α : Type} [Inhabited α]
set_option maxHeartbeats 8000000 in
theorem swapR_any {num : α → Int} {blk cap : Nat} {d0 d : Array α} {w0 w : World} {fv : Value} (R : Row1 (encN num) w0 blk 0 d0) (hs : d0.size = d.size) (S : SW (encN num) w0 blk 0 d w) (hsz : d.size ≤ 1099511627776) (a b n : Nat) (h1 : a + n ≤ b) (h2 : b + n ≤ d.size) :
    Calls Try.prog 189 #[.slice (some ⟨blk, 0, none⟩) d.size cap, .int .i64 a, .int .i64 b, .int .i64 n, fv] w fun e w' => e = .returned (.tuple #[]) ∧ ∃ d', d'.size = d.size ∧ FA d' = swrF (FA d) a b n ∧ SW (encN num) w0 blk 0 d' w' := by
  have S0 := Lib.hid S
  have Z0 := Lib.hid (swr_zero (FA d) a b)
  have ST : Hid (∀ k, k < n → swpF (swrF (FA d) a b k) (a + k) (b + k) = swrF (FA d) a b (k + 1)) := fun k hk => swr_step (by omega)
  clear S
  have mixed : Try.prog.follows .mixedOrders = true := by kernel_rfl
  go_enter Try.func189, Try.ntmps189
  go_wp2_with fail
  go_loopg [10] n (fun gg s10 wr => ∃ k : Nat, k ≤ n ∧ n - k ≤ gg ∧ s10 = .int .i64 k ∧ Hid (∃ dk : Array α, dk.size = d.size ∧ FA dk = swrF (FA d) a b k ∧ SW (encN num) w0 blk 0 dk wr))
  case atStart => exact ⟨0, Nat.zero_le _, by omega, rfl, d, rfl, Z0.out.symm, S0.out⟩
  case round =>
    obtain ⟨k, hk, hgg, rfl, QQ⟩ := hrel
    by_cases hlt : k < n
    · obtain ⟨dk, hdk, hF, hS⟩ := QQ.out
      obtain ⟨iN, hiN⟩ : ∃ q, q = a + k := ⟨_, rfl⟩
      obtain ⟨jN, hjN⟩ : ∃ q, q = b + k := ⟨_, rfl⟩
      have ea : ((a : Int) + (k : Int)).toNat = iN := by omega
      have pa : (0 : Int) ≤ (a : Int) + (k : Int) := by omega
      have ba : (a : Int) + (k : Int) < (d.size : Int) := by omega
      have ra : IntKind.i64.wrap ((a : Int) + (k : Int)) = (a : Int) + (k : Int) := by rw [IntKind.wrap_i64]; omega
      have eb : ((b : Int) + (k : Int)).toNat = jN := by omega
      have pb : (0 : Int) ≤ (b : Int) + (k : Int) := by omega
      have bb : (b : Int) + (k : Int) < (d.size : Int) := by omega
      have rb : IntKind.i64.wrap ((b : Int) + (k : Int)) = (b : Int) + (k : Int) := by rw [IntKind.wrap_i64]; omega
      obtain ⟨x, hx⟩ : ∃ x, x = dk[iN]! := ⟨_, rfl⟩
      obtain ⟨y, hy⟩ : ∃ x, x = dk[jN]! := ⟨_, rfl⟩
      have S2 : Hid (SW (encN num) w0 blk 0 (swp dk iN jN) ((wr.setCell ⟨blk, 0 + iN, none⟩ (.int .i64 (num y))).setCell ⟨blk, 0 + jN, none⟩ (.int .i64 (num x))).drew) := by rw [hx, hy]; exact hS.swapped R iN jN (by omega) (by omega)
      have ca := hS.c1 R (by omega) iN (by omega)
      have cb := hS.c1 R (by omega) jN (by omega)
      have fa := hS.f1 R (by omega) iN (by omega)
      have fb := hS.f1 R (by omega) jN (by omega)
      obtain ⟨u, cc⟩ := hS.c2 R (by omega) iN jN (by omega) (by omega) (.int .i64 (num y))
      rw [← hx] at ca
      rw [← hy] at cb
      have FS : Hid (FA (swp dk iN jN) = swrF (FA d) a b (k + 1)) := by
        show _ = _
        rw [FA_swp2 (by omega) (by omega), hF, hiN, hjN]
        exact ST.out k hlt
      have SZ : Hid ((swp dk iN jN).size = d.size) := by show _ = _; rw [size_swp]; exact hdk
      clear hx hy hS hF hdk QQ hiN hjN
      simp only [encN, Nat.zero_add] at ca cb fa fb cc S2
      go_wp2_with fail
      go_big_region_o
      clear ca cb cc fa fb
      generalize ((wr.setCell ⟨blk, iN, none⟩ (.int .i64 (num y))).setCell ⟨blk, jN, none⟩ (.int .i64 (num x))).drew = w2 at S2 ⊢
      clear ea eb
      go_wp2_with fail
      go_roundg (n - (k + 1))
      case measure => omega
      case rel => exact ⟨k + 1, by omega, by omega, by go_num, _, SZ.out, FS.out, S2.out⟩
    · have hkn : k = n := by omega
      subst hkn
      go_wp2_with fail
      refine bodyPost_end (results_none rfl _ _ _) rfl ?_
      exact ⟨rfl, QQ.out⟩
set_option maxHeartbeats 8000000 in
theorem rotate_any {num : α → Int} {blk cap : Nat} {d0 d : Array α} {w0 w : World} {fv : Value} (R : Row1 (encN num) w0 blk 0 d0) (hs : d0.size = d.size) (S : SW (encN num) w0 blk 0 d w) (hsz : d.size ≤ 1099511627776) (a m b : Nat) (h1 : a < m) (h2 : m < b) (h3 : b ≤ d.size) :
    Calls Try.prog 176 #[.slice (some ⟨blk, 0, none⟩) d.size cap, .int .i64 a, .int .i64 m, .int .i64 b, fv] w fun e w' => e = .returned (.tuple #[]) ∧ ∃ d', d'.size = d.size ∧ FA d' = rotF (FA d) a m b ∧ SW (encN num) w0 blk 0 d' w' := by
  have CS : Hid (∀ (W : World) (dk : Array α) (x y n : Nat), dk.size = d.size → SW (encN num) w0 blk 0 dk W → x + n ≤ y → y + n ≤ d.size → Calls Try.prog 189 #[.slice (some ⟨blk, 0, none⟩) d.size cap, .int .i64 x, .int .i64 y, .int .i64 n, fv] W fun e w' => e = .returned (.tuple #[]) ∧ ∃ d', d'.size = d.size ∧ FA d' = swrF (FA dk) x y n ∧ SW (encN num) w0 blk 0 d' w') := fun W dk x y n hd hS hx hy => by
    have := swapR_any (cap := cap) (fv := fv) R (hs.trans hd.symm) hS (by omega) x y n hx (by omega)
    rwa [hd] at this
  have S0 := Lib.hid S
  clear S R hs
  generalize hRF : rotF (FA d) a m b = RF
  have R0 : Hid (∃ i j : Nat, i = m - a ∧ j = b - m ∧ rotF (FA d) (m - i) m (m + j) = RF) := ⟨m - a, b - m, rfl, rfl, by rw [← hRF, show m - (m - a) = a by omega, show m + (b - m) = b by omega]⟩
  clear hRF
  have e1 : (m : Int) - (a : Int) = ((m - a : Nat) : Int) := by omega
  have e2 : (b : Int) - (m : Int) = ((b - m : Nat) : Int) := by omega
  go_enter Try.func176, Try.ntmps176
  go_wp2_with fail
  go_loopg [10, 11] (m + b) (fun gg s10 s11 wr => ∃ i j : Nat, 1 ≤ i ∧ i ≤ m ∧ 1 ≤ j ∧ m + j ≤ d.size ∧ i + j ≤ gg ∧ s10 = .int .i64 i ∧ s11 = .int .i64 j ∧ Hid (∃ dk : Array α, dk.size = d.size ∧ rotF (FA dk) (m - i) m (m + j) = RF ∧ SW (encN num) w0 blk 0 dk wr))
  case atStart =>
    obtain ⟨i, j, hi, hj, h⟩ := R0.out
    exact ⟨i, j, by omega, by omega, by omega, by omega, by omega, by rw [hi], by rw [hj], d, rfl, h, S0.out⟩
  case round =>
    obtain ⟨i, j, hi1, hi2, hj1, hj2, hgg, rfl, rfl, QQ⟩ := hrel
    clear e1 e2
    obtain ⟨dk, hdk, hF, hS⟩ := QQ.out
    have e3 : (m : Int) - (i : Int) = ((m - i : Nat) : Int) := by omega
    rcases Nat.lt_trichotomy i j with hij | hij | hij
    · have n1 : ((i : Int) != (j : Int)) = true := by simp; omega
      have n2 : decide ((j : Int) < (i : Int)) = false := by simp; omega
      have n2' : ¬ (j : Int) < (i : Int) := by omega
      have e4 : (m : Int) + (j : Int) - (i : Int) = ((m + j - i : Nat) : Int) := by omega
      have e5 : (j : Int) - (i : Int) = ((j - i : Nat) : Int) := by omega
      have CALL := Lib.hid (CS.out wr dk (m - i) (m + j - i) i hdk hS (by omega) (by omega))
      have FF : Hid (rotF (swrF (FA dk) (m - i) (m + j - i) i) (m - i) m (m + (j - i)) = RF) := (rot_right hi2 hij).trans hF
      clear hF hS hdk QQ
      go_wp2_with (go_at_call 189; (with_reducible refine CALL.out.mono ?_); rintro e w2 ⟨rfl, d2, hd2, hF2, hS2⟩; have Q2 : Hid (∃ dk : Array α, dk.size = d.size ∧ rotF (FA dk) (m - i) m (m + (j - i)) = RF ∧ SW (encN num) w0 blk 0 dk w2) := ⟨d2, hd2, by rw [hF2]; exact FF.out, hS2⟩; clear hd2 hF2 hS2)
      go_roundg (i + (j - i))
      case measure => omega
      case rel => exact ⟨i, j - i, by omega, by omega, by omega, by omega, by omega, rfl, rfl, Q2.out⟩
    · subst hij
      have n1 : ((i : Int) != (i : Int)) = false := by simp
      have CALL := Lib.hid (CS.out wr dk (m - i) m i hdk hS (by omega) (by omega))
      have FF : Hid (swrF (FA dk) (m - i) m i = RF) := (rot_eq hi2).trans hF
      clear hF hS hdk QQ
      go_wp2_with (go_at_call 189; (with_reducible refine CALL.out.mono ?_); rintro e w2 ⟨rfl, d2, hd2, hF2, hS2⟩; have Q2 : Hid (∃ dk : Array α, dk.size = d.size ∧ FA dk = RF ∧ SW (encN num) w0 blk 0 dk w2) := ⟨d2, hd2, hF2.trans FF.out, hS2⟩; clear hd2 hF2 hS2)
      refine bodyPost_end (results_none rfl _ _ _) rfl ?_
      exact ⟨rfl, Q2.out⟩
    · have n1 : ((i : Int) != (j : Int)) = true := by simp; omega
      have n2 : decide ((j : Int) < (i : Int)) = true := by simp; omega
      have n2' : (j : Int) < (i : Int) := by omega
      have e5 : (i : Int) - (j : Int) = ((i - j : Nat) : Int) := by omega
      have CALL := Lib.hid (CS.out wr dk (m - i) m j hdk hS (by omega) (by omega))
      have FF : Hid (rotF (swrF (FA dk) (m - i) m j) (m - (i - j)) m (m + j) = RF) := (rot_left hi2 hij).trans hF
      clear hF hS hdk QQ
      go_wp2_with (go_at_call 189; (with_reducible refine CALL.out.mono ?_); rintro e w2 ⟨rfl, d2, hd2, hF2, hS2⟩; have Q2 : Hid (∃ dk : Array α, dk.size = d.size ∧ rotF (FA dk) (m - (i - j)) m (m + j) = RF ∧ SW (encN num) w0 blk 0 dk w2) := ⟨d2, hd2, by rw [hF2]; exact FF.out, hS2⟩; clear hd2 hF2 hS2)
      go_roundg (i - j + j)
      case measure => omega
      case rel => exact ⟨i - j, j, by omega, by omega, by omega, by omega, by omega, rfl, rfl, Q2.out⟩
end Go.Proofs.Ytjlobjgemhapaaa
