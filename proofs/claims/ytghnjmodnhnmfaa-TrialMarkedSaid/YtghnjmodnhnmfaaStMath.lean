/- A stable sort's plain words: rows as functions of the index, swaps, blocks exchanged, what is in order, and that alike ones stay as they stood. No walk, no program. -/
import Derived.Test.YtghnjmodnhnmfaaGrMap
import Derived.Sort.LotA
import Derived.Sort.Row
namespace Go.Proofs.Ytghnjmodnhnmfaa
set_option maxRecDepth 20000
open Go.Sort
variable {α : Type}

theorem le_trans_of {α : Type} {lt : α → α → Bool} (h : SWO lt) {a b c : α} (h1 : lt b a = false) (h2 : lt c b = false) : lt c a = false := h.ntrans c b a h2 h1
theorem lt_le_of {α : Type} {lt : α → α → Bool} (h : SWO lt) {a b c : α} (h1 : lt a b = true) (h2 : lt c b = false) : lt a c = true := by
  cases e : lt a c
  · rw [h.ntrans a c b e h2] at h1; cases h1
  · rfl
theorem le_lt_of {α : Type} {lt : α → α → Bool} (h : SWO lt) {a b c : α} (h1 : lt b a = false) (h2 : lt b c = true) : lt a c = true := by
  cases e : lt a c
  · rw [h.ntrans b a c h1 e] at h2; cases h2
  · rfl
theorem asymm_of {α : Type} {lt : α → α → Bool} (h : SWO lt) {a b : α} (h1 : lt a b = true) : lt b a = false := by
  cases e : lt b a
  · rfl
  · have := h.trans a b a h1 e; rw [h.irrefl] at this; cases this

def swpF (F : Nat → α) (i j : Nat) : Nat → α := fun x => if x = i then F j else if x = j then F i else F x
def swrF (F : Nat → α) (a b n : Nat) : Nat → α := fun x => if a ≤ x ∧ x < a + n then F (x - a + b) else if b ≤ x ∧ x < b + n then F (x - b + a) else F x
def rotF (F : Nat → α) (a m b : Nat) : Nat → α := fun x => if a ≤ x ∧ x < a + (b - m) then F (x + (m - a)) else if a + (b - m) ≤ x ∧ x < b then F (x - (b - m)) else F x
theorem swr_zero (F : Nat → α) (a b : Nat) : swrF F a b 0 = F := by
  funext x; unfold swrF; rw [if_neg (by omega), if_neg (by omega)]
theorem swr_step {F : Nat → α} {a b k : Nat} (h : a + k < b) : swpF (swrF F a b k) (a + k) (b + k) = swrF F a b (k + 1) := by
  funext x
  simp only [swpF, swrF]
  (repeat' split) <;> first | rfl | (exfalso; omega) | (congr 1; omega)
theorem rot_eq {F : Nat → α} {m i : Nat} (hi : i ≤ m) : swrF F (m - i) m i = rotF F (m - i) m (m + i) := by
  funext x
  simp only [swrF, rotF]
  (repeat' split) <;> first | rfl | (exfalso; omega) | (congr 1; omega)
theorem rot_left {F : Nat → α} {m i j : Nat} (hi : i ≤ m) (hj : j < i) : rotF (swrF F (m - i) m j) (m - (i - j)) m (m + j) = rotF F (m - i) m (m + j) := by
  funext x
  simp only [rotF, swrF]
  (repeat' split) <;> first | rfl | (exfalso; omega) | (congr 1; omega)
theorem rot_right {F : Nat → α} {m i j : Nat} (hi : i ≤ m) (hj : i < j) : rotF (swrF F (m - i) (m + j - i) i) (m - i) m (m + (j - i)) = rotF F (m - i) m (m + j) := by
  funext x
  simp only [rotF, swrF]
  (repeat' split) <;> first | rfl | (exfalso; omega) | (congr 1; omega)
/-- One element moves up behind those that follow. -/
theorem rot_up {F : Nat → α} {a k : Nat} (h : a ≤ k) : swpF (rotF F a (a + 1) (k + 1)) k (k + 1) = rotF F a (a + 1) (k + 2) := by
  funext x
  simp only [swpF, rotF]
  (repeat' split) <;> first | rfl | (exfalso; omega) | (congr 1; omega)
theorem rot_up0 (F : Nat → α) (a : Nat) : rotF F a (a + 1) (a + 1) = F := by
  funext x
  simp only [rotF]
  (repeat' split) <;> first | rfl | (exfalso; omega) | (congr 1; omega)
theorem rot_down {F : Nat → α} {m k : Nat} (h : k < m) : swpF (rotF F (k + 1) m (m + 1)) (k + 1) k = rotF F k m (m + 1) := by
  funext x
  simp only [swpF, rotF]
  (repeat' split) <;> first | rfl | (exfalso; omega) | (congr 1; omega)
theorem rot_down0 (F : Nat → α) (m : Nat) : rotF F m m (m + 1) = F := by
  funext x
  simp only [rotF]
  (repeat' split) <;> first | rfl | (exfalso; omega) | (congr 1; omega)
/-- F' has what F has: in [a, b) in another order, elsewhere as it was. -/
def Mix (a b : Nat) (F F' : Nat → α) : Prop := ∃ σ : Nat → Nat, (∀ i, F' i = F (σ i)) ∧ (∀ i, a ≤ i → i < b → a ≤ σ i ∧ σ i < b) ∧ (∀ i, ¬ (a ≤ i ∧ i < b) → σ i = i) ∧ ∀ i j, σ i = σ j → i = j
theorem Mix.refl (a b : Nat) (F : Nat → α) : Mix a b F F := ⟨id, fun _ => rfl, fun _ h1 h2 => ⟨h1, h2⟩, fun _ _ => rfl, fun _ _ h => h⟩
theorem Mix.trans {a b : Nat} {F G H : Nat → α} (h : Mix a b F G) (k : Mix a b G H) : Mix a b F H := by
  obtain ⟨s, s1, s2, s3, s4⟩ := h
  obtain ⟨t, t1, t2, t3, t4⟩ := k
  refine ⟨fun i => s (t i), fun i => by rw [t1, s1], fun i h1 h2 => ?_, fun i h => ?_, fun i j h => t4 _ _ (s4 _ _ h)⟩
  · obtain ⟨h3, h4⟩ := t2 i h1 h2
    exact s2 _ h3 h4
  · show s (t i) = i
    rw [t3 i h, s3 i h]
theorem Mix.mono {a b c d : Nat} {F G : Nat → α} (h : Mix a b F G) (h1 : c ≤ a) (h2 : b ≤ d) : Mix c d F G := by
  obtain ⟨s, s1, s2, s3, s4⟩ := h
  refine ⟨s, s1, fun i h3 h4 => ?_, fun i h => s3 i (by omega), s4⟩
  by_cases e : a ≤ i ∧ i < b
  · have := s2 i e.1 e.2; omega
  · rw [s3 i e]; omega
theorem Mix.out {a b : Nat} {F G : Nat → α} (h : Mix a b F G) {i : Nat} (hi : ¬ (a ≤ i ∧ i < b)) : G i = F i := by
  obtain ⟨s, s1, s2, s3, s4⟩ := h
  rw [s1, s3 i hi]
theorem Mix.in {a b : Nat} {F G : Nat → α} (h : Mix a b F G) {i : Nat} (h1 : a ≤ i) (h2 : i < b) : ∃ k, a ≤ k ∧ k < b ∧ G i = F k := by
  obtain ⟨s, s1, s2, s3, s4⟩ := h
  exact ⟨s i, (s2 i h1 h2).1, (s2 i h1 h2).2, s1 i⟩
theorem Mix.swp {a b i j : Nat} (F : Nat → α) (h1 : a ≤ i) (h2 : i < b) (h3 : a ≤ j) (h4 : j < b) : Mix a b F (swpF F i j) := by
  refine ⟨fun x => if x = i then j else if x = j then i else x, fun x => ?_, fun x hx1 hx2 => ?_, fun x hx => ?_, fun x y h => ?_⟩
  · unfold swpF; dsimp only; split
    · rfl
    · split <;> rfl
  · dsimp only; split
    · exact ⟨h3, h4⟩
    · split
      · exact ⟨h1, h2⟩
      · exact ⟨hx1, hx2⟩
  · dsimp only; rw [if_neg (by rintro rfl; exact hx ⟨h1, h2⟩), if_neg (by rintro rfl; exact hx ⟨h3, h4⟩)]
  · dsimp only at h
    (repeat' split at h) <;> omega
theorem Mix.rot {a m b : Nat} (F : Nat → α) (h1 : a ≤ m) (h2 : m ≤ b) : Mix a b F (rotF F a m b) := by
  refine ⟨fun x => if a ≤ x ∧ x < a + (b - m) then x + (m - a) else if a + (b - m) ≤ x ∧ x < b then x - (b - m) else x, fun x => ?_, fun x hx1 hx2 => ?_, fun x hx => ?_, fun x y h => ?_⟩
  · unfold rotF; dsimp only; split
    · rfl
    · split <;> rfl
  · dsimp only
    split
    · omega
    · split <;> omega
  · dsimp only; rw [if_neg (by omega), if_neg (by omega)]
  · dsimp only at h
    (repeat' split at h) <;> omega
/-- In [a, b) none is behind one that it ought to be ahead of. -/
def Ord (lt : α → α → Bool) (a b : Nat) (F : Nat → α) : Prop := ∀ i j, a ≤ i → i < j → j < b → lt (F j) (F i) = false
/-- Alike ones stand as R says. -/
def Tie (lt : α → α → Bool) (R : α → α → Prop) (n : Nat) (F : Nat → α) : Prop := ∀ i j, i < j → j < n → lt (F i) (F j) = false → lt (F j) (F i) = false → R (F i) (F j)
theorem Ord.out {lt : α → α → Bool} {a b c d : Nat} {F G : Nat → α} (h : Ord lt c d F) (hm : Mix a b F G) (hd : d ≤ a ∨ b ≤ c) : Ord lt c d G := fun i j h1 h2 h3 => by
  rw [hm.out (i := i) (by omega), hm.out (i := j) (by omega)]
  exact h i j h1 h2 h3
theorem Ord.sub {lt : α → α → Bool} {a b c d : Nat} {F : Nat → α} (h : Ord lt a b F) (h1 : a ≤ c) (h2 : d ≤ b) : Ord lt c d F := fun i j h3 h4 h5 => h i j (by omega) h4 (by omega)
/-- Blocks are exchanged where each of the second is ahead of each of the first: alike ones stay as they stood. -/
theorem Tie.rot {lt : α → α → Bool} {R : α → α → Prop} {n a m b : Nat} {F : Nat → α} (h : Tie lt R n F) (h1 : a ≤ m) (h2 : m ≤ b) (h3 : b ≤ n) (hx : ∀ i j, a ≤ i → i < m → m ≤ j → j < b → lt (F j) (F i) = true) : Tie lt R n (rotF F a m b) := by
  intro i j hij hj e1 e2
  obtain ⟨s, hs1, hc⟩ : ∃ s : Nat → Nat, (∀ x, rotF F a m b x = F (s x)) ∧ ∀ x, (s x = x + (m - a) ∧ a ≤ x ∧ x < a + (b - m)) ∨ (s x = x - (b - m) ∧ a + (b - m) ≤ x ∧ x < b) ∨ (s x = x ∧ ¬ (a ≤ x ∧ x < b)) := by
    refine ⟨fun x => if a ≤ x ∧ x < a + (b - m) then x + (m - a) else if a + (b - m) ≤ x ∧ x < b then x - (b - m) else x, fun x => ?_, fun x => ?_⟩
    · unfold rotF; dsimp only; split
      · rfl
      · split <;> rfl
    · dsimp only
      by_cases c1 : a ≤ x ∧ x < a + (b - m)
      · rw [if_pos c1]; exact .inl ⟨rfl, c1⟩
      · rw [if_neg c1]
        by_cases c2 : a + (b - m) ≤ x ∧ x < b
        · rw [if_pos c2]; exact .inr (.inl ⟨rfl, c2⟩)
        · rw [if_neg c2]; exact .inr (.inr ⟨rfl, by omega⟩)
  rw [hs1 i] at e1 e2 ⊢
  rw [hs1 j] at e1 e2 ⊢
  have hi := hc i
  have hjc := hc j
  by_cases hlt : s i < s j
  · refine h _ _ hlt ?_ e1 e2
    omega
  · exfalso
    have hne : s i ≠ s j := by omega
    have := hx (s j) (s i) (by omega) (by omega) (by omega) (by omega)
    rw [e1] at this
    cases this
theorem Tie.swp {lt : α → α → Bool} {R : α → α → Prop} {n k : Nat} {F : Nat → α} (h : Tie lt R n F) (hk : k + 1 < n) (hx : lt (F (k + 1)) (F k) = true) : Tie lt R n (swpF F k (k + 1)) := by
  have e : swpF F k (k + 1) = rotF F k (k + 1) (k + 2) := by
    have := rot_up (F := F) (a := k) (k := k) (Nat.le_refl _)
    rw [rot_up0] at this
    exact this
  rw [e]
  refine h.rot (by omega) (by omega) (by omega) (fun i j h1 h2 h3 h4 => ?_)
  obtain rfl : i = k := by omega
  obtain rfl : j = i + 1 := by omega
  exact hx
theorem swp_comm (F : Nat → α) (i j : Nat) : swpF F i j = swpF F j i := by
  funext x; unfold swpF
  by_cases e1 : x = i <;> by_cases e2 : x = j
  · subst e1; subst e2; rfl
  · simp [e1]; intro h; rw [h]
  · simp [e2]; intro h; rw [h]
  · simp [e1, e2]
/-- The row as a list. -/
def toL (F : Nat → α) (n : Nat) : List α := (List.range n).map F
theorem toL_len (F : Nat → α) (n : Nat) : (toL F n).length = n := by simp [toL]
theorem toL_at {F : Nat → α} {n i : Nat} (h : i < n) : (toL F n)[i]? = some (F i) := by simp [toL, h]
theorem perm_range {n : Nat} {s : Nat → Nat} (h1 : ∀ i, i < n → s i < n) (h2 : ∀ i j, i < n → j < n → s i = s j → i = j) : ((List.range n).map s).Perm (List.range n) := by
  have hnd : ((List.range n).map s).Pairwise (· ≠ ·) := by
    rw [List.pairwise_map]
    refine List.Pairwise.imp_of_mem (R := fun a b => a ≠ b) (fun {a b} ha hb hne e => hne (h2 a b (List.mem_range.1 ha) (List.mem_range.1 hb) e)) ?_
    exact List.nodup_range
  have hlt : ∀ x ∈ (List.range n).map s, x < n := fun x hx => by
    obtain ⟨i, hi, rfl⟩ := List.mem_map.1 hx
    exact h1 i (List.mem_range.1 hi)
  rw [List.perm_iff_count]
  intro x
  have hc1 : ((List.range n).map s).count x ≤ 1 := List.nodup_iff_count.1 hnd x
  rw [List.count_range]
  by_cases hx : x < n
  · rw [if_pos hx]
    have : x ∈ (List.range n).map s := by
      refine Classical.byContradiction fun hn => ?_
      have := nodup_short n (x :: (List.range n).map s) (List.pairwise_cons.2 ⟨fun y hy e => hn (by rw [e]; exact hy), hnd⟩) (fun y hy => by
        rcases List.mem_cons.1 hy with rfl | hy
        · exact hx
        · exact hlt y hy)
      simp at this
      omega
    have := List.count_pos_iff.2 this
    omega
  · rw [if_neg hx, List.count_eq_zero]
    exact fun h => hx (hlt x h)
theorem Mix.perm {n : Nat} {F G : Nat → α} (h : Mix 0 n F G) : (toL G n).Perm (toL F n) := by
  obtain ⟨s, s1, s2, s3, s4⟩ := h
  unfold toL
  have : (List.range n).map G = ((List.range n).map s).map F := by
    rw [List.map_map]
    exact List.map_congr_left fun x _ => s1 x
  rw [this]
  exact (perm_range (fun i hi => (s2 i (Nat.zero_le _) hi).2) (fun i j _ _ e => s4 i j e)).map F
/-! Arrays, as functions of the index. -/
section
variable [Inhabited α]
def FA (d : Array α) : Nat → α := fun i => d[i]!
theorem FA_swp {d : Array α} {i j : Nat} (hi : i < d.size) (hj : j < d.size) : FA (swp d i j) = swpF (FA d) j i := by
  funext x
  unfold FA swpF swp
  by_cases e1 : x = j
  · subst e1
    rw [if_pos rfl, getElem!_set_same _ _ _ (by simpa using hj)]
  · rw [if_neg e1, getElem!_set_other _ _ _ _ e1]
    by_cases e2 : x = i
    · subst e2
      rw [if_pos rfl, getElem!_set_same _ _ _ hi]
    · rw [if_neg e2, getElem!_set_other _ _ _ _ e2]
theorem FA_swp2 {d : Array α} {i j : Nat} (hi : i < d.size) (hj : j < d.size) : FA (swp d i j) = swpF (FA d) i j := by rw [FA_swp hi hj, swp_comm]
theorem insInner_mix {lt : α → α → Bool} {a b : Nat} : ∀ (j : Nat) (d : Array α), j < b → b ≤ d.size → Mix a b (FA d) (FA (insInner lt a j d)) ∧ (insInner lt a j d).size = d.size
  | 0, d, _, _ => ⟨Mix.refl _ _ _, rfl⟩
  | j + 1, d, hj, hb => by
    unfold insInner
    split
    · rename_i h
      simp only [Bool.and_eq_true, decide_eq_true_eq] at h
      obtain ⟨h1, h2⟩ := insInner_mix (lt := lt) (a := a) (b := b) j (swp d (j + 1) j) (by omega) (by rw [size_swp]; exact hb)
      refine ⟨?_, h2.trans (size_swp _ _ _)⟩
      refine Mix.trans ?_ h1
      rw [FA_swp2 (i := j + 1) (j := j) (by omega) (by omega)]
      exact Mix.swp (i := j + 1) (j := j) _ (by omega) (by omega) (by omega) (by omega)
    · exact ⟨Mix.refl _ _ _, rfl⟩
theorem insInner_tie {lt : α → α → Bool} {R : α → α → Prop} {n a : Nat} : ∀ (j : Nat) (d : Array α), j < n → n ≤ d.size → Tie lt R n (FA d) → Tie lt R n (FA (insInner lt a j d))
  | 0, d, _, _, h => h
  | j + 1, d, hj, hn, h => by
    unfold insInner
    split
    · rename_i h2
      simp only [Bool.and_eq_true, decide_eq_true_eq] at h2
      refine insInner_tie j _ (by omega) (by rw [size_swp]; exact hn) ?_
      rw [FA_swp (i := j + 1) (j := j) (by omega) (by omega)]
      exact h.swp (by omega) h2.2
    · exact h
theorem insOuter_mix {lt : α → α → Bool} {a b : Nat} : ∀ (k i : Nat) (d : Array α), b - i = k → b ≤ d.size → Mix a b (FA d) (FA (insOuter lt a b i d)) ∧ (insOuter lt a b i d).size = d.size
  | 0, i, d, hk, hb => by
    rw [insOuter, if_neg (by omega)]
    exact ⟨Mix.refl _ _ _, rfl⟩
  | k + 1, i, d, hk, hb => by
    rw [insOuter, if_pos (by omega)]
    obtain ⟨h1, h2⟩ := insInner_mix (lt := lt) (a := a) (b := b) i d (by omega) hb
    obtain ⟨h3, h4⟩ := insOuter_mix (lt := lt) (a := a) (b := b) k (i + 1) (insInner lt a i d) (by omega) (by omega)
    exact ⟨h1.trans h3, h4.trans h2⟩
theorem insOuter_tie {lt : α → α → Bool} {R : α → α → Prop} {n a b : Nat} (hbn : b ≤ n) : ∀ (k i : Nat) (d : Array α), b - i = k → n ≤ d.size → Tie lt R n (FA d) → Tie lt R n (FA (insOuter lt a b i d))
  | 0, i, d, hk, hn, h => by
    rw [insOuter, if_neg (by omega)]
    exact h
  | k + 1, i, d, hk, hn, h => by
    rw [insOuter, if_pos (by omega)]
    have h2 := (insInner_mix (lt := lt) (a := a) (b := b) i d (by omega) (by omega)).2
    exact insOuter_tie hbn k (i + 1) _ (by omega) (by omega) (insInner_tie i d (by omega) hn h)
theorem ins_spec {lt : α → α → Bool} (hs : SWO lt) {R : α → α → Prop} {a b : Nat} {d : Array α} (hab : a ≤ b) (hb : b ≤ d.size) :
    Mix a b (FA d) (FA (insertionSort lt d a b)) ∧ (insertionSort lt d a b).size = d.size ∧ Ord lt a b (FA (insertionSort lt d a b)) ∧ (Tie lt R d.size (FA d) → Tie lt R d.size (FA (insertionSort lt d a b))) :=
  ⟨(insOuter_mix _ _ _ rfl hb).1, (insOuter_mix (a := a) _ _ _ rfl hb).2, (insertionSort_holds hs d a b hab hb).2, insOuter_tie hb _ _ _ rfl (Nat.le_refl _)⟩
end
end Go.Proofs.Ytghnjmodnhnmfaa
