/- A stable merge's plain words: one element put into a row in order; two rows in order merged by halves. No walk. -/
import Derived.Test.YtghnjmodnhnmfaaStMath
namespace Go.Proofs.Ytghnjmodnhnmfaa
set_option maxRecDepth 20000
open Go.Sort
variable {α : Type}

/-- F' is F with [a, b) in order, alike ones as they stood. -/
structure Merged (lt : α → α → Bool) (R : α → α → Prop) (n a b : Nat) (F F' : Nat → α) : Prop where
  mix : Mix a b F F'
  ord : Ord lt a b F'
  tie : Tie lt R n F → Tie lt R n F'
theorem Ord.le {lt : α → α → Bool} (hs : SWO lt) {a b : Nat} {F : Nat → α} (h : Ord lt a b F) {i j : Nat} (h1 : a ≤ i) (h2 : i ≤ j) (h3 : j < b) : lt (F j) (F i) = false := by
  by_cases e : i = j
  · subst e; exact hs.irrefl _
  · exact h i j h1 (by omega) h3
/-- Where a block exchange takes what lies at x from. -/
theorem rot_at (F : Nat → α) {a m b : Nat} (_h1 : a ≤ m) (h2 : m ≤ b) (x : Nat) : (a ≤ x ∧ x < a + (b - m) ∧ rotF F a m b x = F (x + (m - a))) ∨ (a + (b - m) ≤ x ∧ x < b ∧ rotF F a m b x = F (x - (b - m))) ∨ (¬ (a ≤ x ∧ x < b) ∧ rotF F a m b x = F x) := by
  unfold rotF
  by_cases c1 : a ≤ x ∧ x < a + (b - m)
  · rw [if_pos c1]; exact .inl ⟨c1.1, c1.2, rfl⟩
  · rw [if_neg c1]
    by_cases c2 : a + (b - m) ≤ x ∧ x < b
    · rw [if_pos c2]; exact .inr (.inl ⟨c2.1, c2.2, rfl⟩)
    · rw [if_neg c2]; exact .inr (.inr ⟨by omega, rfl⟩)
theorem ins_up {lt : α → α → Bool} {R : α → α → Prop} {n a i b : Nat} {F : Nat → α} (h1 : a + 1 ≤ i) (h2 : i ≤ b) (hb : b ≤ n) (hO : Ord lt (a + 1) b F) (hl : ∀ k, a + 1 ≤ k → k < i → lt (F k) (F a) = true) (hr : ∀ k, i ≤ k → k < b → lt (F k) (F a) = false) (hs : SWO lt) : Merged lt R n a b F (rotF F a (a + 1) i) := by
  refine ⟨(Mix.rot F (by omega) h1).mono (Nat.le_refl _) h2, fun p q hp hpq hq => ?_, fun ht => ht.rot (by omega) h1 (by omega) fun x y hx1 hx2 hy1 hy2 => ?_⟩
  · rcases rot_at F (a := a) (m := a + 1) (b := i) (by omega) h1 p with ⟨p1, p2, e1⟩ | ⟨p1, p2, e1⟩ | ⟨p1, e1⟩ <;> rcases rot_at F (a := a) (m := a + 1) (b := i) (by omega) h1 q with ⟨q1, q2, e2⟩ | ⟨q1, q2, e2⟩ | ⟨q1, e2⟩ <;> rw [e1, e2]
    · exact hO _ _ (by omega) (by omega) (by omega)
    · rw [show q - (i - (a + 1)) = a by omega]
      exact asymm_of hs (hl _ (by omega) (by omega))
    · exact hO _ _ (by omega) (by omega) (by omega)
    · omega
    · omega
    · rw [show p - (i - (a + 1)) = a by omega]
      exact hr _ (by omega) hq
    · omega
    · omega
    · exact hO _ _ (by omega) hpq hq
  · obtain rfl : x = a := by omega
    exact hl y hy1 hy2
theorem ins_down {lt : α → α → Bool} {R : α → α → Prop} {n a i m : Nat} {F : Nat → α} (h1 : a ≤ i) (h2 : i ≤ m) (hb : m + 1 ≤ n) (hO : Ord lt a m F) (hl : ∀ k, a ≤ k → k < i → lt (F m) (F k) = false) (hr : ∀ k, i ≤ k → k < m → lt (F m) (F k) = true) (hs : SWO lt) : Merged lt R n a (m + 1) F (rotF F i m (m + 1)) := by
  refine ⟨(Mix.rot F h2 (by omega)).mono h1 (Nat.le_refl _), fun p q hp hpq hq => ?_, fun ht => ht.rot h2 (by omega) hb fun x y hx1 hx2 hy1 hy2 => ?_⟩
  · rcases rot_at F (a := i) (m := m) (b := m + 1) h2 (by omega) p with ⟨p1, p2, e1⟩ | ⟨p1, p2, e1⟩ | ⟨p1, e1⟩ <;> rcases rot_at F (a := i) (m := m) (b := m + 1) h2 (by omega) q with ⟨q1, q2, e2⟩ | ⟨q1, q2, e2⟩ | ⟨q1, e2⟩ <;> rw [e1, e2]
    · omega
    · rw [show p + (m - i) = m by omega]
      exact asymm_of hs (hr _ (by omega) (by omega))
    · omega
    · omega
    · exact hO _ _ (by omega) (by omega) (by omega)
    · omega
    · rw [show q + (m - i) = m by omega]
      exact hl _ hp (by omega)
    · exact hO _ _ hp (by omega) (by omega)
    · exact hO _ _ hp hpq (by omega)
  · obtain rfl : y = m := by omega
    exact hr x hx1 hx2
/-- What the search for the place to cut at has found: s. -/
structure Cut (lt : α → α → Bool) (a m b s : Nat) (F : Nat → α) : Prop where
  lo : a ≤ s
  le : s ≤ m
  mid : s ≤ (a + b) / 2
  hi : (a + b) / 2 + m - s ≤ b
  less : ∀ x y, s ≤ x → x < m → m ≤ y → y < (a + b) / 2 + m - s → lt (F y) (F x) = true
  more : ∀ x y, a ≤ x → x < s → (a + b) / 2 + m - s ≤ y → y < b → lt (F y) (F x) = false
/-- Where the search begins, and its end. -/
def s0 (a m b : Nat) : Nat := if (a + b) / 2 < m then (a + b) / 2 + m - b else a
def r0 (a m b : Nat) : Nat := if (a + b) / 2 < m then (a + b) / 2 else m
theorem sr_le {a m b : Nat} (h1 : a < m) (h2 : m < b) : a ≤ s0 a m b ∧ s0 a m b ≤ r0 a m b ∧ r0 a m b ≤ m ∧ r0 a m b ≤ (a + b) / 2 ∧ ∀ c, s0 a m b ≤ c → c < r0 a m b → a ≤ c ∧ c < m ∧ m ≤ (a + b) / 2 + m - 1 - c ∧ (a + b) / 2 + m - 1 - c < b := by
  unfold s0 r0
  split
  · refine ⟨by omega, by omega, by omega, by omega, fun c h3 h4 => ⟨by omega, by omega, by omega, by omega⟩⟩
  · refine ⟨by omega, by omega, by omega, by omega, fun c h3 h4 => ⟨by omega, by omega, by omega, by omega⟩⟩
theorem cut_of {lt : α → α → Bool} (hs : SWO lt) {a m b s : Nat} {F : Nat → α} (h1 : a < m) (h2 : m < b) (hA : Ord lt a m F) (hB : Ord lt m b F) (hs1 : s0 a m b ≤ s) (hs2 : s ≤ r0 a m b)
    (hl : ∀ c, s0 a m b ≤ c → c < s → lt (F ((a + b) / 2 + m - 1 - c)) (F c) = false) (hr : ∀ c, s ≤ c → c < r0 a m b → lt (F ((a + b) / 2 + m - 1 - c)) (F c) = true) : Cut lt a m b s F := by
  obtain ⟨q1, q2, q3, q4, q5⟩ := sr_le h1 h2
  refine ⟨by omega, by omega, by omega, ?_, fun x y hx1 hx2 hy1 hy2 => ?_, fun x y hx1 hx2 hy1 hy2 => ?_⟩
  · unfold s0 at hs1; split at hs1 <;> omega
  · have hsr : s < r0 a m b := by unfold r0; split <;> omega
    have h3 := hr s (Nat.le_refl _) hsr
    have h4 := q5 s hs1 hsr
    have h5 := lt_le_of hs h3 (hA.le hs (i := s) (j := x) (by omega) hx1 hx2)
    exact le_lt_of hs (hB.le hs (i := y) (j := (a + b) / 2 + m - 1 - s) hy1 (by omega) (by omega)) h5
  · by_cases e : s0 a m b < s
    · have h3 := hl (s - 1) (by omega) (by omega)
      have h4 := q5 (s - 1) (by omega) (by omega)
      rw [show (a + b) / 2 + m - 1 - (s - 1) = (a + b) / 2 + m - s by omega] at h3
      have h5 := le_trans_of hs (hA.le hs (i := x) (j := s - 1) hx1 (by omega) (by omega)) h3
      exact le_trans_of hs h5 (hB.le hs (i := (a + b) / 2 + m - s) (j := y) (by omega) hy1 hy2)
    · have e2 : s = s0 a m b := by omega
      unfold s0 at e2
      split at e2 <;> omega
theorem rot_triv {F : Nat → α} {a m b : Nat} (h : a = m ∨ m = b) (h1 : a ≤ m) (h2 : m ≤ b) : rotF F a m b = F := by
  funext x
  rcases rot_at F h1 h2 x with ⟨q1, q2, e⟩ | ⟨q1, q2, e⟩ | ⟨q1, e⟩
  · rw [e]; congr 1; omega
  · rw [e]; congr 1; omega
  · exact e
/-- The blocks exchanged at the cut. -/
structure Halves (lt : α → α → Bool) (a b s e : Nat) (G : Nat → α) : Prop where
  o1 : Ord lt a s G
  o2 : Ord lt s ((a + b) / 2) G
  o3 : Ord lt ((a + b) / 2) e G
  o4 : Ord lt e b G
  cross : ∀ i j, a ≤ i → i < (a + b) / 2 → (a + b) / 2 ≤ j → j < b → lt (G j) (G i) = false
theorem halves_of {lt : α → α → Bool} (hs : SWO lt) {a m b s : Nat} {F : Nat → α} (hA : Ord lt a m F) (hB : Ord lt m b F) (hc : Cut lt a m b s F) : Halves lt a b s ((a + b) / 2 + m - s) (rotF F s m ((a + b) / 2 + m - s)) := by
  have c1 := hc.lo
  have c2 := hc.le
  have c3 := hc.mid
  have c4 := hc.hi
  have he : m ≤ (a + b) / 2 + m - s := by omega
  have at1 : ∀ x, x < s → rotF F s m ((a + b) / 2 + m - s) x = F x := fun x hx => by
    rcases rot_at F c2 he x with ⟨q1, q2, e⟩ | ⟨q1, q2, e⟩ | ⟨q1, e⟩
    · omega
    · omega
    · exact e
  have at2 : ∀ x, s ≤ x → x < (a + b) / 2 → rotF F s m ((a + b) / 2 + m - s) x = F (x + (m - s)) := fun x h1 h2 => by
    rcases rot_at F c2 he x with ⟨q1, q2, e⟩ | ⟨q1, q2, e⟩ | ⟨q1, e⟩
    · exact e
    · omega
    · omega
  have at3 : ∀ x, (a + b) / 2 ≤ x → x < (a + b) / 2 + m - s → rotF F s m ((a + b) / 2 + m - s) x = F (x - ((a + b) / 2 - s)) := fun x h1 h2 => by
    rcases rot_at F c2 he x with ⟨q1, q2, e⟩ | ⟨q1, q2, e⟩ | ⟨q1, e⟩
    · omega
    · rw [e]; congr 1; omega
    · omega
  have at4 : ∀ x, (a + b) / 2 + m - s ≤ x → rotF F s m ((a + b) / 2 + m - s) x = F x := fun x h1 => by
    rcases rot_at F c2 he x with ⟨q1, q2, e⟩ | ⟨q1, q2, e⟩ | ⟨q1, e⟩
    · omega
    · omega
    · exact e
  refine ⟨fun i j h1 h2 h3 => ?_, fun i j h1 h2 h3 => ?_, fun i j h1 h2 h3 => ?_, fun i j h1 h2 h3 => ?_, fun i j h1 h2 h3 h4 => ?_⟩
  · rw [at1 i (by omega), at1 j h3]; exact hA i j h1 h2 (by omega)
  · rw [at2 i h1 (by omega), at2 j (by omega) h3]; exact hB _ _ (by omega) (by omega) (by omega)
  · rw [at3 i h1 (by omega), at3 j (by omega) h3]; exact hA _ _ (by omega) (by omega) (by omega)
  · rw [at4 i h1, at4 j (by omega)]; exact hB _ _ (by omega) h2 h3
  · by_cases hi : i < s
    · rw [at1 i hi]
      by_cases hj : j < (a + b) / 2 + m - s
      · rw [at3 j h3 hj]; exact hA _ _ h1 (by omega) (by omega)
      · rw [at4 j (by omega)]; exact hc.more i j h1 hi (by omega) h4
    · rw [at2 i (by omega) h2]
      by_cases hj : j < (a + b) / 2 + m - s
      · rw [at3 j h3 hj]
        exact asymm_of hs (hc.less _ _ (by omega) (by omega) (by omega) (by omega))
      · rw [at4 j (by omega)]; exact hB _ _ (by omega) (by omega) h4
theorem merged_of {lt : α → α → Bool} {R : α → α → Prop} {n a m b s : Nat} {F H K : Nat → α} (hc : Cut lt a m b s F) (_h1 : a < m) (_h2 : m < b) (hb : b ≤ n)
    (hG : Halves lt a b s ((a + b) / 2 + m - s) (rotF F s m ((a + b) / 2 + m - s)))
    (hL : Mix a ((a + b) / 2) (rotF F s m ((a + b) / 2 + m - s)) H ∧ Ord lt a ((a + b) / 2) H ∧ (Tie lt R n (rotF F s m ((a + b) / 2 + m - s)) → Tie lt R n H))
    (hR : Mix ((a + b) / 2) b H K ∧ Ord lt ((a + b) / 2) b K ∧ (Tie lt R n H → Tie lt R n K)) : Merged lt R n a b F K := by
  have c1 := hc.lo
  have c2 := hc.le
  have c3 := hc.mid
  have c4 := hc.hi
  refine ⟨((Mix.rot F c2 (by omega)).mono c1 c4).trans ((hL.1.mono (Nat.le_refl _) (by omega)).trans (hR.1.mono (by omega) (Nat.le_refl _))), fun i j hi hij hj => ?_, fun ht => hR.2.2 (hL.2.2 (ht.rot c2 (by omega) (by omega) fun x y p1 p2 p3 p4 => hc.less x y p1 p2 p3 p4))⟩
  by_cases e1 : (a + b) / 2 ≤ i
  · exact hR.2.1 i j e1 hij hj
  · by_cases e2 : j < (a + b) / 2
    · rw [hR.1.out (i := i) (by omega), hR.1.out (i := j) (by omega)]
      exact hL.2.1 i j hi hij e2
    · rw [hR.1.out (i := i) (by omega)]
      obtain ⟨k, k1, k2, ek⟩ := hR.1.in (i := j) (by omega) hj
      obtain ⟨p, p1, p2, ep⟩ := hL.1.in (i := i) hi (by omega)
      rw [ek, ep, hL.1.out (i := k) (by omega)]
      exact hG.cross p k p1 p2 k1 k2
end Go.Proofs.Ytghnjmodnhnmfaa
