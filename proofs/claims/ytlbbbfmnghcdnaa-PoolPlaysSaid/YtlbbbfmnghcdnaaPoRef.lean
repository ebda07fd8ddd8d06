/- The document's pool (tallowref08) in memory: which numbers are taken, as a row of bools; its calls against what is taken in a list. -/
import Derived.Test.YtlbbbfmnghcdnaaPoHave
import Derived.Deep.LoopGhost
import Derived.StillTailTactics
namespace Go.Proofs.Ytlbbbfmnghcdnaa
set_option maxRecDepth 20000
open Go.RowKit Go.Maps

def RefAt (w : World) (lo qs : Nat) (l : List Bool) : Prop := ∃ v, w.heap[qs]? = some (.cells #[v] 80 (0, 0)) ∧ lo ≤ qs ∧ w.ownsRow lo 4 1 v l.length (l.map fun b => Value.bool b)
def SameT (T : List Nat) (l : List Bool) : Prop := ∀ n : Nat, n ∈ T ↔ 1 ≤ n ∧ l[n - 1]? = some true
def RefObj : Obj → Prop
  | .cells _ T _ => T = 80 ∨ T = 4
  | _ => False
/-- What is not of the document's pool is as it was. -/
def KeepR (w w' : World) : Prop := ∀ (k : Nat) (o : Obj), w.heap[k]? = some o → ¬ RefObj o → w'.heap[k]? = some o
theorem KeepR.refl (w : World) : KeepR w w := fun _ _ h _ => h
theorem KeepR.trans {a b c : World} (h : KeepR a b) (k : KeepR b c) : KeepR a c := fun i o ho hO => k i o (h i o ho hO) hO
theorem KeepR.below {w w' : World} (h : Below w.heap.size w w') : KeepR w w' := fun i _ ho _ => (h.block i (mem_block_lt ho)).trans ho
theorem PoolAt.keepR {w w' : World} {lo ps k : Nat} {T : List Nat} (h : PoolAt w lo ps k T) (hk : KeepR w w') : PoolAt w' lo ps k T := by
  obtain ⟨bx, mb, g, F, off, c, hh, hl⟩ := h
  obtain ⟨es, cl, hm⟩ := hh.map.form
  obtain ⟨cur, hr, _⟩ := hh.row
  refine ⟨bx, mb, g, F, off, c, hh.keep fun i hi => ?_, hl⟩
  rcases hi with rfl | rfl | rfl | rfl
  · rw [hk _ _ hh.self (by intro h; rcases h with h | h <;> cases h), hh.self]
  · rw [hk _ _ hh.var (by intro h; rcases h with h | h <;> cases h), hh.var]
  · rw [hk _ _ hm (fun h => h), hm]
  · rw [hk _ _ hr (by intro h; rcases h with h | h <;> cases h), hr]
theorem brow_form {w : World} {lo n : Nat} {v : Value} {xs : List Value} (h : w.ownsRow lo 4 1 v n xs) : (v = .slice none 0 0 ∧ n = 0) ∨ ∃ g cap cur, v = .slice (some ⟨g, 0, none⟩) n cap ∧ lo ≤ g ∧ w.heap[g]? = some (.cells cur 4 (0, 0)) ∧ n ≤ cap ∧ cap ≤ maxLen ∧ cur.size = cap ∧ cur.toList.take n = xs := by
  rcases h.2 with ⟨h1, h2⟩ | ⟨g, cap, cur, rfl, hb, hg, hn, hm, h5, h6⟩
  · exact .inl ⟨h1, h2⟩
  · exact .inr ⟨g, cap, cur, rfl, hb, hg, hn, hm, by omega, by rwa [Nat.mul_one] at h6⟩
theorem brow_keepO {w w' : World} {lo n : Nat} {v : Value} {xs : List Value} (h : w.ownsRow lo 4 1 v n xs) (hk : KeepO w w') : w'.ownsRow lo 4 1 v n xs := by
  rcases h.2 with h2 | ⟨g, cap, cur, rfl, hb, hg, r⟩
  · exact ⟨h.1, .inl h2⟩
  · exact ⟨h.1, .inr ⟨g, cap, cur, rfl, hb, hk g _ hg ⟨by decide, by decide, by decide⟩, r⟩⟩
theorem RefAt.keepO {w w' : World} {lo qs : Nat} {l : List Bool} (h : RefAt w lo qs l) (hk : KeepO w w') : RefAt w' lo qs l := by
  obtain ⟨v, h1, h2, h3⟩ := h
  exact ⟨v, hk _ _ h1 ⟨by decide, by decide, by decide⟩, h2, brow_keepO h3 hk⟩
theorem RefAt.below {w w' : World} {lo qs : Nat} {l : List Bool} (h : RefAt w lo qs l) (hb : Below w.heap.size w w') : RefAt w' lo qs l := h.keepO (KeepO.below hb)
theorem RefAt.mono {w : World} {lo lo' qs : Nat} {l : List Bool} (h : RefAt w lo qs l) (hl : lo' ≤ lo) : RefAt w lo' qs l := by
  obtain ⟨v, h1, h2, h3⟩ := h
  refine ⟨v, h1, by omega, h3.1, ?_⟩
  rcases h3.2 with h | ⟨g, cap, cur, e, hb, r⟩
  · exact .inl h
  · exact .inr ⟨g, cap, cur, e, by omega, r⟩
/-- The slice, its cells. -/
theorem RefAt.form {w : World} {lo qs : Nat} {l : List Bool} (h : RefAt w lo qs l) : ∃ A c, w.heap[qs]? = some (.cells #[.slice A l.length c] 80 (0, 0)) ∧ w.cell? ⟨qs, 0, none⟩ = some (.slice A l.length c) ∧ l.length ≤ c ∧ c ≤ 9223372036854775807 ∧ qs < w.heap.size ∧ w.frozen? ⟨qs, 0, none⟩ = false ∧ lo ≤ qs ∧
    w.ownsRow lo 4 1 (.slice A l.length c) l.length (l.map fun b => Value.bool b) ∧ (l ≠ [] → ∃ g, A = some ⟨g, 0, none⟩ ∧ g ≠ qs ∧ lo ≤ g ∧ (∀ i, w.frozen? ⟨g, i, none⟩ = false) ∧ ∀ (i : Nat) (b : Bool), l[i]? = some b → w.cell? ⟨g, i, none⟩ = some (.bool b)) := by
  obtain ⟨v, h1, h2, h3⟩ := h
  have hc : w.cell? ⟨qs, 0, none⟩ = some v := by simp [World.cell?, h1]
  have hf : w.frozen? ⟨qs, 0, none⟩ = false := by simp [World.frozen?, h1]
  rcases brow_form h3 with ⟨rfl, h4⟩ | ⟨g, cap, cur, rfl, hg, hr, hn, hm, hcap, ht⟩
  · have hl : l = [] := List.length_eq_zero_iff.1 h4
    subst hl
    exact ⟨none, 0, h1, hc, Nat.le_refl _, by decide, mem_block_lt h1, hf, h2, h3, fun h => absurd rfl h⟩
  · unfold maxLen at hm
    refine ⟨some ⟨g, 0, none⟩, cap, h1, hc, hn, by omega, mem_block_lt h1, hf, h2, h3, fun _ => ⟨g, rfl, ?_, hg, fun i => by simp [World.frozen?, hr], fun i b hb => ?_⟩⟩
    · rintro rfl; rw [h1] at hr; cases hr
    · have hi : i < l.length := (List.getElem?_eq_some_iff.1 hb).1
      have : cur.toList[i]? = some (.bool b) := by rw [← List.getElem?_take_of_lt hi, ht, List.getElem?_map, hb]; rfl
      simp [World.cell?, hr] at this ⊢
      exact this
/-- One of the row is written. -/
theorem RefAt.set {w : World} {lo qs : Nat} {l : List Bool} (h : RefAt w lo qs l) {A : Option Addr} {c g : Nat} (hA : w.heap[qs]? = some (.cells #[.slice A l.length c] 80 (0, 0))) (hg : A = some ⟨g, 0, none⟩) (i : Nat) (b : Bool) :
    RefAt (w.setCell ⟨g, i, none⟩ (.bool b)) lo qs (l.set i b) ∧ KeepR w (w.setCell ⟨g, i, none⟩ (.bool b)) ∧ lo ≤ g := by
  obtain ⟨v, h1, h2, h3⟩ := h
  rw [hA] at h1
  injection h1 with h1
  injection h1 with h1
  injection h1 with h1
  injection h1 with h1
  subst h1; subst hg
  rcases brow_form h3 with ⟨h4, _⟩ | ⟨g', cap, cur, e, hg, hr, hn, hm, hcap, ht⟩
  · cases h4
  · injection e with e _ e3
    injection e with e
    injection e with e
    subst e; subst e3
    have hne : qs ≠ g := by rintro rfl; rw [hA] at hr; cases hr
    have hset : (w.setCell ⟨g, i, none⟩ (.bool b)).heap[g]? = some (.cells (cur.setIfInBounds i (.bool b)) 4 (0, 0)) := by
      rw [setCell_eq_setRow w g i _ _ _ _ hr, setRow_heap w g _ _ _ _ hr]
    refine ⟨⟨_, (Below.heap_setCell _ _ _ _ hne).trans hA, h2, by simp, .inr ⟨g, c, cur.setIfInBounds i (.bool b), by simp, hg, hset, by simpa using hn, hm, by simp; omega, ?_⟩⟩, fun k o ho hO => ?_, hg⟩
    · rw [Nat.mul_one, List.length_set, Array.toList_setIfInBounds, List.take_set, ht, List.map_set]
    · refine (Below.heap_setCell _ _ _ _ ?_).trans ho
      intro e; subst e
      rw [hr] at ho; injection ho with ho; subst ho; exact hO (.inr rfl)
end Go.Proofs.Ytlbbbfmnghcdnaa
