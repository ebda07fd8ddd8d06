/- A region that draws its order, taken in the order in which it is written: where each operation may be taken first, or alone may come up, when all that are written ahead of it have come up. -/
import Derived.Deep.RegionHeld
namespace Go.Proofs.YtoggkigfijgbfaaGreatDoor.P6
set_option maxRecDepth 20000

/-- The first i of n have come up. -/
def upTo (n i : Nat) : Array Bool := ((List.range n).map fun j => decide (j < i)).toArray
theorem upTo_size (n i : Nat) : (upTo n i).size = n := by simp [upTo]
theorem upTo_get (n i j : Nat) (h : j < n) : (upTo n i)[j]? = some (decide (j < i)) := by
  simp [upTo, h]
theorem upTo_zero (n : Nat) : Array.replicate n false = upTo n 0 := by
  apply Array.ext_getElem?
  intro j
  by_cases h : j < n
  · rw [upTo_get n 0 j h]; simp [h]
  · rw [Array.getElem?_eq_none (by simp; omega), Array.getElem?_eq_none (by rw [upTo_size]; omega)]
theorem upTo_succ {n i : Nat} (h : i < n) : (upTo n i).setIfInBounds i true = upTo n (i + 1) := by
  apply Array.ext_getElem?
  intro j
  by_cases hj : j < n
  · rw [upTo_get n (i + 1) j hj, Array.getElem?_setIfInBounds]
    by_cases e : i = j
    · subst e; simp [upTo_size, h]
    · rw [if_neg e, upTo_get n i j hj]
      congr 1
      exact decide_eq_decide.2 (by omega)
  · rw [Array.getElem?_eq_none (by simp [upTo_size]; omega), Array.getElem?_eq_none (by rw [upTo_size]; omega)]
theorem ready_none (md : Region.Mode) (ops : Array Oper) : Region.ready md ops (upTo ops.size ops.size) = [] := by
  unfold Region.ready
  rw [List.filter_eq_nil_iff]
  intro i hi
  have h := List.mem_range.1 hi
  simp [Array.getD_eq_getD_getElem?, upTo_get _ _ i h, h]
/-- What is asked of operation i in the order as it is written; 'cs': those that alone may come up. -/
def okAt (md : Region.Mode) (l : List Oper) (cs : List Nat) (i : Nat) : Bool :=
  if cs.contains i then decide (Region.ready md l.toArray (upTo l.length i) = [i])
  else Region.free md l.toArray (upTo l.length i) i && (Region.ready md l.toArray (upTo l.length i)).contains i
/-- The first n are so. -/
def OkTo (md : Region.Mode) (l : List Oper) (cs : List Nat) (n : Nat) : Prop := ∀ i, i < n → okAt md l cs i = true
theorem OkTo.zero {md : Region.Mode} {l : List Oper} {cs : List Nat} : OkTo md l cs 0 := fun i h => absurd h (Nat.not_lt_zero i)
theorem OkTo.more {md : Region.Mode} {l : List Oper} {cs : List Nat} {n : Nat} (k : Nat) (h : OkTo md l cs n) (hk : (List.range' n k).all (okAt md l cs) = true) : OkTo md l cs (n + k) := fun i hi => by
  rcases Nat.lt_or_ge i n with h1 | h1
  · exact h i h1
  · exact List.all_eq_true.1 hk i (List.mem_range'_1.2 ⟨h1, hi⟩)
structure SeqOK (md : Region.Mode) (l : List Oper) (cs : List Nat) : Prop where
  no : Region.noSelect l.toArray = true
  at_ : OkTo md l cs l.length
section
variable {P : Program} {Q : Exit → Act → World → Prop} {md : Region.Mode} {S : World → Prop} {l : List Oper} {cs : List Nat}
/-- The region from operation i on. -/
def Seq (P : Program) (md : Region.Mode) (l : List Oper) (Q : Exit → Act → World → Prop) (S : World → Prop) (i k : Nat) (a : Act) (w : World) : Prop :=
  i + k = l.length → wpAnyH P md l.toArray Q S k (upTo l.length i) a w
theorem seq_at {i : Nat} {o : Oper} {r : List Oper} (hd : l.drop i = o :: r) : l.toArray[i]? = some o ∧ i < l.length := by
  have h : l[i]? = some o := by rw [← List.head?_drop, hd]; rfl
  refine ⟨by simpa using h, ?_⟩
  rcases Nat.lt_or_ge i l.length with h1 | h1
  · exact h1
  · rw [List.getElem?_eq_none h1] at h; cases h
theorem Seq.take {i k : Nat} {a : Act} {w : World} {o : Oper} {r : List Oper} {v : Value} (ok : SeqOK md l cs) (hd : l.drop i = o :: r) (hc : cs.contains i = false)
    (hQ : ∀ c a w, Q (.panic c) (a.put o.dst v) w → Q (.panic c) a w) (hy : YieldsIf P l.toArray S o v a) (hS : S w) (h : Seq P md l Q S (i + 1) k (a.put o.dst v) w) : Seq P md l Q S i (k + 1) a w := by
  intro hk
  obtain ⟨h1, h2⟩ := seq_at hd
  have o2 := ok.at_ i h2
  unfold okAt at o2
  simp only [hc, Bool.false_eq_true, if_false, Bool.and_eq_true] at o2
  refine wpAnyH_take h1 ok.no o2.1 o2.2 hQ hy hS ?_
  rw [upTo_succ h2]
  exact h (by omega)
theorem Seq.call {i k : Nat} {a : Act} {w : World} {o : Oper} {r : List Oper} (ok : SeqOK md l cs) (hd : l.drop i = o :: r) (hc : cs.contains i = true)
    (h : ∀ K' : Act → World → Prop, Shut (∀ a w, S w → (S w → Seq P md l Q S (i + 1) k a w) → K' a w) → if Region.wanted o (yielded l.toArray a.tmps) = true then Oper.wp P o a w K' Q else K' (a.put o.dst undef) w) : Seq P md l Q S i (k + 1) a w := by
  intro hk
  obtain ⟨h1, h2⟩ := seq_at hd
  have o2 := ok.at_ i h2
  unfold okAt at o2
  simp only [hc, if_true, decide_eq_true_eq] at o2
  refine wpAnyH_ready o2 (by simp) (AllReadyH.cons h1 (fun K' hK => h K' (fun a w hS hW => hK.out a w hS (fun hS2 => ?_))) AllReadyH.nil)
  rw [upTo_succ h2]
  exact hW hS2 (by omega)
theorem Seq.skip {i k : Nat} {a : Act} {w : World} {o : Oper} {r : List Oper} (ok : SeqOK md l cs) (hd : l.drop i = o :: r) (hc : cs.contains i = true)
    (hw : Region.wanted o (yielded l.toArray a.tmps) = false) (hS : S w) (h : Seq P md l Q S (i + 1) k (a.put o.dst undef) w) : Seq P md l Q S i (k + 1) a w :=
  Seq.call ok hd hc (fun K' hK => by rw [hw, if_neg (by decide)]; exact hK.out _ _ hS (fun _ => h))
theorem Seq.off (i : Nat) {k : Nat} {a : Act} {w : World} {o : Oper} {r : List Oper} (ok : SeqOK md l cs) (hd : l.drop i = o :: r) (hc : cs.contains i = false)
    (hQ : ∀ c a w, Q (.panic c) (a.put o.dst undef) w → Q (.panic c) a w) (hw : Region.wanted o (yielded l.toArray a.tmps) = false) (hS : S w) (h : Seq P md l Q S (i + 1) k (a.put o.dst undef) w) : Seq P md l Q S i (k + 1) a w :=
  Seq.take ok hd hc hQ (Or.inr ⟨hw, rfl⟩) hS h
theorem Seq.done {a : Act} {w : World} {i : Nat} (h : Q .normal a w) : Seq P md l Q S i 0 a w := by
  intro hk
  obtain rfl : i = l.length := by omega
  exact ⟨by have := ready_none md l.toArray; simpa using this, h⟩
theorem Seq.start {id n : Nat} {a : Act} {w : World} (hm : P.follows .mixedOrders = true) (ok : SeqOK .any l cs) (hn : l.length = n) (hS : S w.drew) (h : SeqOK .any l cs → S w.drew → Seq P .any l Q S 0 n a w.drew) : (Code.region id l.toArray true).wp P Q a w := by
  subst hn
  refine wp_region_held_drew hm hS fun hS => ?_
  have := h ok hS (by omega)
  rw [← upTo_zero] at this
  simpa using this
end
theorem sqA {α : Type} (l : List α) (i : Nat) (a : α) : l.toArray.setIfInBounds i a = (l.set i a).toArray := List.setIfInBounds_toArray ..
theorem sqB {α : Type} (a b : α) (l : List α) : (a :: l).set 0 b = b :: l := rfl
theorem sqC {α : Type} (a b : α) (n : Nat) (l : List α) : (a :: l).set (n + 1) b = a :: l.set n b := rfl
end Go.Proofs.YtoggkigfijgbfaaGreatDoor.P6
