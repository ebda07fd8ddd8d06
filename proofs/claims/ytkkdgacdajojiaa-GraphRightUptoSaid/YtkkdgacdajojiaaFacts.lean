/- A region that draws its order, walked by facts: of each operation's value one says what is true of it from then on, in every later world; then each operation is run once, whatever order is drawn. No program. -/
import Derived.Orders
import Derived.RegionTactic
import Derived.Below
import Derived.Deep.RegionHeld3
namespace Go.Proofs.Ytkkdgacdajojiaa.Facts
open Go Go.RowKit
set_option maxRecDepth 20000
section
variable {P : Program} {ops : Array Oper} {Q : Exit → Act → World → Prop} {md : Region.Mode}

def left (ops : Array Oper) (l : Array Bool) : Nat := (List.range ops.size).countP fun i => !l.getD i true
/-- Each operation waits but for ones that are written ahead of it. -/
def aheadB (ops : Array Oper) : Bool := (List.range ops.size).all fun i => match ops[i]? with
  | some o => o.after.all fun e => decide (e.on < i)
  | none => true
theorem all_listed (hA : aheadB ops = true) {l : Array Bool} (hr : Region.ready md ops l = []) : ∀ i, i < ops.size → l.getD i true = true := by
  intro i
  induction i using Nat.strongRecOn with
  | _ i ih =>
    intro hi
    cases hl : l.getD i true with
    | true => rfl
    | false =>
      exfalso
      have hA2 := List.all_eq_true.1 hA i (List.mem_range.2 hi)
      have ho : ops[i]? = some ops[i] := Array.getElem?_eq_getElem hi
      rw [ho] at hA2
      have : i ∈ Region.ready md ops l := mem_ready.2 ⟨hl, ops[i], ho, fun e he _ => by
        have h1 : e.on < i := by
          have := Array.all_eq_true'.1 hA2 e he
          simpa using this
        have h2 := ih e.on h1 (by omega)
        rcases Nat.lt_or_ge e.on l.size with h3 | h3
        · simpa [h3] using h2
        · exfalso
          have : l.getD i true = true := by simp [Array.getElem?_eq_none (show l.size ≤ i by omega)]
          rw [this] at hl; cases hl⟩
      rw [hr] at this
      cases this
theorem left_set {l : Array Bool} {i : Nat} (hi : i < ops.size) (hl : l.getD i true = false) : left ops (l.setIfInBounds i true) + 1 = left ops l := by
  unfold left
  have hil : i < l.size := by
    rcases Nat.lt_or_ge i l.size with h | h
    · exact h
    · simp [Array.getElem?_eq_none h] at hl
  have key : ∀ n, (List.range n).countP (fun j => !(l.setIfInBounds i true).getD j true) + (if i < n then 1 else 0) = (List.range n).countP fun j => !l.getD j true := by
    intro n
    induction n with
    | zero => simp
    | succ n ih =>
      rw [List.range_succ, List.countP_append, List.countP_append]
      by_cases e : n = i
      · subst e
        have h1 : (l.setIfInBounds n true).getD n true = true := by simp [hil]
        rw [if_neg (Nat.lt_irrefl n)] at ih
        rw [if_pos (Nat.lt_succ_self n)]
        simp only [List.countP_cons, List.countP_nil, h1, hl, Bool.not_true, Bool.not_false, Bool.false_eq_true, if_true, if_false]
        omega
      · have h1 : (l.setIfInBounds i true).getD n true = l.getD n true := by
          simp [Array.getElem?_setIfInBounds_ne (Ne.symm e)]
        have h2 : (if i < n + 1 then 1 else 0) = if i < n then 1 else 0 := by
          by_cases h : i < n
          · rw [if_pos h, if_pos (by omega)]
          · rw [if_neg h, if_neg (by omega)]
        rw [h2]
        simp only [List.countP_cons, List.countP_nil, h1]
        omega
  have := key ops.size
  rw [if_pos hi] at this
  exact this
theorem any_of_inv {Inv : Array Bool → Act → World → Prop} (hA : aheadB ops = true)
    (hend : ∀ l a w, Inv l a w → (∀ i, i < ops.size → l.getD i true = true) → Q .normal a w)
    (hstep : ∀ l a w i o, Inv l a w → ops[i]? = some o → l.getD i true = false → (∀ e ∈ o.after, Region.binds md e = true → l.getD e.on false = true) → wpOp P ops Q i (Inv (l.setIfInBounds i true)) a w) :
    ∀ (n : Nat) (l : Array Bool) (a : Act) (w : World), Inv l a w → left ops l ≤ n → wpAny P md ops Q n l a w
  | 0, l, a, w, h, hn => by
    have hl : ∀ i, i < ops.size → l.getD i true = true := fun i hi => by
      have h0 : left ops l = 0 := by omega
      unfold left at h0
      rw [List.countP_eq_zero] at h0
      have := h0 i (List.mem_range.2 hi)
      simpa using this
    refine ⟨?_, hend l a w h hl⟩
    unfold Region.ready
    rw [List.filter_eq_nil_iff]
    intro i hi
    have := hl i (List.mem_range.1 hi)
    simp [this]
  | n + 1, l, a, w, h, hn => by
    refine ⟨fun hr => hend l a w h (all_listed hA hr), fun i hi => ?_⟩
    obtain ⟨hl, o, ho, hw⟩ := mem_ready.1 hi
    refine wpOp_mono (fun a' w' h' => any_of_inv hA hend hstep n _ a' w' h' ?_) (hstep l a w i o h ho hl hw)
    have := left_set (ops := ops) (Array.getElem?_eq_some_iff.1 ho).1 hl
    omega
end
section
variable {P : Program} {ops : Array Oper} {Q : Exit → Act → World → Prop}
/-- What is asked of operation i: of the values that it waits for the facts R hold. -/
def Step (P : Program) (Q : Exit → Act → World → Prop) (T : (Nat → Value) → Act) (C : World → Prop) (R : Nat → Value → World → Prop) (i : Nat) (o : Oper) : Prop :=
  ∀ (f : Nat → Value) (w : World) (K : Act → World → Prop), C w → (∀ j, (o.after.any fun e => Region.binds .any e && e.on == j) = true → R j (f j) w) →
    (∀ v w', R i v w' → C w' → Below w.heap.size w w' → K ((T f).put o.dst v) w') → Oper.wp P o (T f) w K Q
def upd (f : Nat → Value) (i : Nat) (v : Value) : Nat → Value := fun j => if j = i then v else f j
/-- A guard is a value that the operation waits for; where it lies. -/
def guardsB (ops : Array Oper) : Bool := (List.range ops.size).all fun i => match ops[i]? with
  | some o => match o.guard with
    | some (g, _) => (o.after.any fun e => Region.binds .any e && e.on == g) && ((ops[g]?).bind (·.dst)).isSome
    | none => true
  | none => true
theorem wanted_of {T : (Nat → Value) → Act} {f : Nat → Value} {i : Nat} {o : Oper} (hgs : guardsB ops = true) (ho : ops[i]? = some o) (hS : ∀ i o d, ops[i]? = some o → o.dst = some d → (T f).tmps[d]? = some (f i))
    (hG : ∀ g b, o.guard = some (g, b) → (o.after.any fun e => Region.binds .any e && e.on == g) = true → f g = .bool b) : Region.wanted o (yielded ops (T f).tmps) = true := by
  unfold Region.wanted
  split
  · rfl
  · rename_i g b hg
    have h1 := List.all_eq_true.1 hgs i (List.mem_range.2 (Array.getElem?_eq_some_iff.1 ho).1)
    rw [ho] at h1
    dsimp only at h1
    rw [hg] at h1
    simp only [Bool.and_eq_true] at h1
    have h2 := hG g b hg h1.1
    obtain ⟨d, hd⟩ := Option.isSome_iff_exists.1 h1.2
    obtain ⟨og, hog, hd2⟩ := Option.bind_eq_some_iff.1 hd
    have h3 := hS g og d hog hd2
    unfold yielded
    rw [hog]
    simp only [Option.bind_some, hd2, h3, h2]
    simp
theorem wp_region_facts {id : Nat} {a : Act} {w : World} (T : (Nat → Value) → Act) (C : World → Prop) (R : Nat → Value → World → Prop) (hm : P.follows .mixedOrders = true) (hA : aheadB ops = true) (hgs : guardsB ops = true)
    (ha : a = T fun _ => undef) (hC : C w.drew) (hR : ∀ i v w w', R i v w → C w → Below w.heap.size w w' → R i v w')
    (hT : ∀ i o f v, ops[i]? = some o → (T f).put o.dst v = T (upd f i v))
    (hS : ∀ i o d f, ops[i]? = some o → o.dst = some d → (T f).tmps[d]? = some (f i))
    (hG : ∀ (i : Nat) (o : Oper) (g : Nat) (b : Bool) (v : Value) (w : World), ops[i]? = some o → o.guard = some (g, b) → R g v w → v = .bool b)
    (hstep : ∀ i o, ops[i]? = some o → Step P Q T C R i o)
    (hend : ∀ f w, C w → (∀ i, i < ops.size → R i (f i) w) → Q .normal (T f) w) : (Code.region id ops true).wp P Q a w := by
  refine wp_region_any hm ?_
  refine any_of_inv (Inv := fun l a w => C w ∧ l.size = ops.size ∧ ∃ f, a = T f ∧ ∀ i, l.getD i false = true → R i (f i) w) hA ?_ ?_ _ _ _ _ ⟨hC, by simp, _, ha, fun i hi => ?_⟩ ?_
  · rintro l a w ⟨hC, hs, f, rfl, hf⟩ hl
    exact hend f w hC fun i hi => hf i (by have := hl i hi; simpa [show i < l.size by omega] using this)
  · rintro l a w i o ⟨hC, hs, f, rfl, hf⟩ ho hl hw
    have hil : i < l.size := by rw [hs]; exact (Array.getElem?_eq_some_iff.1 ho).1
    have deps : ∀ j, (o.after.any fun e => Region.binds .any e && e.on == j) = true → R j (f j) w := fun j hj => by
      obtain ⟨e, he, hb⟩ := Array.any_eq_true'.1 hj
      simp only [Bool.and_eq_true, beq_iff_eq] at hb
      exact hb.2 ▸ hf e.on (hw e he hb.1)
    have st := hstep i o ho f w (fun a' w' => C w' ∧ (l.setIfInBounds i true).size = ops.size ∧ ∃ f, a' = T f ∧ ∀ j, (l.setIfInBounds i true).getD j false = true → R j (f j) w') hC deps (fun v w' hv hC' hb => by
      refine ⟨hC', by simpa using hs, upd f i v, hT i o f v ho, fun j hj => ?_⟩
      unfold upd
      by_cases e : j = i
      · subst e; rw [if_pos rfl]; exact hv
      · rw [if_neg e]
        refine hR j (f j) w w' (hf j ?_) hC hb
        simpa [Array.getElem?_setIfInBounds_ne (Ne.symm e)] using hj)
    have wd := wanted_of (T := T) (f := f) hgs ho (fun i o d => hS i o d f) (fun g b hg hb => hG i o g b (f g) w ho hg (deps g hb))
    unfold wpOp
    rw [ho]
    dsimp only
    rw [if_pos wd]
    exact .inl st
  · exfalso
    by_cases hi2 : i < ops.size
    · simp [hi2] at hi
    · simp [hi2] at hi
  · unfold left
    exact Nat.le_trans (List.countP_le_length) (by simp)
end
end Go.Proofs.Ytkkdgacdajojiaa.Facts
