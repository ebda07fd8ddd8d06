/- Orders of a region: an operation may be taken first where what it reads stands until another, that waits for it, has come up. -/
import Derived.OrdersHeld
import Derived.Deep.RegionLaw
import Derived.Test.YtebkdegcifkigaaGreatDoorParAll
namespace Go.Proofs.YtebkdegcifkigaaGreatDoor.P5
set_option maxRecDepth 20000
section
variable {P : Program} {ops : Array Oper} {Q : Exit → Act → World → Prop} {md : Region.Mode} {S : Array Bool → World → Prop}

/-- Whatever order is picked; S, which looks at what has come up, holds behind each. -/
def anyG (P : Program) (md : Region.Mode) (ops : Array Oper) (Q : Exit → Act → World → Prop) (S : Array Bool → World → Prop) : Nat → Array Bool → Act → World → Prop
  | 0, l, a, w => Region.ready md ops l = [] ∧ Q .normal a w
  | n + 1, l, a, w => (Region.ready md ops l = [] → Q .normal a w) ∧ ∀ i ∈ Region.ready md ops l, wpOp P ops Q i (fun a' w' => S (l.setIfInBounds i true) w' ∧ anyG P md ops Q S n (l.setIfInBounds i true) a' w') a w
theorem anyG_any : ∀ (n : Nat) (l : Array Bool) (a : Act) (w : World), anyG P md ops Q S n l a w → wpAny P md ops Q n l a w
  | 0, _, _, _, h => h
  | n + 1, _, _, _, h => ⟨h.1, fun i hi => wpOp_mono (fun a' w' h' => anyG_any n _ a' w' h'.2) (h.2 i hi)⟩
theorem anyG_first {i : Nat} {oi : Oper} {v : Value} (hi : ops[i]? = some oi) (hsel : ∀ (j : Nat) (o : Oper) cs b, ops[j]? = some o → o.op ≠ .select cs b)
    (hQ : ∀ c a w, Q (.panic c) (a.put oi.dst v) w → Q (.panic c) a w) (G : Array Bool → Prop) (Si : World → Prop)
    (hSS : ∀ l w, S (l.setIfInBounds i true) w ↔ S l w) (hSi : ∀ l w, G l → S l w → Si w)
    (hG : ∀ l j oj, ops[j]? = some oj → (∀ e ∈ oj.after, Region.binds md e = true → e.on ≠ i) → G l → G (l.setIfInBounds j true)) :
    ∀ (n : Nat) (l : Array Bool) (a : Act) (w : World), G l →
      (∀ j oj, ops[j]? = some oj → j ≠ i → l.getD j true = false → (∀ e ∈ oj.after, Region.binds md e = true → e.on ≠ i) → oi.apart ops oj = true) →
      i ∈ Region.ready md ops l → YieldsIf P ops Si oi v a → S l w →
      anyG P md ops Q S n (l.setIfInBounds i true) (a.put oi.dst v) w → anyG P md ops Q S (n + 1) l a w := by
  intro n
  induction n with
  | zero =>
    intro l a w hg _ hr hy hS H
    refine ⟨fun h => (by rw [h] at hr; cases hr), fun j hj => ?_⟩
    by_cases hji : j = i
    · subst hji; exact hy.wpOp hi (hSi _ _ hg hS) ⟨(hSS _ _).2 hS, H⟩
    · have := ready_mono hj hji
      rw [H.1] at this
      cases this
  | succ n ih =>
    intro l a w hg hfree hr hy hS H
    refine ⟨fun h => (by rw [h] at hr; cases hr), fun j hj => ?_⟩
    by_cases hji : j = i
    · subst hji; exact hy.wpOp hi (hSi _ _ hg hS) ⟨(hSS _ _).2 hS, H⟩
    · have h1 := H.2 j (ready_mono hj hji)
      obtain ⟨hjun, oj, hoj, hall⟩ := mem_ready.1 hj
      have hnot : ∀ e ∈ oj.after, Region.binds md e = true → e.on ≠ i := fun e he hb heq => by
        have h1 := hall e he hb
        have h0 := (mem_ready.1 hr).1
        rw [heq] at h1
        rcases Nat.lt_or_ge i l.size with h' | h'
        · simp [h'] at h0 h1; rw [h0] at h1; cases h1
        · simp [Array.getElem?_eq_none h'] at h1
      have h2 := wpOp_putIf hoj (hfree j oj hoj hji hjun hnot) (fun cs b => hsel i oi cs b hi) (fun cs b => hsel j oj cs b hoj) hQ hy h1
      have hfree' : ∀ k ok, ops[k]? = some ok → k ≠ i → (l.setIfInBounds j true).getD k true = false →
          (∀ e ∈ ok.after, Region.binds md e = true → e.on ≠ i) → oi.apart ops ok = true := fun k ok hk hki hun hno => by
        refine hfree k ok hk hki ?_ hno
        by_cases hjk : j = k
        · subst hjk; exact hjun
        · rw [getD_set_ne true hjk] at hun; exact hun
      have hcm : (l.setIfInBounds i true).setIfInBounds j true = (l.setIfInBounds j true).setIfInBounds i true := (Array.setIfInBounds_comm _ _ hji).symm
      refine wpOp_mono (fun a' w' h3 => ?_) h2
      rw [hcm] at h3
      have h4 := (hSS _ _).1 h3.2.1
      exact ⟨h4, ih (l.setIfInBounds j true) a' w' (hG l j oj hoj hnot hg) hfree' (ready_mono hr (Ne.symm hji)) h3.1 h4 h3.2.2⟩
theorem anyG_take {i : Nat} {oi : Oper} {v : Value} {n : Nat} {l : Array Bool} {a : Act} {w : World} (Si : World → Prop) (hSi : ∀ l w, S l w → Si w) (hi : ops[i]? = some oi)
    (hs : Region.noSelect ops = true) (hf : Region.free md ops l i = true) (hr : (Region.ready md ops l).contains i = true)
    (hQ : ∀ c a w, Q (.panic c) (a.put oi.dst v) w → Q (.panic c) a w) (hSS : ∀ l w, S (l.setIfInBounds i true) w ↔ S l w) (hy : YieldsIf P ops Si oi v a) (hS : S l w)
    (h : anyG P md ops Q S n (l.setIfInBounds i true) (a.put oi.dst v) w) : anyG P md ops Q S (n + 1) l a w :=
  anyG_first hi (Region.noSelect_spec hs) hQ (fun _ => True) Si hSS (fun l w _ h => hSi l w h) (fun _ _ _ _ _ _ => trivial) n l a w trivial (Region.free_spec hi hf) (by simpa using hr) hy hS h
/-- .. where what it reads is told of while g, which waits for it, has not come up. -/
theorem anyG_takeG {i : Nat} {oi : Oper} {v : Value} {n : Nat} {l : Array Bool} {a : Act} {w : World} (g : Nat) (Si : World → Prop) (hSi : ∀ l w, l.getD g true = false → S l w → Si w) (hi : ops[i]? = some oi)
    (hw : ∀ og, ops[g]? = some og → ∃ e ∈ og.after, Region.binds md e = true ∧ e.on = i) (hl : l.getD g true = false)
    (hs : Region.noSelect ops = true) (hf : Region.free md ops l i = true) (hr : (Region.ready md ops l).contains i = true)
    (hQ : ∀ c a w, Q (.panic c) (a.put oi.dst v) w → Q (.panic c) a w) (hSS : ∀ l w, S (l.setIfInBounds i true) w ↔ S l w) (hy : YieldsIf P ops Si oi v a) (hS : S l w)
    (h : anyG P md ops Q S n (l.setIfInBounds i true) (a.put oi.dst v) w) : anyG P md ops Q S (n + 1) l a w :=
  anyG_first hi (Region.noSelect_spec hs) hQ (fun l => l.getD g true = false) Si hSS hSi (fun l j oj hj hno hg => by
    by_cases hjg : j = g
    · subst hjg
      obtain ⟨e, he, hb, hon⟩ := hw oj hj
      exact absurd hon (hno e he hb)
    · show (l.setIfInBounds j true).getD g true = false
      rw [getD_set_ne true hjg]; exact hg) n l a w hl (Region.free_spec hi hf) (by simpa using hr) hy hS h
theorem anyG_all {rs : List Nat} {n : Nat} {l : Array Bool} {a : Act} {w : World} (hr : Region.ready md ops l = rs) (hne : rs ≠ [])
    (h : ∀ i ∈ rs, wpOp P ops Q i (fun a' w' => S (l.setIfInBounds i true) w' ∧ anyG P md ops Q S n (l.setIfInBounds i true) a' w') a w) : anyG P md ops Q S (n + 1) l a w :=
  ⟨fun h0 => absurd (hr ▸ h0) hne, hr ▸ h⟩
theorem anyG_done {l : Array Bool} {a : Act} {w : World} (hr : Region.ready md ops l = []) (h : Q .normal a w) : ∀ n, anyG P md ops Q S n l a w
  | 0 => ⟨hr, h⟩
  | _ + 1 => ⟨fun _ => h, by rw [hr]; simp⟩
theorem region_G {id : Nat} {a : Act} {w : World} (hm : P.follows .mixedOrders = true) (h : anyG P .any ops Q S ops.size (Array.replicate ops.size false) a w.drew) : (Code.region id ops true).wp P Q a w :=
  wp_region_any hm (anyG_any _ _ _ _ h)
/-- One that comes up. -/
theorem anyG_op {i : Nat} {o : Oper} {a : Act} {w : World} {K : Act → World → Prop} (ho : ops[i]? = some o) (h : if Region.wanted o (yielded ops a.tmps) = true then Oper.wp P o a w K Q else K (a.put o.dst undef) w) : wpOp P ops Q i K a w := by
  unfold wpOp
  simp only [ho]
  split
  · rename_i hw; rw [if_pos hw] at h; exact .inl h
  · rename_i hw; rw [if_neg hw] at h; exact h
end
end Go.Proofs.YtebkdegcifkigaaGreatDoor.P5
