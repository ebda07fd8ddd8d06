/- shape at any tree of expressions. -/
import Derived.Test.YtebkdegcifkigaaGreatDoorParShape3
namespace Go.Proofs.YtebkdegcifkigaaGreatDoor.P5
set_option maxRecDepth 20000
open Go.RowKit Go.Maps

set_option maxHeartbeats 8000000 in
theorem shape_other (w : World) {g : Nat} {k l n : Int} {s : List UInt8} {va vb vk vs vp vy : Value} (h : ExC w g k l n s va vb vk vs vp vy)
    (h6 : (k == 6) = false) (h11 : (k == 11) = false) (h10 : (k == 10) = false) (h7 : (k == 7) = false) (h8 : (k == 8) = false) (h5 : (k == 5) = false) (h12 : (k == 12) = false) (h1 : (k == 1) = false) :
    Calls Tryz.prog 16 #[pV g] w (Shapes w ([63])) := by
  have c0 := h.c0
  go_enter Tryz.func16, Tryz.ntmps16
  go_wp2_with fail
  go_ret
  exact ⟨rfl, 0, rfl⟩
theorem args_flat : ∀ X : List (List UInt8), argsT X = X.flatMap argT
  | [] => by simp [argsT]
  | x :: r => by rw [argsT, args_flat r, List.flatMap_cons]; rfl
theorem pairs_flat : ∀ (ns : List Bool) (ks xs : List (List UInt8)), pairsT ns ks xs = (ns.zip (ks.zip xs)).flatMap itemT
  | n :: ns, k :: ks, x :: xs => by
    rw [pairsT, pairs_flat ns ks xs, List.zip_cons_cons, List.zip_cons_cons, List.flatMap_cons]; rfl
  | [], _, _ => by simp [pairsT]
  | _ :: _, [], _ => by simp [pairsT]
  | _ :: _, _ :: _, [] => by simp [pairsT]
theorem nils_len : ∀ t : Tree, (nilsT t).length = lenT t
  | .cons x r => by cases x <;> simp only [nilsT, lenT, List.length_cons, nils_len r]
  | .nil => rfl
  | .tx _ => rfl
  | .ex .. => rfl
  | .st .. => rfl
theorem shapes_len : ∀ t : Tree, (shapesT t).length = lenT t
  | .cons x r => by simp only [shapesT, lenT, List.length_cons, shapes_len r]
  | .nil => by simp only [shapesT, lenT, List.length_nil]
  | .tx _ => by simp only [shapesT, lenT, List.length_nil]
  | .ex .. => by simp only [shapesT, lenT, List.length_nil]
  | .st .. => by simp only [shapesT, lenT, List.length_nil]
theorem at_drew {w : World} {S : Nat → Prop} {t : Tree} {v : Value} (h : At w S t v) (n : Nat) : At (w.drewN n) S t v := (at_keep (w := w) (w' := w.drewN n) (S := S) (S' := S) (fun _ hg => ⟨hg, rfl⟩) t).1 v h
theorem flat_mem {α : Type} (f : α → List UInt8) {P : List α} {i : Nat} {x : α} (h : P[i]? = some x) : (f x).length ≤ (P.flatMap f).length := by
  have := flat_le f P (i + 1)
  rw [flat_take f P i x h, List.length_append] at this
  omega
set_option maxHeartbeats 4000000 in
theorem shape_tree (t : Tree) : wfE t = true →
    ((shapeT t).length ≤ 1099511627776 → ∀ (w : World) (S : Nat → Prop) (v : Value), At w S t v → Calls Tryz.prog 16 #[v] w (Shapes w (shapeT t))) ∧
    (∀ (w : World) (S : Nat → Prop) (A : Option Addr) (j : Nat), RowT w S t A j → ∀ (i : Nat) (x : List UInt8), (shapesT t)[i]? = some x → ∃ g v b, A = some ⟨g, 0, none⟩ ∧ w.cell? ⟨g, j + i, none⟩ = some v ∧ (nilsT t)[i]? = some b ∧ ((b = true ∧ v = .pointer none) ∨ (b = false ∧ ∃ c, v = pV c)) ∧ (x.length ≤ 1099511627776 → ∀ n, Calls Tryz.prog 16 #[v] (w.drewN n) (Shapes (w.drewN n) x))) := by
  induction t with
  | nil =>
    intro _
    refine ⟨fun _ w S v h => ?_, fun w S A j _ i x hx => by simp [shapesT] at hx⟩
    obtain rfl : v = .pointer none := h
    simp only [shapeT]
    exact shape_nil w
  | tx s => intro h; exact absurd h (by simp [wfE])
  | st k l s a b c x y => intro h; exact absurd h (by simp [wfE])
  | cons x r ix ir =>
    intro hw
    simp only [wfE, Bool.and_eq_true] at hw
    refine ⟨fun _ w S v h => h.elim, ?_⟩
    rintro w S A j ⟨g, v, rfl, hS, hc, h1, h2⟩ i y hy
    simp only [shapesT] at hy
    match i, hy with
    | 0, hy =>
      simp only [List.getElem?_cons_zero, Option.some.injEq] at hy
      subst hy
      have hcall : (shapeT x).length ≤ 1099511627776 → ∀ n, Calls Tryz.prog 16 #[v] (w.drewN n) (Shapes (w.drewN n) (shapeT x)) := fun hl n => (ix hw.1).1 hl _ S v (at_drew h1 n)
      cases x with
      | nil => exact ⟨g, v, true, rfl, hc, by simp [nilsT], .inl ⟨rfl, h1⟩, hcall⟩
      | tx s => exact absurd hw.1 (by simp [wfE])
      | st => exact absurd hw.1 (by simp [wfE])
      | cons => exact h1.elim
      | ex k l n s a b ks xs ps bd =>
        obtain ⟨g', _, _, _, _, _, _, _, _, _, _, hv, _⟩ := h1
        exact ⟨g, v, false, rfl, hc, by simp [nilsT], .inr ⟨rfl, g', hv⟩, hcall⟩
    | i + 1, hy =>
      simp only [List.getElem?_cons_succ] at hy
      obtain ⟨g2, v2, b2, e, hc2, hb2, hd, hcall⟩ := (ir hw.2).2 w S _ _ h2 i y hy
      refine ⟨g2, v2, b2, e, by rw [show j + (i + 1) = j + 1 + i by omega]; exact hc2, ?_, hd, hcall⟩
      cases x <;> simpa only [nilsT, List.getElem?_cons_succ] using hb2
  | ex k l n s a b ks xs ps bd ia ib ik ix _ _ =>
    intro hw
    simp only [wfE, Bool.and_eq_true, Bool.or_eq_true, beq_iff_eq, bne_iff_ne] at hw
    obtain ⟨⟨⟨⟨ha, hb⟩, hk⟩, hx⟩, hle⟩ := hw
    refine ⟨?_, fun w S A j _ i x hx => by simp [shapesT] at hx⟩
    rintro hl w S v ⟨g, va, vb, Ak, ck, Ax, cx, Ap, cp, Ab, cb, rfl, hS, hc, h1, h2, h3, h4, _, _⟩
    have CA := fun hl n => (ia ha).1 hl (w.drewN n) S va (at_drew h1 n)
    have CB := fun hl n => (ib hb).1 hl (w.drewN n) S vb (at_drew h2 n)
    have CK := (ik hk).2 w S Ak 0 h3
    have CX := (ix hx).2 w S Ax 0 h4
    simp only [shapeT] at hl ⊢
    by_cases e6 : k = 6
    · subst e6
      rw [if_pos rfl]
      exact shape_name w hc
    rw [if_neg e6] at hl ⊢
    by_cases e11 : k = 11
    · subst e11
      rw [if_pos rfl] at hl ⊢
      have hl2 := hl
      simp only [List.length_append, List.length_cons, List.length_nil] at hl2
      exact shape_bin w hc (CA (by omega)) (CB (by omega)) hl
    rw [if_neg e11] at hl ⊢
    by_cases e10 : k = 10
    · subst e10
      rw [if_pos rfl] at hl ⊢
      have hl2 := hl
      simp only [List.length_append, List.length_cons, List.length_nil] at hl2
      exact shape_un w hc (CB (by omega)) hl
    rw [if_neg e10] at hl ⊢
    by_cases e7 : k = 7
    · subst e7
      rw [if_pos rfl] at hl ⊢
      have hl2 := hl
      simp only [List.length_append, List.length_cons, List.length_nil] at hl2
      exact shape_index w hc (CA (by omega)) (CB (by omega)) hl
    rw [if_neg e7] at hl ⊢
    by_cases e8 : k = 8
    · subst e8
      rw [if_pos rfl] at hl ⊢
      rw [args_flat] at hl ⊢
      have hl2 := hl
      simp only [List.length_append, List.length_cons, List.length_nil] at hl2
      rw [← shapes_len xs] at hc
      refine shape_call w hc (CA (by omega)) (fun i t ht => ?_) hl
      obtain ⟨g2, v2, b2, e, hc2, _, _, hcall⟩ := CX i t ht
      have := flat_mem argT ht
      refine ⟨g2, v2, e, by rwa [Nat.zero_add] at hc2, hcall ?_⟩
      unfold argT at this
      simp only [List.length_append, List.length_cons, List.length_nil] at this
      unfold argT at hl2
      omega
    rw [if_neg e8] at hl ⊢
    by_cases e5 : k = 5
    · subst e5
      rw [if_pos rfl] at hl ⊢
      exact shape_str w hc hl
    rw [if_neg e5] at hl ⊢
    by_cases e12 : k = 12
    · subst e12
      rw [if_pos rfl] at hl ⊢
      replace hle : lenT ks = lenT xs := hle.resolve_left (fun h => h rfl)
      have hns : (nilsT ks).length = (shapesT xs).length := by rw [nils_len, shapes_len, hle]
      rw [itemsT, if_pos hns, pairs_flat] at hl ⊢
      have hz : ((nilsT ks).zip ((shapesT ks).zip (shapesT xs))).length = lenT xs := by
        rw [List.length_zip, List.length_zip, nils_len, shapes_len, shapes_len, hle]; omega
      have hl2 := hl
      simp only [List.length_append, List.length_cons, List.length_nil] at hl2
      rw [hle, ← hz] at hc
      have hit : ∀ (i : Nat) (p : Bool × List UInt8 × List UInt8), ((nilsT ks).zip ((shapesT ks).zip (shapesT xs)))[i]? = some p → (nilsT ks)[i]? = some p.1 ∧ (shapesT ks)[i]? = some p.2.1 ∧ (shapesT xs)[i]? = some p.2.2 ∧ (itemT p).length ≤ 1099511627776 := by
        intro i p hp
        have hm := flat_mem itemT hp
        obtain ⟨q1, q2⟩ := List.getElem?_zip_eq_some.1 hp
        obtain ⟨q3, q4⟩ := List.getElem?_zip_eq_some.1 q2
        exact ⟨q1, q3, q4, by omega⟩
      refine shape_table w hc (fun i p hp => ?_) (fun i p hp => ?_) hl
      · obtain ⟨q1, q2, q3, q4⟩ := hit i p hp
        obtain ⟨g2, v2, b2, e, hc2, hb2, hd, hcall⟩ := CK i p.2.1 q2
        obtain rfl : b2 = p.1 := Option.some.inj (hb2.symm.trans q1)
        refine ⟨g2, v2, e, by rwa [Nat.zero_add] at hc2, ?_⟩
        rcases hd with hd | ⟨hd, hp2⟩
        · exact .inl hd
        · refine .inr ⟨hd, hp2, hcall ?_⟩
          unfold itemT at q4
          rw [if_neg (by rw [hd]; decide)] at q4
          simp only [List.length_append, List.length_cons, List.length_nil] at q4
          omega
      · obtain ⟨q1, q2, q3, q4⟩ := hit i p hp
        obtain ⟨g2, v2, b2, e, hc2, _, _, hcall⟩ := CX i p.2.2 q3
        refine ⟨g2, v2, e, by rwa [Nat.zero_add] at hc2, hcall ?_⟩
        unfold itemT at q4
        simp only [List.length_append, List.length_cons, List.length_nil] at q4
        omega
    rw [if_neg e12] at hl ⊢
    by_cases e1 : k = 1
    · subst e1
      rw [if_pos rfl]
      exact shape_none w hc
    rw [if_neg e1] at hl ⊢
    exact shape_other w hc (not_eq e6) (not_eq e11) (not_eq e10) (not_eq e7) (not_eq e8) (not_eq e5) (not_eq e12) (not_eq e1)
theorem shape_any (t : Tree) (h : wfE t = true) (hl : (shapeT t).length ≤ 1099511627776) (w : World) (S : Nat → Prop) (v : Value) (hv : At w S t v) : Calls Tryz.prog 16 #[v] w (Shapes w (shapeT t)) := (shape_tree t h).1 hl w S v hv
end Go.Proofs.YtebkdegcifkigaaGreatDoor.P5
