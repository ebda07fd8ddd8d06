/- tallowlaw12.four: the chapter's graph. -/
import Derived.Test.YtjlobjgemhapaaaTrTab
import Derived.Test.YtjlobjgemhapaaaTrB
namespace Go.Proofs.Ytjlobjgemhapaaa
set_option maxRecDepth 20000
open Go.RowKit Go.Maps Go.Sort Go.Shelf

def tabT (c : Int) (l : List Int) (m : Int) : OB := ⟨6, c, l.map fun x => (6, x), ⟨#[]⟩, m⟩
/-- The chapter's graph. -/
def fourT : List OB := [tabT 1 [2] 0, tabT 1 [1, 3] 0, tabT 1 [] 0, tabT 1 [4] 0]
theorem HAt.setMark {w0 w : World} {b : Nat} {h : List OB} (H : HAt w0 w b h) {i : Nat} {o : OB} (ho : h[i]? = some o) (x : Int) : HAt w0 (w.setCell ⟨b, i * 5 + 4, none⟩ (iV x)) b (h.set i { o with mark := x }) := by
  obtain ⟨h1, h2, h3⟩ := H
  have e : ∀ j, j ≠ i * 5 + 4 → (w.setCell ⟨b, i * 5 + 4, none⟩ (iV x)).cell? ⟨b, j, none⟩ = w.cell? ⟨b, j, none⟩ := fun j hj => World.cell?_setCell_other _ _ _ _ (by intro e; injection e with _ e; exact hj e.symm)
  refine ⟨h1, fun j => by rw [World.frozen?_setCell]; exact h2 j, fun k p hp => ?_⟩
  by_cases hk : k = i
  · subst hk
    obtain ⟨sA, sc, ⟨c0, c1, c2, c3, c4⟩, hs⟩ := h3 k o ho
    rw [List.getElem?_set_self (List.getElem?_eq_some_iff.1 ho).1] at hp
    injection hp with hp
    subst hp
    exact ⟨sA, sc, ⟨(e _ (by omega)).trans c0, (e _ (by simp)).trans c1, (e _ (by simp)).trans c2, (e _ (by simp)).trans c3, World.cell?_setCell_same _ _ _ c4⟩, hs⟩
  · rw [List.getElem?_set_ne (Ne.symm hk)] at hp
    obtain ⟨sA, sc, ⟨c0, c1, c2, c3, c4⟩, hs⟩ := h3 k p hp
    exact ⟨sA, sc, ⟨(e _ (by omega)).trans c0, (e _ (by show k * 5 + 1 ≠ _; omega)).trans c1, (e _ (by show k * 5 + 2 ≠ _; omega)).trans c2, (e _ (by show k * 5 + 3 ≠ _; omega)).trans c3, (e _ (by show k * 5 + 4 ≠ _; omega)).trans c4⟩, hs⟩
theorem ints_lit (l : List Int) (w : World) (T : TypeId) : IntsAt (w.alloc (.cells (l.map (Value.int .i64)).toArray T (0, 0))) (some ⟨w.heap.size, 0, none⟩) l := fun i x hx =>
  ⟨_, rfl, by simp, lit_cells12 (l := l.map (Value.int .i64)) i _ (by simp [hx])⟩
theorem tab_at (l : List Int) (hl : l.length ≤ 1000) (n d : Nat) (hn : n = l.length) {w : World} {B : Option Addr} (hB : IntsAt w B l) (cnt : Int) :
    Calls Try.prog 24 #[iV cnt, .slice B n d] w fun e w' => ∃ A c, e = .returned (.agg #[iV 6, iV cnt, .slice A n c, .string ⟨#[]⟩, iV 0]) ∧ PairsAt w' A (l.map fun x => (6, x)) ∧ Below w.heap.size w w' ∧ ∀ a, A = some a → w.heap.size ≤ a.block := by
  subst hn; exact tab12_any hl hB cnt
theorem pairs_set {w : World} {A : Option Addr} {l : List (Int × Int)} (h : PairsAt w A l) {p : Addr} (hp : ∀ a, A = some a → p.block ≠ a.block) (v : Value) : PairsAt (w.setCell p v) A l := fun i q hq => by
  obtain ⟨ad, e, hl, c0, c1⟩ := h i q hq
  have hne := hp ad e
  exact ⟨ad, e, by simpa using hl, (World.cell?_setCell_far _ _ _ _ (by rw [Go.ChangeShapes.block_add]; exact hne)).trans c0, (World.cell?_setCell_far _ _ _ _ (by rw [Go.ChangeShapes.block_add, Go.ChangeShapes.block_add]; exact hne)).trans c1⟩
theorem four_hat {w0 : World} {A1 A2 A3 A4 : Option Addr} {c1 c2 c3 c4 : Nat} (P1 : PairsAt w0 A1 [(6, 2)]) (P2 : PairsAt w0 A2 [(6, 1), (6, 3)]) (P3 : PairsAt w0 A3 []) (P4 : PairsAt w0 A4 [(6, 4)]) :
    HAt w0 (w0.alloc (.cells #[iV 6, iV 1, .slice A1 1 c1, .string ⟨#[]⟩, iV 0, iV 6, iV 1, .slice A2 2 c2, .string ⟨#[]⟩, iV 0, iV 6, iV 1, .slice A3 0 c3, .string ⟨#[]⟩, iV 0, iV 6, iV 1, .slice A4 1 c4, .string ⟨#[]⟩, iV 0] 38 (0, 0))) w0.heap.size fourT := by
  refine ⟨Nat.le_refl _, fun j => frozen_new12 _ _ _ _, fun i o ho => ?_⟩
  match i, ho with
  | 0, ho => injection ho with ho; subst ho; exact ⟨A1, c1, ⟨by simp [go_sem, tabT], by simp [go_sem, tabT], by simp [go_sem, tabT], by simp [go_sem, tabT], by simp [go_sem, tabT]⟩, P1, by simp [tabT]⟩
  | 1, ho => injection ho with ho; subst ho; exact ⟨A2, c2, ⟨by simp [go_sem, tabT], by simp [go_sem, tabT], by simp [go_sem, tabT], by simp [go_sem, tabT], by simp [go_sem, tabT]⟩, P2, by simp [tabT]⟩
  | 2, ho => injection ho with ho; subst ho; exact ⟨A3, c3, ⟨by simp [go_sem, tabT], by simp [go_sem, tabT], by simp [go_sem, tabT], by simp [go_sem, tabT], by simp [go_sem, tabT]⟩, P3, by simp [tabT]⟩
  | 3, ho => injection ho with ho; subst ho; exact ⟨A4, c4, ⟨by simp [go_sem, tabT], by simp [go_sem, tabT], by simp [go_sem, tabT], by simp [go_sem, tabT], by simp [go_sem, tabT]⟩, P4, by simp [tabT]⟩
  | _ + 4, ho => simp [fourT] at ho
set_option maxHeartbeats 4000000 in
theorem four_any (w : World) : Calls Try.prog 25 #[] w fun e w' => ∃ b, e = .returned (gV (some ⟨b, 0, none⟩) 4 4) ∧ w.heap.size ≤ b ∧ (∃ w0, Below w.heap.size w w0 ∧ Below w0.heap.size w0 w' ∧ HAt w0 w' b fourT) ∧ Below w.heap.size w w' := by
  go_enter Try.func25, Try.ntmps25
  go_wp2_with (first
    | (go_at_call 24; have HH := tab_at [4] (by decide) 1 1 rfl (ints_lit [4] w3 2) 1; (refine HH.mono ?_); clear HH; rintro e w4 ⟨A4, c4, rfl, hp4, hb4, hl4⟩; have L4 := Lib.hid hl4; clear hl4; have X4 := below_box hb4; have P4 := Lib.hid hp4; have B4 : Hid (Below w.heap.size w w4) := B3.out.trans (X4.mono B3.out.size); have Q1 := Lib.hid (pairs_below P3a.out X4); have Q2 := Lib.hid (pairs_below P3b.out X4); have Q3 := Lib.hid (pairs_below P3c.out X4); have y4 := (X4.cell (p := ⟨w.heap.size, 0, none⟩) z3).trans y3; have f4 := (X4.frozen (p := ⟨w.heap.size, 0, none⟩) z3).trans f3; have z4 := Nat.lt_of_lt_of_le z3 X4.size; clear hb4 hp4 X4)
    | (go_at_call 24; have HH := tab_at [] (by decide) 0 0 rfl (w := w2) (B := none) (fun i x hx => by simp at hx) 1; (refine HH.mono ?_); clear HH; rintro e w3 ⟨A3, c3, rfl, hp3, hb3, hl3⟩; have L3 := Lib.hid hl3; clear hl3; have P3c := Lib.hid hp3; have B3 : Hid (Below w.heap.size w w3) := B2.out.trans (hb3.mono B2.out.size); have P3a := Lib.hid (pairs_below P2a.out hb3); have P3b := Lib.hid (pairs_below P2b.out hb3); have y3 := (hb3.cell (p := ⟨w.heap.size, 0, none⟩) z2).trans y2; have f3 := (hb3.frozen (p := ⟨w.heap.size, 0, none⟩) z2).trans f2; have z3 := Nat.lt_of_lt_of_le z2 hb3.size; clear hb3 hp3)
    | (go_at_call 24; have HH := tab_at [1, 3] (by decide) 2 2 rfl (ints_lit [1, 3] w1 2) 1; (refine HH.mono ?_); clear HH; rintro e w2 ⟨A2, c2, rfl, hp2, hb2, hl2⟩; have L2 := Lib.hid hl2; clear hl2; have X2 := below_box hb2; have P2b := Lib.hid hp2; have B2 : Hid (Below w.heap.size w w2) := B1.out.trans (X2.mono B1.out.size); have P2a := Lib.hid (pairs_below P1a.out X2); have y2 := (X2.cell (p := ⟨w.heap.size, 0, none⟩) z1).trans y1; have f2 := (X2.frozen (p := ⟨w.heap.size, 0, none⟩) z1).trans f1; have z2 := Nat.lt_of_lt_of_le z1 X2.size; clear hb2 hp2 X2)
    | (go_at_call 24; have HH := tab_at [2] (by decide) 1 1 rfl (ints_lit [2] (w.alloc (.cells #[.slice none 0 0] 24 (0, 0))) 2) 1; rw [show (w.alloc (Obj.cells #[Value.slice none 0 0] 24 (0, 0))).heap.size = w.heap.size + 1 by simp] at HH; (refine HH.mono ?_); clear HH; rintro e w1 ⟨A1, c1, rfl, hp1, hb1, hl1⟩; have L1 := Lib.hid hl1; clear hl1; have X1 := below_box hb1; have P1a := Lib.hid hp1; have y1 := boxed X1 (j := 0) rfl; have f1 : w1.frozen? ⟨w.heap.size, 0, none⟩ = false := (X1.frozen (p := ⟨w.heap.size, 0, none⟩) (by simp)).trans (frozen_new12 _ _ _ _); have z1 : w.heap.size < w1.heap.size := World.block_lt_of_cell? w1 _ y1; have B1 := Lib.hid (below_box X1); clear hb1 hp1 X1))
  have b1 := B1.out.size
  have b3 := B3.out.size
  have b2 := B2.out.size
  have S1 := pairs_set Q1.out (p := ⟨w.heap.size, 0, none⟩) (fun a ha => by have := L1.out a ha; simp at this; show w.heap.size ≠ _; omega) (.slice (some ⟨w4.heap.size, 0, none⟩) 4 4)
  have S2 := pairs_set Q2.out (p := ⟨w.heap.size, 0, none⟩) (fun a ha => by have := L2.out a ha; simp at this; show w.heap.size ≠ _; omega) (.slice (some ⟨w4.heap.size, 0, none⟩) 4 4)
  have S3 := pairs_set Q3.out (p := ⟨w.heap.size, 0, none⟩) (fun a ha => by have := L3.out a ha; show w.heap.size ≠ _; omega) (.slice (some ⟨w4.heap.size, 0, none⟩) 4 4)
  have S4 := pairs_set P4.out (p := ⟨w.heap.size, 0, none⟩) (fun a ha => by have := L4.out a ha; simp at this; show w.heap.size ≠ _; omega) (.slice (some ⟨w4.heap.size, 0, none⟩) 4 4)
  have HH := four_hat (c1 := c1) (c2 := c2) (c3 := c3) (c4 := c4) S1 S2 S3 S4
  have e4 : (w4.setCell ⟨w.heap.size, 0, none⟩ (.slice (some ⟨w4.heap.size, 0, none⟩) 4 4)).heap.size = w4.heap.size := by simp
  rw [e4] at HH
  have BS : Below w.heap.size w (w4.setCell ⟨w.heap.size, 0, none⟩ (.slice (some ⟨w4.heap.size, 0, none⟩) 4 4)) := B4.out.setCell (Nat.le_refl _) _
  refine bodyPost_ret (v := gV (some ⟨w4.heap.size, 0, none⟩) 4 4) (by simp [results, Try.results25, go_sem, y4, z4]) rfl ?_
  exact ⟨w4.heap.size, rfl, B4.out.size, ⟨_, BS, (Below.refl _ _).alloc (Nat.le_refl _) _, HH⟩, BS.alloc BS.size _⟩
end Go.Proofs.Ytjlobjgemhapaaa
