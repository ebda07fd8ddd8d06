/- What GraphKnown looks at: objects that may not be, one by one; the chapter's graph with a number that is free in a slot; a coroutine that holds itself twice. -/
import Derived.Test.YtkkdgacdajojiaaGrWorks
namespace Go.Proofs.Ytkkdgacdajojiaa
set_option maxRecDepth 20000
open Go.RowKit Go.Maps

set_option maxHeartbeats 2000000 in
theorem four_more (w : World) : Calls Try.prog 45 #[] w fun e w' => (∃ b s t : Nat, e = .returned (gV (some ⟨b, 0, none⟩) 4 4) ∧ b < w'.heap.size ∧ w.heap.size ≤ b ∧ w.heap.size ≤ s ∧ w.heap.size ≤ t ∧
    w'.heap[b]? = some (.cells #[iV 5, iV 2, .slice none 0 0, .string ⟨#[97]⟩, iV 0, iV 6, iV 1, .slice (some ⟨s, 0, none⟩) 3 3, .string ⟨#[]⟩, iV 0, iV 0, iV 0, .slice none 0 0, .string ⟨#[]⟩, iV 0, iV 9, iV 0, .slice (some ⟨t, 0, none⟩) 1 1, .string ⟨#[]⟩, iV 0] 56 (0, 0)) ∧
    w'.heap[s]? = some (.cells #[iV 5, iV 1, iV 6, iV 2, iV 3, iV 7] 24 (0, 0)) ∧ w'.heap[t]? = some (.cells #[iV 5, iV 1] 24 (0, 0))) ∧ Below w.heap.size w w' := by
  go_enter Try.func45, Try.ntmps45
  go_upto_region 1 with fail
  refine at_world (S := fun W => Below w.heap.size w W ∧ W.cell? ⟨w.heap.size, 0, none⟩ = some (.slice none 0 0) ∧ W.frozen? ⟨w.heap.size, 0, none⟩ = false ∧ w.heap.size < W.heap.size) ⟨(Below.refl _ _).alloc (Nat.le_refl _) _, by simp [go_sem], by simp [go_sem], by simp⟩ (fun V HV => ?_)
  obtain ⟨hV, c0, f0, zV⟩ := HV
  have BV := Lib.hid hV
  have BB := Lib.hid (Below.refl V.heap.size V)
  have VB : Hid (w.heap.size ≤ V.heap.size) := Nat.le_of_lt zV
  clear hV
  obtain ⟨b0, hb0⟩ : ∃ b0, b0 = w.heap.size := ⟨_, rfl⟩
  rw [← hb0] at c0 f0 zV ⊢
  have HB0 := Lib.hid hb0
  clear hb0
  go_wp2_with (first
    | (go_at_call 44; refine (of_any 5 1 (w3.alloc _)).mono ?_; rintro e w4 ⟨rfl, hb⟩; have H4 := Lib.hid hb; have B4 := Lib.hid ((B3.out.alloc B3.out.size _).trans (hb.mono (B3.out.alloc B3.out.size _).size)); have c4 := (B4.out.cell (p := ⟨b0, 0, none⟩) zV).trans c0; have f4 := (B4.out.frozen (p := ⟨b0, 0, none⟩) zV).trans f0; have z4 : b0 < w4.heap.size := Nat.lt_of_lt_of_le zV B4.out.size; clear hb)
    | (go_at_call 44; (with_reducible refine (of_any 5 1 _).mono ?_); rintro e w1 ⟨rfl, hb⟩; have B1 := Lib.hid hb; clear hb)
    | (go_at_call 44; (with_reducible refine (of_any 6 2 _).mono ?_); rintro e w2 ⟨rfl, hb⟩; have B2 := Lib.hid (B1.out.trans (hb.mono B1.out.size)); clear hb)
    | (go_at_call 44; (with_reducible refine (of_any 3 7 _).mono ?_); rintro e w3 ⟨rfl, hb⟩; have B3 := Lib.hid (B2.out.trans (hb.mono B2.out.size)); clear hb))
  refine bodyPost_ret (v := gV (some ⟨w4.heap.size + 1, 0, none⟩) 4 4) (by simp [results, Try.results45, go_sem, z4, c4]) rfl ?_
  have hsz : w.heap.size ≤ w3.heap.size := Nat.le_trans VB.out B3.out.size
  have hs34 : w3.heap.size < w4.heap.size := by have := H4.out.size; simp at this; omega
  have hb0 := HB0.out
  generalize hX : w4.setCell ⟨b0, 0, none⟩ (.slice (some ⟨w4.heap.size + 1, 0, none⟩) 4 4) = X
  have sX : X.heap.size = w4.heap.size := by rw [← hX]; simp
  have hX3 : X.heap[w3.heap.size]? = some (.cells #[iV 5, iV 1, iV 6, iV 2, iV 3, iV 7] 24 (0, 0)) := by
    rw [← hX, heap_set_ne _ _ _ (by show w3.heap.size ≠ b0; have := B3.out.size; omega)]
    exact (H4.out.block _ (by simp)).trans (Go.MapKept.heap_alloc w3 _).1
  have BX : Below w.heap.size w X := by
    rw [← hX]
    exact (BV.out.trans (B4.out.mono BV.out.size)).setCell (by show w.heap.size ≤ b0; omega) _
  refine ⟨⟨w4.heap.size + 1, w3.heap.size, w4.heap.size, rfl, by simp [sX], by omega, hsz, by omega, ?_, ?_, ?_⟩, ?_⟩
  · rw [← sX]
    exact (show _ = _ by rw [show X.heap.size + 1 = (X.alloc (.cells #[iV 5, iV 1] 24 (0, 0))).heap.size by simp]; exact (Go.MapKept.heap_alloc _ _).1)
  · rw [Below.heap_alloc _ _ _ (by simp [sX]; omega), Below.heap_alloc _ _ _ (by rw [sX]; omega)]
    exact hX3
  · rw [Below.heap_alloc _ _ _ (by simp [sX]), ← sX]
    exact (Go.MapKept.heap_alloc X _).1
  · exact (BX.alloc BX.size _).alloc (BX.alloc BX.size _).size _
/-- The objects that may not be. -/
def badL : List OB := [⟨4, 0, [], ⟨#[]⟩, 0⟩, ⟨10, 0, [], ⟨#[]⟩, 0⟩, ⟨0, 1, [], ⟨#[]⟩, 0⟩, ⟨0, 0, [], ⟨#[120]⟩, 0⟩, ⟨0, 0, [], ⟨#[]⟩, 1⟩, ⟨0, 0, [(3, 1)], ⟨#[]⟩, 0⟩, ⟨6, -1, [], ⟨#[]⟩, 0⟩, ⟨6, 0, [], ⟨#[]⟩, -2⟩, ⟨6, 0, [], ⟨#[120]⟩, 0⟩, ⟨5, 0, [(3, 1)], ⟨#[]⟩, 0⟩, ⟨6, 0, [(0, 0)], ⟨#[]⟩, 0⟩, ⟨6, 0, [(6, 2)], ⟨#[]⟩, 0⟩, ⟨6, 0, [(7, 1)], ⟨#[]⟩, 0⟩, ⟨6, 0, [(2, 2)], ⟨#[]⟩, 0⟩, ⟨6, 0, [(6, 0)], ⟨#[]⟩, 0⟩]
theorem bad_all : (badL.all fun o => !checkB [o]) = true := by kernel_rfl
theorem bad_one {i : Nat} {o : OB} (h : badL[i]? = some o) : checkB [o] = false := by
  have := List.all_eq_true.1 bad_all o (List.mem_of_getElem? h)
  simpa using this
theorem graph_one {w : World} {o : OB} {sA : Option Addr} {sc : Nat} (hs : SlotsAt w o sA) : GAt (w.alloc (.cells #[iV o.kind, iV o.count, .slice sA o.slots.length sc, .string o.text, iV o.mark] 56 (0, 0))) (some ⟨w.heap.size, 0, none⟩) [o] := by
  intro i p hp
  match i, hp with
  | 0, hp =>
    injection hp with hp
    subst hp
    exact ⟨_, sA, sc, rfl, by simp, ⟨by simp [Addr.add, go_sem], by simp [Addr.add, go_sem], by simp [Addr.add, go_sem], by simp [Addr.add, go_sem], by simp [Addr.add, go_sem]⟩, hs.below ((Below.refl _ _).alloc (Nat.le_refl _) _)⟩
  | j + 1, hp => simp at hp
/-- The coroutine that holds itself twice. -/
def coL : List OB := [⟨8, 0, [(8, 1), (8, 1), (1, 0)], ⟨#[]⟩, -1⟩]
theorem co_check : checkB coL = true := by kernel_rfl
theorem co_into : intoL coL = [2] := by kernel_rfl
theorem co_exact : exactL coL [] = [1] := by kernel_rfl
theorem co_hold : holdersL coL 1 = [1] := by kernel_rfl
theorem four_hold3 : holdersL fourL 3 = [] := by kernel_rfl
theorem four_holdm : holdersL fourL (-1) = [] := by kernel_rfl
theorem four_hold99 : holdersL fourL 99 = [] := by kernel_rfl
def fourK : List OB := [⟨5, 2, [], ⟨#[97]⟩, 0⟩, ⟨6, 1, [(5, 1), (6, 2), (3, 7)], ⟨#[]⟩, 0⟩, ⟨0, 0, [], ⟨#[]⟩, 0⟩, ⟨9, 0, [(9, 3)], ⟨#[]⟩, 0⟩]
theorem four_worse : checkB fourK = false := by kernel_rfl
/-- The chapter's graph, behind a store into its last object's slot. -/
theorem FourAt.last_set {w : World} {b s t : Nat} (h : FourAt w b s t 3 7) (h1 : t ≠ b) (h2 : t ≠ s) : GAt ((w.setCell ⟨t, 0, none⟩ (iV 9)).setCell ⟨t, 1, none⟩ (iV 3)) (some ⟨b, 0, none⟩) fourK := by
  have o := fun (k : Nat) (hk : k ≠ t) => (heap_set_ne (w.setCell ⟨t, 0, none⟩ (iV 9)) ⟨t, 1, none⟩ (iV 3) (k := k) hk).trans (heap_set_ne w ⟨t, 0, none⟩ (iV 9) (k := k) hk)
  have e := heap_setCell_same w t 0 _ _ (iV 9) h.last
  have e2 := heap_setCell_same (w.setCell ⟨t, 0, none⟩ (iV 9)) t 1 _ _ (iV 3) e
  generalize (w.setCell ⟨t, 0, none⟩ (iV 9)).setCell ⟨t, 1, none⟩ (iV 3) = W at *
  have hs := (o s (Ne.symm h2)).trans h.two
  have ho := (o b (Ne.symm h1)).trans h.objs
  have hp : PairsAt W (some ⟨s, 0, none⟩) [(5, 1), (6, 2), (3, 7)] := pairs_block (cs := [iV 5, iV 1, iV 6, iV 2, iV 3, iV 7]) hs (fun i p hp => by
    match i, hp with
    | 0, hp => injection hp with hp; subst hp; exact ⟨rfl, rfl⟩
    | 1, hp => injection hp with hp; subst hp; exact ⟨rfl, rfl⟩
    | 2, hp => injection hp with hp; subst hp; exact ⟨rfl, rfl⟩
    | j + 3, hp => simp at hp)
  have hq : PairsAt W (some ⟨t, 0, none⟩) [(9, 3)] := pairs_block (cs := [iV 9, iV 3]) e2 (fun i p hp => by
    match i, hp with
    | 0, hp => injection hp with hp; subst hp; exact ⟨rfl, rfl⟩
    | j + 1, hp => simp at hp)
  have hz : PairsAt W none [] := fun i p hp => by simp at hp
  have hl := at_lt ho
  have cell : ∀ j, W.cell? ⟨b, j, none⟩ = (#[iV 5, iV 2, .slice none 0 0, .string ⟨#[97]⟩, iV 0, iV 6, iV 1, .slice (some ⟨s, 0, none⟩) 3 3, .string ⟨#[]⟩, iV 0, iV 0, iV 0, .slice none 0 0, .string ⟨#[]⟩, iV 0, iV 9, iV 0, .slice (some ⟨t, 0, none⟩) 1 1, .string ⟨#[]⟩, iV 0] : Array Value)[j]? := fun j => by simp [World.cell?, ho]
  intro i o hi
  match i, hi with
  | 0, hi => injection hi with hi; subst hi; exact ⟨_, none, 0, rfl, hl, ⟨cell 0, cell 1, cell 2, cell 3, cell 4⟩, hz, by simp⟩
  | 1, hi => injection hi with hi; subst hi; exact ⟨_, some ⟨s, 0, none⟩, 3, rfl, hl, ⟨cell 5, cell 6, cell 7, cell 8, cell 9⟩, hp, by simp⟩
  | 2, hi => injection hi with hi; subst hi; exact ⟨_, none, 0, rfl, hl, ⟨cell 10, cell 11, cell 12, cell 13, cell 14⟩, hz, by simp⟩
  | 3, hi => injection hi with hi; subst hi; exact ⟨_, some ⟨t, 0, none⟩, 1, rfl, hl, ⟨cell 15, cell 16, cell 17, cell 18, cell 19⟩, hq, by simp⟩
  | j + 4, hi =>
    have hlen : fourK.length = 4 := rfl
    rw [List.getElem?_eq_none (by omega)] at hi
    cases hi
/-- The row of the objects that may not be. -/
theorem bad_graph {w : World} {b s1 s2 s3 s4 s5 s6 s7 : Nat} (ho : w.heap[b]? = some (.cells #[iV 4, iV 0, .slice none 0 0, .string ⟨#[]⟩, iV 0, iV 10, iV 0, .slice none 0 0, .string ⟨#[]⟩, iV 0, iV 0, iV 1, .slice none 0 0, .string ⟨#[]⟩, iV 0, iV 0, iV 0, .slice none 0 0, .string ⟨#[120]⟩, iV 0, iV 0, iV 0, .slice none 0 0, .string ⟨#[]⟩, iV 1, iV 0, iV 0, .slice (some ⟨s1, 0, none⟩) 1 1, .string ⟨#[]⟩, iV 0, iV 6, iV (-1), .slice none 0 0, .string ⟨#[]⟩, iV 0, iV 6, iV 0, .slice none 0 0, .string ⟨#[]⟩, iV (-2), iV 6, iV 0, .slice none 0 0, .string ⟨#[120]⟩, iV 0, iV 5, iV 0, .slice (some ⟨s2, 0, none⟩) 1 1, .string ⟨#[]⟩, iV 0, iV 6, iV 0, .slice (some ⟨s3, 0, none⟩) 1 1, .string ⟨#[]⟩, iV 0, iV 6, iV 0, .slice (some ⟨s4, 0, none⟩) 1 1, .string ⟨#[]⟩, iV 0, iV 6, iV 0, .slice (some ⟨s5, 0, none⟩) 1 1, .string ⟨#[]⟩, iV 0, iV 6, iV 0, .slice (some ⟨s6, 0, none⟩) 1 1, .string ⟨#[]⟩, iV 0, iV 6, iV 0, .slice (some ⟨s7, 0, none⟩) 1 1, .string ⟨#[]⟩, iV 0] 56 (0, 0)))
    (h1 : PairsAt w (some ⟨s1, 0, none⟩) [(3, 1)]) (h2 : PairsAt w (some ⟨s2, 0, none⟩) [(3, 1)]) (h3 : PairsAt w (some ⟨s3, 0, none⟩) [(0, 0)]) (h4 : PairsAt w (some ⟨s4, 0, none⟩) [(6, 2)]) (h5 : PairsAt w (some ⟨s5, 0, none⟩) [(7, 1)]) (h6 : PairsAt w (some ⟨s6, 0, none⟩) [(2, 2)]) (h7 : PairsAt w (some ⟨s7, 0, none⟩) [(6, 0)]) : GAt w (some ⟨b, 0, none⟩) badL := by
  have hl := at_lt ho
  have hz : PairsAt w none [] := fun i p hp => by simp at hp
  obtain ⟨arr, hA⟩ : ∃ arr : Array Value, arr = #[iV 4, iV 0, .slice none 0 0, .string ⟨#[]⟩, iV 0, iV 10, iV 0, .slice none 0 0, .string ⟨#[]⟩, iV 0, iV 0, iV 1, .slice none 0 0, .string ⟨#[]⟩, iV 0, iV 0, iV 0, .slice none 0 0, .string ⟨#[120]⟩, iV 0, iV 0, iV 0, .slice none 0 0, .string ⟨#[]⟩, iV 1, iV 0, iV 0, .slice (some ⟨s1, 0, none⟩) 1 1, .string ⟨#[]⟩, iV 0, iV 6, iV (-1), .slice none 0 0, .string ⟨#[]⟩, iV 0, iV 6, iV 0, .slice none 0 0, .string ⟨#[]⟩, iV (-2), iV 6, iV 0, .slice none 0 0, .string ⟨#[120]⟩, iV 0, iV 5, iV 0, .slice (some ⟨s2, 0, none⟩) 1 1, .string ⟨#[]⟩, iV 0, iV 6, iV 0, .slice (some ⟨s3, 0, none⟩) 1 1, .string ⟨#[]⟩, iV 0, iV 6, iV 0, .slice (some ⟨s4, 0, none⟩) 1 1, .string ⟨#[]⟩, iV 0, iV 6, iV 0, .slice (some ⟨s5, 0, none⟩) 1 1, .string ⟨#[]⟩, iV 0, iV 6, iV 0, .slice (some ⟨s6, 0, none⟩) 1 1, .string ⟨#[]⟩, iV 0, iV 6, iV 0, .slice (some ⟨s7, 0, none⟩) 1 1, .string ⟨#[]⟩, iV 0] := ⟨_, rfl⟩
  rw [← hA] at ho
  have cell : ∀ j, w.cell? ⟨b, j, none⟩ = arr[j]? := fun j => by simp [World.cell?, ho]
  intro i o hi
  match i, hi with
  | 0, hi => injection hi with hi; subst hi; exact ⟨_, none, 0, rfl, hl, ⟨(cell 0).trans (by rw [hA]; rfl), (cell 1).trans (by rw [hA]; rfl), (cell 2).trans (by rw [hA]; rfl), (cell 3).trans (by rw [hA]; rfl), (cell 4).trans (by rw [hA]; rfl)⟩, hz, by simp⟩
  | 1, hi => injection hi with hi; subst hi; exact ⟨_, none, 0, rfl, hl, ⟨(cell 5).trans (by rw [hA]; rfl), (cell 6).trans (by rw [hA]; rfl), (cell 7).trans (by rw [hA]; rfl), (cell 8).trans (by rw [hA]; rfl), (cell 9).trans (by rw [hA]; rfl)⟩, hz, by simp⟩
  | 2, hi => injection hi with hi; subst hi; exact ⟨_, none, 0, rfl, hl, ⟨(cell 10).trans (by rw [hA]; rfl), (cell 11).trans (by rw [hA]; rfl), (cell 12).trans (by rw [hA]; rfl), (cell 13).trans (by rw [hA]; rfl), (cell 14).trans (by rw [hA]; rfl)⟩, hz, by simp⟩
  | 3, hi => injection hi with hi; subst hi; exact ⟨_, none, 0, rfl, hl, ⟨(cell 15).trans (by rw [hA]; rfl), (cell 16).trans (by rw [hA]; rfl), (cell 17).trans (by rw [hA]; rfl), (cell 18).trans (by rw [hA]; rfl), (cell 19).trans (by rw [hA]; rfl)⟩, hz, by simp⟩
  | 4, hi => injection hi with hi; subst hi; exact ⟨_, none, 0, rfl, hl, ⟨(cell 20).trans (by rw [hA]; rfl), (cell 21).trans (by rw [hA]; rfl), (cell 22).trans (by rw [hA]; rfl), (cell 23).trans (by rw [hA]; rfl), (cell 24).trans (by rw [hA]; rfl)⟩, hz, by simp⟩
  | 5, hi => injection hi with hi; subst hi; exact ⟨_, some ⟨s1, 0, none⟩, 1, rfl, hl, ⟨(cell 25).trans (by rw [hA]; rfl), (cell 26).trans (by rw [hA]; rfl), (cell 27).trans (by rw [hA]; rfl), (cell 28).trans (by rw [hA]; rfl), (cell 29).trans (by rw [hA]; rfl)⟩, h1, by simp⟩
  | 6, hi => injection hi with hi; subst hi; exact ⟨_, none, 0, rfl, hl, ⟨(cell 30).trans (by rw [hA]; rfl), (cell 31).trans (by rw [hA]; rfl), (cell 32).trans (by rw [hA]; rfl), (cell 33).trans (by rw [hA]; rfl), (cell 34).trans (by rw [hA]; rfl)⟩, hz, by simp⟩
  | 7, hi => injection hi with hi; subst hi; exact ⟨_, none, 0, rfl, hl, ⟨(cell 35).trans (by rw [hA]; rfl), (cell 36).trans (by rw [hA]; rfl), (cell 37).trans (by rw [hA]; rfl), (cell 38).trans (by rw [hA]; rfl), (cell 39).trans (by rw [hA]; rfl)⟩, hz, by simp⟩
  | 8, hi => injection hi with hi; subst hi; exact ⟨_, none, 0, rfl, hl, ⟨(cell 40).trans (by rw [hA]; rfl), (cell 41).trans (by rw [hA]; rfl), (cell 42).trans (by rw [hA]; rfl), (cell 43).trans (by rw [hA]; rfl), (cell 44).trans (by rw [hA]; rfl)⟩, hz, by simp⟩
  | 9, hi => injection hi with hi; subst hi; exact ⟨_, some ⟨s2, 0, none⟩, 1, rfl, hl, ⟨(cell 45).trans (by rw [hA]; rfl), (cell 46).trans (by rw [hA]; rfl), (cell 47).trans (by rw [hA]; rfl), (cell 48).trans (by rw [hA]; rfl), (cell 49).trans (by rw [hA]; rfl)⟩, h2, by simp⟩
  | 10, hi => injection hi with hi; subst hi; exact ⟨_, some ⟨s3, 0, none⟩, 1, rfl, hl, ⟨(cell 50).trans (by rw [hA]; rfl), (cell 51).trans (by rw [hA]; rfl), (cell 52).trans (by rw [hA]; rfl), (cell 53).trans (by rw [hA]; rfl), (cell 54).trans (by rw [hA]; rfl)⟩, h3, by simp⟩
  | 11, hi => injection hi with hi; subst hi; exact ⟨_, some ⟨s4, 0, none⟩, 1, rfl, hl, ⟨(cell 55).trans (by rw [hA]; rfl), (cell 56).trans (by rw [hA]; rfl), (cell 57).trans (by rw [hA]; rfl), (cell 58).trans (by rw [hA]; rfl), (cell 59).trans (by rw [hA]; rfl)⟩, h4, by simp⟩
  | 12, hi => injection hi with hi; subst hi; exact ⟨_, some ⟨s5, 0, none⟩, 1, rfl, hl, ⟨(cell 60).trans (by rw [hA]; rfl), (cell 61).trans (by rw [hA]; rfl), (cell 62).trans (by rw [hA]; rfl), (cell 63).trans (by rw [hA]; rfl), (cell 64).trans (by rw [hA]; rfl)⟩, h5, by simp⟩
  | 13, hi => injection hi with hi; subst hi; exact ⟨_, some ⟨s6, 0, none⟩, 1, rfl, hl, ⟨(cell 65).trans (by rw [hA]; rfl), (cell 66).trans (by rw [hA]; rfl), (cell 67).trans (by rw [hA]; rfl), (cell 68).trans (by rw [hA]; rfl), (cell 69).trans (by rw [hA]; rfl)⟩, h6, by simp⟩
  | 14, hi => injection hi with hi; subst hi; exact ⟨_, some ⟨s7, 0, none⟩, 1, rfl, hl, ⟨(cell 70).trans (by rw [hA]; rfl), (cell 71).trans (by rw [hA]; rfl), (cell 72).trans (by rw [hA]; rfl), (cell 73).trans (by rw [hA]; rfl), (cell 74).trans (by rw [hA]; rfl)⟩, h7, by simp⟩
  | j + 15, hi =>
    have hlen : badL.length = 15 := rfl
    rw [List.getElem?_eq_none (by omega)] at hi
    cases hi
end Go.Proofs.Ytkkdgacdajojiaa
