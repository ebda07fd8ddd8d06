/- inFunction: a new function is gone through. -/
import Derived.Test.YtlbbbfmnghcdnaaScDuring
namespace Go.Proofs.Ytlbbbfmnghcdnaa
set_option maxRecDepth 20000
open Go.RowKit Go.Maps

theorem fun_info : (Try.prog.info? 68).map (fun i => (i.zero, i.size, i.bytes)) = some (some (.pointer none), 1, 8) := by kernel_rfl
/-- The new function's place. -/
def newG (H : Nat) : Gh := ⟨H + 2, fun _ => 0, .slice none 0 0, .slice none 0 0, .slice none 0 0, .slice none 0 0, H, H + 1, 0, 0⟩
def newT (T : Own) (n H : Nat) : Own := ((T.put H (.named n)).put (H + 1) (.places n)).put (H + 2) (.fn n)
def newW (w : World) (ar : Value) (Y : TypeId) : World := ((w.alloc (.map #[] 0)).alloc (.map #[] 0)).alloc (.cells #[.slice none 0 0, .slice none 0 0, .map (some w.heap.size), ar, .int .i64 0, .slice none 0 0, .slice none 0 0, .map (some (w.heap.size + 1))] Y)
theorem newW_size (w : World) (ar : Value) (Y : TypeId) : (newW w ar Y).heap.size = w.heap.size + 3 := by simp [newW]
theorem newT_old {T : Own} {n H k : Nat} (hk : k < H) : newT T n H k = T k := by
  unfold newT
  rw [Own.put_other (by omega), Own.put_other (by omega), Own.put_other (by omega)]
theorem newW_old {w : World} {ar : Value} {Y : TypeId} {k : Nat} (hk : k < w.heap.size) : (newW w ar Y).heap[k]? = w.heap[k]? := by
  unfold newW
  exact (Below.heap_alloc _ _ _ (by simp; omega)).trans ((Below.heap_alloc _ _ _ (by simp; omega)).trans (Below.heap_alloc _ _ _ hk))
theorem newW_turn (S : Tag → Prop) (T : Own) (w : World) (n : Nat) (ar : Value) (Y : TypeId) : Turn S T w (newT T n w.heap.size) (newW w ar Y) :=
  ⟨rfl, rfl, rfl, by rw [newW_size]; omega, fun k hk => newT_old hk, fun k hk _ => newW_old hk⟩
theorem newFn (w : World) (T : Own) (lo n : Nat) (ar : Value) (Y : TypeId) : FnAt (newW w ar Y) (newT T n w.heap.size) lo n (newG w.heap.size) FnS.new ∧ (newW w ar Y).cell? ⟨w.heap.size + 2, 3, none⟩ = some ar := by
  have hm : MapP (newW w ar Y) w.heap.size 0 fun _ => none := ((MapP.made w).keep (w' := newW w ar Y) (by unfold newW; exact (Below.heap_alloc _ _ _ (by simp; omega)).trans (Below.heap_alloc _ _ _ (by simp))))
  have hq : MapI (newW w ar Y) (w.heap.size + 1) 0 fun _ => none := by
    have := MapI.made (w.alloc (.map #[] 0))
    simp only [World.size_alloc] at this
    exact this.keep (by unfold newW; exact Below.heap_alloc _ _ _ (by simp))
  refine ⟨⟨⟨by simp [newT, newG, Own.put], by simp [newW, newG, go_sem], by simp [newW, newG, go_sem], by simp [newW, newG, go_sem], by simp [newW, newG, go_sem], by simp [newW, newG, go_sem], by simp [newW, newG, go_sem], fun o => by simp [newW, newG, go_sem]⟩, RowC.nil _ _ _ _ _ _, RowC.nil _ _ _ _ _ _, ⟨fun i l h => by simp [FnS.new] at h, fun j i h => by simp [FnS.new] at h, fun i h => by simp [FnS.new] at h⟩, hm, by simp [newT, newG, Own.put], RowC.nil _ _ _ _ _ _, RowC.nil _ _ _ _ _ _, hq, by simp [newT, newG, Own.put], fun u h => by simp [FnS.new] at h, by simp [FnS.new], by simp [FnS.new], by simp [FnS.new], by simp [FnS.new], by simp [FnS.new, newG], by simp [newG], fun l h => by simp [FnS.new] at h⟩, by simp [newW, go_sem]⟩
theorem fnsV_more {G : Nat → Gh} {k : Nat} {g : Gh} : fnsV (updG G k g) (k + 1) = fnsV G k ++ [pV g.b] := by
  unfold fnsV
  rw [List.range_succ, List.map_append]
  congr 1
  · exact List.map_congr_left fun i hi => by rw [updG_other (by simp at hi; omega)]
  · simp [updG_same]
theorem curV_old {G : Nat → Gh} {k : Nat} {g : Gh} {l : List Nat} (h : ∀ i, i ∈ l → i < k) : curV (updG G k g) l = curV G l := by
  cases l with
  | nil => rfl
  | cons i r => simp only [curV, updG_other (show i ≠ k by have := h i (by simp); omega)]
theorem WAt.stack_lt {w : World} {T : Own} {lo p : Nat} {G : Nat → Gh} {vn : Value} {st : StS} (h : WAt w T lo p G vn st) : ∀ i, i ∈ st.stack → i < st.fns.length := fun i hi => by
  obtain ⟨a, b, e⟩ := List.append_of_mem hi
  exact (h.chain a i b e).1
set_option maxHeartbeats 1000000 in
theorem WAt.enter {w w3 : World} {T : Own} {lo p r cap : Nat} {G : Nat → Gh} {vn V : Value} {st : StS} {Y : TypeId} {o : Obj} (h : WAt w T lo p G vn st) (hm : st.fns.length < 256)
    (hV : V = .slice (some ⟨r, 0, none⟩) (st.fns.length + 1) cap) (ho : w3.ownsRow lo 68 1 V (st.fns.length + 1) (fnsV G st.fns.length ++ [pV (w.heap.size + 2)])) (hg : ((newW w (curV G st.stack) Y).alloc o).grownBy w3 vn.ownBlock) (hat : vn.ownBlock = some r ∨ r = ((newW w (curV G st.stack) Y).alloc o).heap.size) (hlt : r < w3.heap.size) :
    WAt ((w3.setCell ⟨p, 1, none⟩ V).setCell ⟨p, 0, none⟩ (pV (w.heap.size + 2))) ((newT T st.fns.length w.heap.size).put r .fns) lo p (updG G st.fns.length (newG w.heap.size)) V (enterS st) ∧
    Turn (fun _ => True) T w ((newT T st.fns.length w.heap.size).put r .fns) ((w3.setCell ⟨p, 1, none⟩ V).setCell ⟨p, 0, none⟩ (pV (w.heap.size + 2))) := by
  obtain ⟨w5, hw5⟩ : ∃ w5, (w3.setCell ⟨p, 1, none⟩ V).setCell ⟨p, 0, none⟩ (pV (w.heap.size + 2)) = w5 := ⟨_, rfl⟩
  have hpl := h.p_lt
  have hz : ((newW w (curV G st.stack) Y).alloc o).heap.size = w.heap.size + 4 := by simp [newW_size]
  have hz3 := hg.size
  rw [hz] at hz3 hat
  have hz5 : w5.heap.size = w3.heap.size := by rw [← hw5]; simp [World.setCell]
  have hvl : ∀ k, vn.ownBlock = some k → k < w.heap.size ∧ T k = some .fns := fun k hk => ⟨row_lt h.rn.row hk, h.rn.tag k hk⟩
  have hpr : p ≠ r := by
    rintro rfl
    rcases hat with e | e
    · have := (hvl _ e).2; rw [h.tag] at this; injection this with this; cases this
    · omega
  have hpv : some p ≠ vn.ownBlock := fun e => by have := (hvl _ e.symm).2; rw [h.tag] at this; injection this with this; cases this
  -- what is as it was
  have A : ∀ k, k < w.heap.size + 3 → k ≠ p → vn.ownBlock ≠ some k → w5.heap[k]? = (newW w (curV G st.stack) Y).heap[k]? := fun k hk h1 h2 => by
    rw [← hw5]
    exact (Below.heap_setCell _ _ _ _ (show k ≠ p from h1)).trans ((Below.heap_setCell _ _ _ _ (show k ≠ p from h1)).trans ((hg.block k (by omega) (Ne.symm h2)).trans (Below.heap_alloc _ _ _ (by rw [newW_size]; omega))))
  have T5 : ∀ k, k < w.heap.size → ((newT T st.fns.length w.heap.size).put r .fns) k = T k := fun k hk => by
    by_cases e : k = r
    · subst e
      rw [Own.put_same]
      rcases hat with e | e
      · exact (hvl _ e).2.symm
      · omega
    · rw [Own.put_other e, newT_old hk]
  have K : ∀ k t, k < w.heap.size → T k = some t → t ≠ .walk → t ≠ .fns → w5.heap[k]? = w.heap[k]? := fun k t hk h1 h2 h3 => (A k (by omega) (fun e => by subst e; rw [h.tag] at h1; injection h1 with h1; exact h2 h1.symm) (fun e => by have := (hvl _ e).2; rw [h1] at this; injection this with this; exact h3 this)).trans (newW_old hk)
  have tn : Turn (fun _ => True) T w ((newT T st.fns.length w.heap.size).put r .fns) w5 := by
    refine ⟨?_, ?_, ?_, by omega, T5, fun k hk hS => ?_⟩
    · rw [← hw5]; exact hg.os
    · rw [← hw5]; exact hg.tape
    · rw [← hw5]; exact hg.output
    · have hnone : T k = none := by
        cases e : T k with
        | none => rfl
        | some t => exact absurd trivial (hS t e)
      exact (A k (by omega) (fun e => by subst e; rw [h.tag] at hnone; cases hnone) (fun e => by have := (hvl _ e).2; rw [hnone] at this; cases this)).trans (newW_old hk)
  obtain ⟨FN, cN⟩ := newFn w T lo st.fns.length (curV G st.stack) Y
  have hrH : ∀ k, w.heap.size ≤ k → k < w.heap.size + 3 → ((newT T st.fns.length w.heap.size).put r .fns) k = newT T st.fns.length w.heap.size k ∧ w5.heap[k]? = (newW w (curV G st.stack) Y).heap[k]? := fun k h1 h2 => by
    refine ⟨Own.put_other (fun e => ?_), A k h2 (by omega) (fun e => ?_)⟩
    · subst e
      rcases hat with e | e
      · have := (hvl _ e).1; omega
      · omega
    · have := (hvl _ e).1; omega
  have C : ∀ j, j ≠ 0 → j ≠ 1 → w5.cell? ⟨p, j, none⟩ = w.cell? ⟨p, j, none⟩ := fun j h0 h1 => by
    rw [← hw5]
    refine (cell_set_other (Ne.symm h0) _).trans ((cell_set_other (Ne.symm h1) _).trans ((hg.cell_far ⟨p, j, none⟩ (by show p < _; omega) hpv).trans ((World.cell?_alloc_lt _ _ ⟨p, j, none⟩ (by show p < _; rw [newW_size]; omega)).trans (World.cell?_of_block (a := ⟨p, j, none⟩) (newW_old hpl)))))
  have C3 : ∀ j, w3.cell? ⟨p, j, none⟩ = w.cell? ⟨p, j, none⟩ := fun j => (hg.cell_far ⟨p, j, none⟩ (by show p < _; omega) hpv).trans ((World.cell?_alloc_lt _ _ ⟨p, j, none⟩ (by show p < _; rw [newW_size]; omega)).trans (World.cell?_of_block (a := ⟨p, j, none⟩) (newW_old hpl)))
  have Fz : ∀ j, w5.frozen? ⟨p, j, none⟩ = w.frozen? ⟨p, j, none⟩ := fun j => by
    rw [← hw5]
    refine (World.frozen?_setCell _ _ _ _).trans ((World.frozen?_setCell _ _ _ _).trans ((hg.frozen_far ⟨p, j, none⟩ (by show p < _; omega) hpv).trans ?_))
    exact (World.frozen?_of_block (a := ⟨p, j, none⟩) ((Below.heap_alloc _ _ _ (show p < _ by rw [newW_size]; omega)).trans (newW_old hpl)))
  have hst := h.stack_lt
  rw [hw5]
  refine ⟨?_, tn⟩
  have hlen : (enterS st).fns.length = st.fns.length + 1 := by simp [enterS]
  refine ⟨(T5 p hpl).trans h.tag, ?_, ?_, (C 2 (by decide) (by decide)).trans h.c2, fun j => (Fz j).trans (h.warm j), ?_, fun n f hn => ?_, fun pre n rest e => ?_, ?_, Nat.le_trans h.base tn.size, fun k hk => (T5 k (Nat.lt_of_lt_of_le hk h.base)).trans (h.old k hk), fun k hk => ?_, h.parts, by rw [hlen]; omega⟩
  · show w5.cell? _ = some (pV (updG G st.fns.length (newG w.heap.size) st.fns.length).b)
    rw [updG_same, ← hw5]
    exact World.cell?_setCell_same _ _ _ ((cell_set_other (by decide) _).trans ((C3 0).trans h.c0))
  · rw [← hw5]
    exact (cell_set_other (by decide) _).trans (World.cell?_setCell_same _ _ _ ((C3 1).trans h.c1))
  · rw [hlen, fnsV_more, hV]
    rw [hV] at ho
    refine ⟨row_keep ho fun k hk => ?_, fun k hk => (by have e : r = k := (by simpa [Value.ownBlock] using hk); rw [← e]; exact Own.put_same _ _ _)⟩
    have e : r = k := by simpa [Value.ownBlock] using hk
    subst e
    rw [← hw5, hV]
    exact (Below.heap_setCell _ _ _ _ (show r ≠ p from Ne.symm hpr)).trans (Below.heap_setCell _ _ _ _ (show r ≠ p from Ne.symm hpr))
  · by_cases e : n < st.fns.length
    · have hn' : st.fns[n]? = some f := by
        have : (st.fns ++ [FnS.new])[n]? = some f := hn
        rwa [List.getElem?_append_left e] at this
      rw [updG_other (by omega)]
      exact (h.fn n f hn').keep fun k t hk h1 h2 => ⟨K k t hk h1 (by rintro rfl; cases h2) (by rintro rfl; cases h2), T5 k hk⟩
    · have hn2 : (st.fns ++ [FnS.new])[n]? = some f := hn
      have hl : n < (st.fns ++ [FnS.new]).length := (List.getElem?_eq_some_iff.1 hn2).1
      have e2 : n = st.fns.length := by simp at hl; omega
      subst e2
      have : FnS.new = f := by simpa using hn2
      subst this
      rw [updG_same]
      refine FN.keep fun k t hk h1 h2 => ?_
      rw [newW_size] at hk
      by_cases e3 : w.heap.size ≤ k
      · exact (hrH k e3 hk).symm
      · have h4 : T k = some t := (newT_old (n := st.fns.length) (show k < w.heap.size by omega)).symm.trans h1
        exact ⟨(K k t (by omega) h4 (by rintro rfl; cases h2) (by rintro rfl; cases h2)).trans (newW_old (by omega)).symm, (T5 k (by omega)).trans (newT_old (by omega)).symm⟩
  · have e' : st.fns.length :: st.stack = pre ++ n :: rest := e
    rw [hlen]
    cases pre with
    | nil =>
      injection e' with e1 e2
      subst e1; subst e2
      refine ⟨by omega, ?_⟩
      rw [updG_same, curV_old hst]
      exact (World.cell?_of_block (a := ⟨w.heap.size + 2, 3, none⟩) (hrH (w.heap.size + 2) (by omega) (by omega)).2).trans cN
    | cons q pre =>
      injection e' with e1 e2
      obtain ⟨h1, h2⟩ := h.chain pre n rest e2
      refine ⟨by omega, ?_⟩
      rw [updG_other (by omega), curV_old (fun i hi => hst i (by rw [e2]; simp [hi]))]
      have hF := h.fn n _ (List.getElem?_eq_getElem h1)
      exact (World.cell?_of_block (a := ⟨(G n).b, 3, none⟩) (K _ _ hF.b_lt hF.hd.tb (by simp) (by simp))).trans h2
  · exact List.pairwise_cons.2 ⟨fun i hi => hst i hi, h.sorted⟩
  · rw [hz5] at hk
    rw [Own.put_other (by omega)]
    unfold newT
    rw [Own.put_other (by omega), Own.put_other (by omega), Own.put_other (by omega)]
    exact h.fresh k (by omega)
/-- Behind it. -/
theorem WAt.leave {w : World} {T : Own} {lo p n : Nat} {G : Nat → Gh} {vn : Value} {st : StS} {rest : List Nat} (h : WAt w T lo p G vn st) (hs : st.stack = n :: rest) : WAt (w.setCell ⟨p, 0, none⟩ (curV G rest)) T lo p G vn { st with stack := rest } := by
  have B : ∀ k t, T k = some t → t ≠ .walk → (w.setCell ⟨p, 0, none⟩ (curV G rest)).heap[k]? = w.heap[k]? := fun k t h1 h2 => Below.heap_setCell _ _ _ _ (show k ≠ p from fun e => by subst e; rw [h.tag] at h1; injection h1 with h1; exact h2 h1.symm)
  have hso := h.sorted
  rw [hs] at hso
  refine ⟨h.tag, World.cell?_setCell_same _ _ _ h.c0, (cell_set_other (by decide) _).trans h.c1, (cell_set_other (by decide) _).trans h.c2, warm_set h.warm _ _, h.rn.keep fun k _ h1 => ⟨B k _ h1 (by simp), rfl⟩,
    fun m f hm => (h.fn m f hm).keep fun k t _ h1 h2 => ⟨B k t h1 (by rintro rfl; cases h2), rfl⟩, fun pre m r e => ?_, (List.pairwise_cons.1 hso).2, by have := h.base; simpa [World.setCell] using this, h.old, fun k hk => h.fresh k (by simpa [World.setCell] using hk), h.parts, h.many⟩
  have e' : rest = pre ++ m :: r := e
  obtain ⟨h1, h2⟩ := h.chain (n :: pre) m r (by rw [hs, e']; rfl)
  have hF := h.fn m _ (List.getElem?_eq_getElem h1)
  exact ⟨h1, (World.cell?_of_block (a := ⟨(G m).b, 3, none⟩) (B _ _ hF.hd.tb (by simp))).trans h2⟩
set_option maxHeartbeats 4000000 in
theorem inFunction_any {N : Nat} {w : World} {T : Own} {lo p K : Nat} {caps : Array Value} {G : Nat → Gh} {vn : Value} {st : StS} {r : ResS} (h : WAt w T lo p G vn st) (hm : st.fns.length < 256) (hN : N ≤ st.fns.length)
    (C : ∀ w1 T1 G1 vn1, WAt w1 T1 lo p G1 vn1 (enterS st) → Turn (fun _ => True) T w T1 w1 → Calls Try.prog K caps w1 (EndsS (st.fns.length + 1) T1 lo p G1 r w1)) (hK : ∀ w, (callFunc K caps).run Try.prog w = .ok (.enter K caps) w) (hr : ∀ st1, r = .ok st1 → PresS (enterS st) st1) (hD : r ≠ .out) :
    Calls Try.prog 32 #[pV p, .func (.func K) #[] caps] w (EndsS N T lo p G (r.bind leaveS) w) := by
  obtain ⟨i9, hii, hz0, hz1, hz2⟩ := info_parts fun_info
  obtain ⟨An, cn, hvn, hcn, hcm⟩ := slice_form h.rn
  have c0 := h.c0
  have c1 := h.c1
  have f0 := h.warm 0
  have f1 := h.warm 1
  have hpl := h.p_lt
  have bs := h.base
  obtain ⟨ar, har⟩ : ∃ ar, curV G st.stack = .pointer ar := by cases st.stack <;> exact ⟨_, rfl⟩
  rw [hvn] at c1
  rw [har] at c0
  have NF := Lib.hid (newFunction_any ar w)
  have hz : (newW w (.pointer ar) 99).heap.size = w.heap.size + 3 := newW_size _ _ _
  have R1 := h.rn.row
  rw [hvn] at R1
  have R2 : ((newW w (.pointer ar) 99).alloc (.cells #[pV (w.heap.size + 2)] 68)).ownsRow lo 68 1 (.slice An st.fns.length cn) st.fns.length (fnsV G st.fns.length) := row_keep R1 fun k hk => (Below.heap_alloc _ _ _ (by rw [hz]; have := row_lt R1 hk; omega)).trans (newW_old (row_lt R1 hk))
  have nw := one_new (newW w (.pointer ar) 99) (pV (w.heap.size + 2)) 68
  rw [hz] at nw
  have E := fun w3 r cap hown hg hat hlt => h.enter (w3 := w3) (r := r) (cap := cap) (Y := 99) (o := .cells #[pV (w.heap.size + 2)] 68) hm rfl hown hg hat hlt
  rw [har] at E
  have hb : ∀ j, (newW w (.pointer ar) 99).cell? ⟨p, j, none⟩ = w.cell? ⟨p, j, none⟩ ∧ (newW w (.pointer ar) 99).frozen? ⟨p, j, none⟩ = w.frozen? ⟨p, j, none⟩ := fun j => ⟨World.cell?_of_block (a := ⟨p, j, none⟩) (newW_old hpl), World.frozen?_of_block (a := ⟨p, j, none⟩) (newW_old hpl)⟩
  have d1 := (hb 1).1.trans c1
  have hpv : some p ≠ vn.ownBlock := fun e => by have := h.rn.tag p e.symm; rw [h.tag] at this; injection this with this; cases this
  have far : ∀ w3, ((newW w (.pointer ar) 99).alloc (.cells #[pV (w.heap.size + 2)] 68)).grownBy w3 vn.ownBlock → w3.cell? ⟨p, 0, none⟩ = some (.pointer ar) ∧ w3.cell? ⟨p, 1, none⟩ = some (.slice An st.fns.length cn) ∧ w3.frozen? ⟨p, 0, none⟩ = false ∧ w3.frozen? ⟨p, 1, none⟩ = false := fun w3 hg => by
    have L : ∀ j, w3.cell? ⟨p, j, none⟩ = w.cell? ⟨p, j, none⟩ := fun j => (hg.cell_far ⟨p, j, none⟩ (by simp [hz]; omega) hpv).trans ((World.cell?_alloc_lt _ _ ⟨p, j, none⟩ (by show p < _; omega)).trans (hb j).1)
    have Z : ∀ j, w3.frozen? ⟨p, j, none⟩ = w.frozen? ⟨p, j, none⟩ := fun j => (hg.frozen_far ⟨p, j, none⟩ (by simp [hz]; omega) hpv).trans ((World.frozen?_of_block (a := ⟨p, j, none⟩) (Below.heap_alloc _ _ _ (show p < _ by omega))).trans (hb j).2)
    exact ⟨(L 0).trans c0, (L 1).trans c1, (Z 0).trans f0, (Z 1).trans f1⟩
  have hlen := h.many
  have HE := Lib.hid E
  have HR := Lib.hid R2
  have Hn := Lib.hid nw
  have HF := Lib.hid far
  have HC := Lib.hid C
  obtain ⟨WN, hWN⟩ : ∃ WN, newW w (.pointer ar) 99 = WN := ⟨_, rfl⟩
  have hWN2 : ((w.alloc (.map #[] 0)).alloc (.map #[] 0)).alloc (.cells #[.slice none 0 0, .slice none 0 0, .map (some w.heap.size), .pointer ar, .int .i64 0, .slice none 0 0, .slice none 0 0, .map (some (w.heap.size + 1))] 99) = WN := hWN
  rw [hWN] at hz d1 HE HR Hn HF
  rw [hWN2] at NF
  clear h E R1 R2 nw far C hb
  cases r with
  | out => exact absurd rfl hD
  | bad c l =>
    go_enter Try.func32, Try.ntmps32
    go_wp2_with (first
      | (go_at_call 40; (with_reducible refine NF.out.mono ?_); rintro e w1 ⟨rfl, hq⟩; obtain rfl := hq.symm)
      | (at_builtin; refine wpList_append_lies _ rfl (.tmp 14) (.tmp 16) 69 rfl lo 68 i9 _ 1 8 Try.underlying69 hii hz0 hz1 hz2 rfl (by decide) (.slice An st.fns.length cn) st.fns.length _ rfl HR.out ⟨w.heap.size + 3, 0, none⟩ 1 1 [pV (w.heap.size + 2)] rfl rfl Hn.out (by simp [Value.oneCell']) (by decide) (by unfold maxLen; omega) (by omega) (by simp [hz]; omega) _ rfl ?_; intro r cap w3 hown3 hgrow3 hat3 hlt3; rw [← hvn] at hgrow3 hat3; obtain ⟨q0, q1, q2, q3⟩ := HF.out _ hgrow3; obtain ⟨W5, T5⟩ := HE.out _ _ _ hown3 hgrow3 hat3 hlt3; have HCC := Lib.hid (HC.out _ _ _ _ W5 T5); replace T5 := Lib.hid T5; clear W5)
      | ((with_reducible refine HCC.out.mono ?_); rintro e w6 hB; obtain ⟨b, T', rfl, hb1, hb2, hb3⟩ := hB))
    exact ⟨rfl, BadS.after ⟨b, T', rfl, hb1, hb2, hb3⟩ T5.out⟩
  | ok st1 =>
    have hP := Lib.hid ((hr st1 rfl).stack : st1.stack = st.fns.length :: st.stack)
    clear hr
    go_enter Try.func32, Try.ntmps32
    go_wp2_with (first
      | (go_at_call 40; (with_reducible refine NF.out.mono ?_); rintro e w1 ⟨rfl, hq⟩; obtain rfl := hq.symm)
      | (at_builtin; refine wpList_append_lies _ rfl (.tmp 14) (.tmp 16) 69 rfl lo 68 i9 _ 1 8 Try.underlying69 hii hz0 hz1 hz2 rfl (by decide) (.slice An st.fns.length cn) st.fns.length _ rfl HR.out ⟨w.heap.size + 3, 0, none⟩ 1 1 [pV (w.heap.size + 2)] rfl rfl Hn.out (by simp [Value.oneCell']) (by decide) (by unfold maxLen; omega) (by omega) (by simp [hz]; omega) _ rfl ?_; intro r cap w3 hown3 hgrow3 hat3 hlt3; rw [← hvn] at hgrow3 hat3; obtain ⟨q0, q1, q2, q3⟩ := HF.out _ hgrow3; obtain ⟨W5, T5⟩ := HE.out _ _ _ hown3 hgrow3 hat3 hlt3; have HCC := Lib.hid (HC.out _ _ _ _ W5 T5); replace T5 := Lib.hid T5; clear W5)
      | ((with_reducible refine HCC.out.mono ?_); rintro e w6 ⟨v6, T6, G6, vn6, rfl, rfl, hW6, ht6, hS6⟩; have e6 : (G6 st.fns.length).b = w.heap.size + 2 := (hS6 _ (Nat.lt_succ_self _)).trans (congrArg Gh.b (updG_same _ _ _)); have y3 := (hW6.chain [] _ _ hP.out).2; rw [e6] at y3; obtain ⟨ar6, har6⟩ : ∃ ar6, curV G6 st.stack = .pointer ar6 := (by cases st.stack <;> exact ⟨_, rfl⟩); rw [har6] at y3; have y0 := hW6.c0; have z0 := hW6.warm 0; have HW6 := Lib.hid (hW6.leave hP.out); rw [har6] at HW6; have Ht6 := Lib.hid (ht6); have HS6 := Lib.hid hS6; have HW60 := Lib.hid hW6; clear hW6 ht6 hS6))
    refine bodyPost_end (results_none rfl _ _ _) rfl ?_
    show EndsS N T lo p G (.ok { st1 with stack := st1.stack.tail }) w _ _
    rw [hP.out]
    exact ⟨_, T6, G6, vn6, rfl, rfl, HW6.out, (T5.out.trans Ht6.out).trans (HW60.out.turn_p 0 _), fun q hq => (HS6.out q (by omega)).trans (congrArg Gh.b (updG_other (by omega)))⟩
end Go.Proofs.Ytlbbbfmnghcdnaa
