/- tallowlaw12.tab: a table that holds these. -/
import Derived.Test.YtjlobjgemhapaaaTrLaw
import Derived.Test.YtjlobjgemhapaaaRcOpen
import Derived.Deep.AppendLies
import Derived.Deep.RegionLaw
namespace Go.Proofs.Ytjlobjgemhapaaa
set_option maxRecDepth 20000
open Go.RowKit Go.Maps Go.Sort Go.Shelf

theorem val_info12 : (Try.prog.info? 41).map (fun i => (i.zero, i.size, i.bytes)) = some (some (.agg #[.int .i64 0, .int .i64 0]), 2, 16) := by kernel_rfl
theorem frozen_new12 (w : World) (cs : Array Value) (T : TypeId) (j : Nat) : (w.alloc (.cells cs T (0, 0))).frozen? ⟨w.heap.size, j, none⟩ = false := by
  unfold World.frozen?
  simp only [(Go.MapKept.heap_alloc w _).1]
  simp
theorem lit_cells12 {w : World} {l : List Value} {T : TypeId} : ∀ j u, l[j]? = some u → (w.alloc (.cells l.toArray T (0, 0))).cell? ((⟨w.heap.size, 0, none⟩ : Addr).add j) = some u := fun j u hu => by
  rw [add_zero_at2]
  simp only [World.cell?, (Go.MapKept.heap_alloc w _).1, Nat.zero_add]
  simpa using hu
/-- The object that is being made. -/
structure BoxC (w : World) (b5 : Nat) (cnt : Int) (v : Value) (ss : List (Int × Int)) : Prop where
  c0 : w.cell? ⟨b5, 0, none⟩ = some (iV 6)
  c1 : w.cell? ⟨b5, 1, none⟩ = some (iV cnt)
  c2 : w.cell? ⟨b5, 2, none⟩ = some v
  c3 : w.cell? ⟨b5, 3, none⟩ = some (.string ⟨#[]⟩)
  c4 : w.cell? ⟨b5, 4, none⟩ = some (iV 0)
  fz : ∀ j, w.frozen? ⟨b5, j, none⟩ = false
  row : w.ownsRow (b5 + 1) 41 2 v ss.length (pairCells ss)
theorem boxC_more {w w1 w5 : World} {b5 g5 cap5 k : Nat} {cnt x : Int} {v : Value} {ss : List (Int × Int)} (hk : ss.length = k) (h : BoxC w b5 cnt v ss) (hb : Below w.heap.size w w1)
    (hw : w5.ownsRow (b5 + 1) 41 2 (.slice (some ⟨g5, 0, none⟩) (k + 1) cap5) (k + 1) (pairCells ss ++ [iV 6, iV x])) (hg : w1.grownBy w5 v.ownBlock) :
    (BoxC (w5.setCell ⟨b5, 2, none⟩ (.slice (some ⟨g5, 0, none⟩) (k + 1) cap5)) b5 cnt (.slice (some ⟨g5, 0, none⟩) (k + 1) cap5) (ss ++ [(6, x)]) ∧ Frm (fun x => b5 ≤ x) w (w5.setCell ⟨b5, 2, none⟩ (.slice (some ⟨g5, 0, none⟩) (k + 1) cap5))) ∧
      w5.cell? ⟨b5, 2, none⟩ = some v ∧ w5.frozen? ⟨b5, 2, none⟩ = false := by
  subst hk
  obtain ⟨q0, q1, q2, q3, q4, qf, qr⟩ := h
  have l5 : b5 < w.heap.size := World.block_lt_of_cell? w _ q0
  have hv := qr.lt
  have k5 : w5.heap[b5]? = w.heap[b5]? := (hg.block b5 (by have := hb.size; omega) (fun e => by have := (hv b5 e.symm).1; omega)).trans (hb.block b5 l5)
  have kc : ∀ j, w5.cell? ⟨b5, j, none⟩ = w.cell? ⟨b5, j, none⟩ := fun j => World.cell?_of_block (w := w) (a := ⟨b5, j, none⟩) k5
  have kf : ∀ j, w5.frozen? ⟨b5, j, none⟩ = w.frozen? ⟨b5, j, none⟩ := fun j => World.frozen?_of_block (w := w) (a := ⟨b5, j, none⟩) k5
  have oth : ∀ j, j ≠ 2 → ∀ y, (w5.setCell ⟨b5, 2, none⟩ y).cell? ⟨b5, j, none⟩ = w.cell? ⟨b5, j, none⟩ := fun j hj y => (World.cell?_setCell_other _ _ _ _ (by intro e; injection e with _ e; exact hj e.symm)).trans (kc j)
  have e1 : pairCells (ss ++ [(6, x)]) = pairCells ss ++ [iV 6, iV x] := by simp [pairCells]
  have e2 : (ss ++ [(6, x)]).length = ss.length + 1 := by simp
  refine ⟨⟨⟨(oth 0 (by decide) _).trans q0, (oth 1 (by decide) _).trans q1, World.cell?_setCell_same _ _ _ ((kc 2).trans q2), (oth 3 (by decide) _).trans q3, (oth 4 (by decide) _).trans q4, fun j => by rw [World.frozen?_setCell]; exact (kf j).trans (qf j), ?_⟩, ?_⟩, (kc 2).trans q2, (kf 2).trans (qf 2)⟩
  · rw [e1, e2]
    exact hw.kept (w' := w5.setCell ⟨b5, 2, none⟩ _) (row := some b5) ⟨rfl, rfl, rfl, by simp [World.setCell], fun i _ hne => Below.heap_setCell _ _ _ _ (by rintro rfl; exact hne rfl)⟩ (Or.inr fun e => by have := (hw.lt b5 e).1; omega)
  · refine Frm.set (S := fun x => b5 ≤ x) (p := ⟨b5, 2, none⟩) ⟨hg.os.trans hb.os, hg.tape.trans hb.tape, hg.output.trans hb.output, by have := hb.size; have := hg.size; omega, fun j hj hn => ?_⟩ (Nat.le_refl _) _
    exact (hg.block j (by have := hb.size; omega) (fun e => by have := (hv j e.symm).1; omega)).trans (hb.block j hj)
theorem pairs_of_own12 {w : World} {base : Nat} {v : Value} {l : List (Int × Int)} (h : w.ownsRow base 41 2 v l.length (pairCells l)) : ∃ A c, v = .slice A l.length c ∧ PairsAt w A l ∧ ∀ a, A = some a → base ≤ a.block ∧ a.block < w.heap.size := by
  have h0 := h
  rcases h.2 with ⟨rfl, h1⟩ | ⟨g, cap, cur, rfl, hb, hg, _⟩
  · have : l = [] := List.length_eq_zero_iff.1 h1
    subst this
    exact ⟨none, 0, rfl, fun i x hx => by simp at hx, fun a h => by cases h⟩
  · have hl := (Array.getElem?_eq_some_iff.1 hg).1
    refine ⟨some ⟨g, 0, none⟩, cap, rfl, fun i p hp => ?_, fun a ha => by injection ha with ha; subst ha; exact ⟨hb, hl⟩⟩
    obtain ⟨d0, d1⟩ := pairCells_at l i p hp
    refine ⟨_, rfl, hl, h0.cells rfl _ _ d0, ?_⟩
    rw [Addr.add_add]
    exact h0.cells rfl _ _ d1
set_option maxHeartbeats 4000000 in
theorem tab12_any {w : World} {B : Option Addr} {d : Nat} {l : List Int} (hl : l.length ≤ 1000) (hB : IntsAt w B l) (cnt : Int) :
    Calls Try.prog 24 #[iV cnt, .slice B l.length d] w fun e w' => ∃ A c, e = .returned (.agg #[iV 6, iV cnt, .slice A l.length c, .string ⟨#[]⟩, iV 0]) ∧ PairsAt w' A (l.map fun x => (6, x)) ∧ Below w.heap.size w w' ∧ ∀ a, A = some a → w.heap.size ≤ a.block := by
  have H := Lib.hid hB
  have GET : Hid (∀ i, i < l.length → ∃ p, l[i]? = some p) := fun i hi => ⟨_, List.getElem?_eq_getElem hi⟩
  have FULL : Hid (l.take l.length = l) := List.take_of_length_le (Nat.le_refl _)
  have TK : Hid (∀ k x, l[k]? = some x → (l.take (k + 1)).map (fun x => ((6 : Int), x)) = (l.take k).map (fun x => ((6 : Int), x)) ++ [(6, x)]) := fun k x h => by rw [List.take_add_one, h]; simp
  have LN : Hid (∀ k, k ≤ l.length → ((l.take k).map (fun x => ((6 : Int), x))).length = k) := fun k hk => by rw [List.length_map, List.length_take]; omega
  clear hB
  generalize hn : l.length = n at *
  have HN := Lib.hid hn
  clear hn
  obtain ⟨i1, hi1, hv0, hv1, hv2⟩ := info_parts val_info12
  go_enter Try.func24, Try.ntmps24
  go_wp2_with fail
  refine at_world (fun V => Below w.heap.size w V ∧ (V.cell? ⟨w.heap.size, 0, none⟩ = some (iV 0) ∧ V.cell? ⟨w.heap.size, 1, none⟩ = some (iV 0) ∧ V.cell? ⟨w.heap.size, 2, none⟩ = some (.slice none 0 0) ∧ V.cell? ⟨w.heap.size, 3, none⟩ = some (.string ⟨#[]⟩) ∧ V.cell? ⟨w.heap.size, 4, none⟩ = some (iV 0) ∧ ∀ j, V.frozen? ⟨w.heap.size, j, none⟩ = false) ∧ BoxC V (w.heap.size + 1) cnt (.slice none 0 0) []) ?_ (fun V HV => ?_)
  · refine ⟨((Below.refl _ _).alloc (Nat.le_refl _) _).alloc (by simp) _, ⟨by simp [go_sem], by simp [go_sem], by simp [go_sem], by simp [go_sem], by simp [go_sem], fun j => ?_⟩, ⟨by simp [go_sem], by simp [go_sem], by simp [go_sem], by simp [go_sem], by simp [go_sem], fun j => ?_, ⟨rfl, .inl ⟨rfl, rfl⟩⟩⟩⟩
    · exact (World.frozen?_of_block (w := w.alloc _) (a := ⟨w.heap.size, j, none⟩) (Below.heap_alloc _ _ _ (by simp))).trans (frozen_new12 _ _ _ _)
    · have := frozen_new12 (w.alloc (Obj.cells #[Value.int IntKind.i64 0, Value.int IntKind.i64 0, Value.slice none 0 0, Value.string { data := #[] }, Value.int IntKind.i64 0] 38 (0, 0))) #[Value.int IntKind.i64 6, Value.int IntKind.i64 cnt, Value.slice none 0 0, Value.string { data := #[] }, Value.int IntKind.i64 0] 38 j
      rw [show (w.alloc (Obj.cells #[Value.int IntKind.i64 0, Value.int IntKind.i64 0, Value.slice none 0 0, Value.string { data := #[] }, Value.int IntKind.i64 0] 38 (0, 0))).heap.size = w.heap.size + 1 by simp] at this
      exact this
  obtain ⟨hbv, ⟨r0, r1, r2, r3, r4, rf⟩, hX⟩ := HV
  have BV := Lib.hid hbv
  have X0 := Lib.hid hX
  have l4 : w.heap.size < V.heap.size := World.block_lt_of_cell? V _ r0
  have RES : Hid (∀ W, Frm (fun x => w.heap.size + 1 ≤ x) V W → (W.cell? ⟨w.heap.size, 0, none⟩ = some (iV 0) ∧ W.cell? ⟨w.heap.size, 1, none⟩ = some (iV 0) ∧ W.cell? ⟨w.heap.size, 2, none⟩ = some (.slice none 0 0) ∧ W.cell? ⟨w.heap.size, 3, none⟩ = some (.string ⟨#[]⟩) ∧ W.cell? ⟨w.heap.size, 4, none⟩ = some (iV 0)) ∧ (∀ j, W.frozen? ⟨w.heap.size, j, none⟩ = false) ∧ Below w.heap.size w W) := fun W hf => by
    have hk := hf.block w.heap.size l4 (by omega)
    have kc : ∀ j, W.cell? ⟨w.heap.size, j, none⟩ = V.cell? ⟨w.heap.size, j, none⟩ := fun j => World.cell?_of_block (w := V) (a := ⟨w.heap.size, j, none⟩) hk
    exact ⟨⟨(kc 0).trans r0, (kc 1).trans r1, (kc 2).trans r2, (kc 3).trans r3, (kc 4).trans r4⟩, fun j => (World.frozen?_of_block (w := V) (a := ⟨w.heap.size, j, none⟩) hk).trans (rf j), BV.out.trans (hf.below BV.out.size (fun k hk => by omega))⟩
  clear hbv hX r0 r1 r2 r3 r4 rf
  obtain ⟨b4, hb4⟩ : ∃ b, b = w.heap.size := ⟨_, rfl⟩
  obtain ⟨b5, hb5⟩ : ∃ b, b = w.heap.size + 1 := ⟨_, rfl⟩
  have E4 := Lib.hid hb4
  have E5 := Lib.hid hb5
  rw [← hb5] at X0 RES ⊢
  rw [← hb4] at RES ⊢
  have h45 : b4 < b5 := by omega
  clear hb4 hb5 l4
  have HV : Hid (IntsAt V B l) := H.out.below BV.out
  have LV : Hid (∀ a, B = some a → l ≠ [] → a.block < b5) := fun a ha hne => by
    obtain ⟨y, hy⟩ := List.exists_mem_of_ne_nil _ hne
    obtain ⟨i, hi⟩ := List.getElem?_of_mem hy
    obtain ⟨a', e, hlt, _⟩ := H.out i y hi
    rw [ha] at e; injection e with e; subst e
    have := E5.out; omega
  go_loopg [6] n (fun gg s6 wr => ∃ (k : Nat) (v : Value), k ≤ n ∧ n - k ≤ gg ∧ s6 = .int .i64 k ∧ Hid (BoxC wr b5 cnt v ((l.take k).map fun x => (6, x))) ∧ Hid (Frm (fun x => b5 ≤ x) V wr))
  case atStart => exact ⟨0, _, Nat.zero_le _, by omega, rfl, X0.out, Frm.refl _ _⟩
  case round =>
    obtain ⟨k, v, hk, hgg, rfl, BX, FF⟩ := hrel
    obtain ⟨q0, q1, q2, q3, q4, qf, qr⟩ := BX.out
    have qf2 := qf 2
    have lb5 : b5 < wr.heap.size := World.block_lt_of_cell? wr _ q2
    have LK := Lib.hid (LN.out k hk)
    have QR : Hid (wr.ownsRow (b5 + 1) 41 2 v k (pairCells ((l.take k).map fun x => (6, x)))) := by rw [LK.out] at qr; exact qr
    by_cases hlt : k < n
    · obtain ⟨x, hx⟩ := GET.out k hlt
      obtain ⟨a, e, hal, hc⟩ := (ints_frm FF.out HV.out (fun a ha hs => by
        have := LV.out a ha (List.ne_nil_of_mem (List.mem_of_getElem? hx))
        have hs : b5 ≤ a.block := hs
        omega)) k x hx
      subst e
      have hl2 : (a.add k).block < wr.heap.size := by rw [Go.ChangeShapes.block_add]; exact hal
      have T1 := Lib.hid (TK.out k x hx)
      have k2 : ∀ o, (wr.alloc o).cell? ⟨b5, 2, none⟩ = some v := fun o => (((Below.refl _ _).alloc (Nat.le_refl _) o).cell (p := ⟨b5, 2, none⟩) lb5).trans q2
      clear hx q0 q1 q3 q4 qf qr
      go_upto_region 5 with fail
      go_region_law (first
        | (refine step_append_lies _ rfl (.tmp 16) (.tmp 22) 33 rfl (b5 + 1) 41 i1 _ 2 16 Try.underlying33 hi1 hv0 hv1 hv2 rfl (by decide) v k (pairCells ((l.take k).map fun x => ((6 : Int), x))) rfl (by first | exact own_below QR.out ((Below.refl _ _).alloc (Nat.le_refl _) _) | exact own_below QR.out (((Below.refl _ _).alloc (Nat.le_refl _) _).drew)) ⟨wr.heap.size, 0, none⟩ 1 1 [iV 6, iV x] rfl rfl (by first | exact lit_cells12 | exact fun j u hu => lit_cells12 j u hu) (by simp [Value.oneCell']) (by decide) (by unfold maxLen; omega) (by omega) (by simp; omega) _ rfl ?_; intro g5 cap5 w5 hw5 hg5 hat5 hlt5; have BM := boxC_more LK.out BX.out (by first | exact (Below.refl _ _).alloc (Nat.le_refl _) _ | exact ((Below.refl _ _).alloc (Nat.le_refl _) _).drew) hw5 hg5; obtain ⟨BM1, y25, z25⟩ := BM; have BMH := Lib.hid BM1; clear hw5 hg5 hat5 hlt5 BM1))
      all_goals
        go_wp2_with fail
        go_roundg (n - (k + 1))
        case measure => omega
        case rel => exact ⟨k + 1, _, by omega, by omega, by go_num, by rw [T1.out]; exact BMH.out.1, FF.out.trans BMH.out.2⟩
    · have hkn : k = n := by omega
      subst hkn
      obtain ⟨⟨r0, r1, r2, r3, r4⟩, rf, hbw⟩ := RES.out wr FF.out
      have rf0 := rf 0
      have rf1 := rf 1
      have rf2 := rf 2
      have rf3 := rf 3
      have rf4 := rf 4
      have BW := Lib.hid hbw
      obtain ⟨A9, c9, hv9, hp9, ha9⟩ := pairs_of_own12 qr
      have HP9 := Lib.hid hp9
      have HA9 := Lib.hid ha9
      subst hv9
      rw [LK.out] at q2
      clear rf qf qf2 qr hbw hp9 ha9 QR
      go_wp2_with fail
      refine bodyPost_ret (v := .agg #[iV 6, iV cnt, .slice A9 k c9, .string ⟨#[]⟩, iV 0]) (by simp [results, Try.results24, go_sem, r0, r1, r2, r3, r4]) rfl ?_
      refine ⟨A9, c9, rfl, ?_, ?_, fun a ha => by have := (HA9.out a ha).1; have := E5.out; omega⟩
      · rw [FULL.out] at HP9
        intro i p hp
        obtain ⟨ad, e, hlt9, c0, c1⟩ := HP9.out i p hp
        have hbk := (HA9.out ad e).1
        have h1 : ∀ (p : Addr), p.block = ad.block → ((((((wr.setCell ⟨b4, 0, none⟩ (iV 6)).setCell ⟨b4, 1, none⟩ (iV cnt)).setCell ⟨b4, 2, none⟩ (.slice A9 k c9)).setCell ⟨b4, 3, none⟩ (.string ⟨#[]⟩)).setCell ⟨b4, 4, none⟩ (iV 0)).cell? p) = wr.cell? p := fun p hp => by
          have hne : b4 ≠ p.block := by omega
          rw [World.cell?_setCell_far _ _ _ _ hne, World.cell?_setCell_far _ _ _ _ hne, World.cell?_setCell_far _ _ _ _ hne, World.cell?_setCell_far _ _ _ _ hne, World.cell?_setCell_far _ _ _ _ hne]
        exact ⟨ad, e, by simpa using hlt9, (h1 _ (Go.ChangeShapes.block_add _ _)).trans c0, (h1 _ (by rw [Go.ChangeShapes.block_add, Go.ChangeShapes.block_add])).trans c1⟩
      · have e4 := E4.out
        rw [← e4]
        exact ((((BW.out.setCell (p := ⟨b4, 0, none⟩) (by show _ ≤ b4; omega) _).setCell (p := ⟨b4, 1, none⟩) (by show _ ≤ b4; omega) _).setCell (p := ⟨b4, 2, none⟩) (by show _ ≤ b4; omega) _).setCell (p := ⟨b4, 3, none⟩) (by show _ ≤ b4; omega) _).setCell (p := ⟨b4, 4, none⟩) (by show _ ≤ b4; omega) _
end Go.Proofs.Ytjlobjgemhapaaa
