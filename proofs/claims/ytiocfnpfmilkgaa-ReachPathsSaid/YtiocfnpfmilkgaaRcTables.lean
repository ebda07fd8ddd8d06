/- tallowlaw11.tab and tables. -/
import Derived.Test.YtiocfnpfmilkgaaRcObjs
import Derived.Deep.AppendLies
import Derived.Deep.RegionLaw
namespace Go.Proofs.Ytiocfnpfmilkgaa
set_option maxRecDepth 20000
open Go.RowKit Go.Maps

theorem tab_any (n : Int) (w : World) : Calls Try.prog 43 #[iV n] w fun e w' => e = .returned (vV (6, n)) ∧ Below w.heap.size w w' := by
  go_enter Try.func43, Try.ntmps43
  go_wp2
  refine bodyPost_ret (v := vV (6, n)) (by simp [results, Try.results43, go_sem]) rfl ⟨rfl, ?_⟩
  exact (Below.refl _ _).alloc (Nat.le_refl _) _
theorem frozen_new (w : World) (cs : Array Value) (T : TypeId) (j : Nat) : (w.alloc (.cells cs T (0, 0))).frozen? ⟨w.heap.size, j, none⟩ = false := by
  unfold World.frozen?
  simp only [(Go.MapKept.heap_alloc w _).1]
  simp
/-- The object that is being made. -/
structure BoxJ (w : World) (b5 : Nat) (kd : Int) (v : Value) (ss : List (Int × Int)) : Prop where
  c0 : w.cell? ⟨b5, 0, none⟩ = some (iV kd)
  c1 : w.cell? ⟨b5, 1, none⟩ = some (iV 0)
  c2 : w.cell? ⟨b5, 2, none⟩ = some v
  c3 : w.cell? ⟨b5, 3, none⟩ = some (.string ⟨#[]⟩)
  c4 : w.cell? ⟨b5, 4, none⟩ = some (iV 0)
  fz : ∀ j, w.frozen? ⟨b5, j, none⟩ = false
  row : w.ownsRow (b5 + 1) 24 2 v ss.length (pairCells ss)
theorem box_zero {w : World} {b5 : Nat} {kd : Int} {v : Value} {ss : List (Int × Int)} (h : BoxJ w b5 kd v ss) :
    BoxJ (((((w.setCell { block := b5, off := 0 } (Value.int IntKind.i64 0)).setCell { block := b5, off := 1 } (Value.int IntKind.i64 0)).setCell { block := b5, off := 2 } (Value.slice none 0 0)).setCell { block := b5, off := 3 } (Value.string ⟨#[]⟩)).setCell { block := b5, off := 4 } (Value.int IntKind.i64 0)) b5 0 (.slice none 0 0) [] ∧
      Frm (fun x => b5 ≤ x) w (((((w.setCell { block := b5, off := 0 } (Value.int IntKind.i64 0)).setCell { block := b5, off := 1 } (Value.int IntKind.i64 0)).setCell { block := b5, off := 2 } (Value.slice none 0 0)).setCell { block := b5, off := 3 } (Value.string ⟨#[]⟩)).setCell { block := b5, off := 4 } (Value.int IntKind.i64 0)) := by
  obtain ⟨q0, q1, q2, q3, q4, qf, _⟩ := h
  have f := qf 0
  refine ⟨⟨?_, ?_, ?_, ?_, ?_, fun j => ?_, ⟨rfl, .inl ⟨rfl, rfl⟩⟩⟩, ((((Frm.refl (fun x => b5 ≤ x) w).set (p := ⟨b5, 0, none⟩) (Nat.le_refl _) _).set (p := ⟨b5, 1, none⟩) (Nat.le_refl _) _).set (p := ⟨b5, 2, none⟩) (Nat.le_refl _) _).set (p := ⟨b5, 3, none⟩) (Nat.le_refl _) _ |>.set (p := ⟨b5, 4, none⟩) (Nat.le_refl _) _⟩
  · simp [go_sem, q0]
  · simp [go_sem, q1]
  · simp [go_sem, q2]
  · simp [go_sem, q3]
  · simp [go_sem, q4]
  · simp only [World.frozen?_setCell]; exact qf j
theorem box_more {w w1 w5 : World} {b5 g5 cap5 : Nat} {kd x : Int} {v : Value} {ss : List (Int × Int)} {O : Obj} (h : BoxJ w b5 kd v ss) (hb : Below w.heap.size w w1)
    (hw : w5.ownsRow (b5 + 1) 24 2 (.slice (some ⟨g5, 0, none⟩) (ss.length + 1) cap5) (ss.length + 1) (pairCells ss ++ [iV 6, iV x])) (hg : (w1.alloc O).grownBy w5 v.ownBlock) :
    (BoxJ (w5.setCell ⟨b5, 2, none⟩ (.slice (some ⟨g5, 0, none⟩) (ss.length + 1) cap5)) b5 kd (.slice (some ⟨g5, 0, none⟩) (ss.length + 1) cap5) (ss ++ [(6, x)]) ∧ Frm (fun x => b5 ≤ x) w (w5.setCell ⟨b5, 2, none⟩ (.slice (some ⟨g5, 0, none⟩) (ss.length + 1) cap5))) ∧
      w5.cell? ⟨b5, 2, none⟩ = some v ∧ w5.frozen? ⟨b5, 2, none⟩ = false := by
  obtain ⟨q0, q1, q2, q3, q4, qf, qr⟩ := h
  have l5 : b5 < w.heap.size := World.block_lt_of_cell? w _ q0
  have hv := qr.lt
  have k5 : w5.heap[b5]? = w.heap[b5]? := (hg.block b5 (by have := hb.size; simp; omega) (fun e => by have := (hv b5 e.symm).1; omega)).trans ((Below.heap_alloc _ _ _ (by have := hb.size; omega)).trans (hb.block b5 l5))
  have kc : ∀ j, w5.cell? ⟨b5, j, none⟩ = w.cell? ⟨b5, j, none⟩ := fun j => World.cell?_of_block (w := w) (a := ⟨b5, j, none⟩) k5
  have kf : ∀ j, w5.frozen? ⟨b5, j, none⟩ = w.frozen? ⟨b5, j, none⟩ := fun j => World.frozen?_of_block (w := w) (a := ⟨b5, j, none⟩) k5
  have oth : ∀ j, j ≠ 2 → ∀ y, (w5.setCell ⟨b5, 2, none⟩ y).cell? ⟨b5, j, none⟩ = w.cell? ⟨b5, j, none⟩ := fun j hj y => (World.cell?_setCell_other _ _ _ _ (by intro e; injection e with _ e; exact hj e.symm)).trans (kc j)
  have e1 : pairCells (ss ++ [(6, x)]) = pairCells ss ++ [iV 6, iV x] := by simp [pairCells]
  have e2 : (ss ++ [(6, x)]).length = ss.length + 1 := by simp
  refine ⟨⟨⟨(oth 0 (by decide) _).trans q0, (oth 1 (by decide) _).trans q1, World.cell?_setCell_same _ _ _ ((kc 2).trans q2), (oth 3 (by decide) _).trans q3, (oth 4 (by decide) _).trans q4, fun j => by rw [World.frozen?_setCell]; exact (kf j).trans (qf j), ?_⟩, ?_⟩, (kc 2).trans q2, (kf 2).trans (qf 2)⟩
  · rw [e1, e2]
    exact hw.kept (w' := w5.setCell ⟨b5, 2, none⟩ _) (row := some b5) ⟨rfl, rfl, rfl, by simp [World.setCell], fun i _ hne => Below.heap_setCell _ _ _ _ (by rintro rfl; exact hne rfl)⟩ (Or.inr fun e => by have := (hw.lt b5 e).1; omega)
  · refine Frm.set (S := fun x => b5 ≤ x) (p := ⟨b5, 2, none⟩) ⟨hg.os.trans hb.os, hg.tape.trans hb.tape, hg.output.trans hb.output, by have := hb.size; have := hg.size; simp at this; omega, fun j hj hn => ?_⟩ (Nat.le_refl _) _
    exact (hg.block j (by have := hb.size; simp; omega) (fun e => by have := (hv j e.symm).1; omega)).trans ((Below.heap_alloc _ _ _ (by have := hb.size; omega)).trans (hb.block j hj))
theorem objs_more {w w5 : World} {b3 vc k : Nat} {h : List OB} {v v'' : Value} {vA : Option Addr} {sl : Nat → Option Addr × Nat} {O4 : Obj} {kd : Int} {ss : List (Int × Int)} (H : ObjsJ w b3 h v sl) (hs : SlotsAt w ⟨kd, 0, ss, ⟨#[]⟩, 0⟩ vA) (hk : h.length = k) (hA : ∀ a, vA = some a → b3 < a.block ∧ a.block < w.heap.size ∧ v.ownBlock ≠ some a.block)
    (h5 : w5.ownsRow (b3 + 1) 52 5 v'' (k + 1) (cellsG sl 0 h ++ [iV kd, iV 0, .slice vA ss.length vc, .string ⟨#[]⟩, iV 0])) (g5 : (w.alloc O4).grownBy w5 v.ownBlock)
    (at5 : v''.ownBlock = v.ownBlock ∨ v''.ownBlock = some (w.alloc O4).heap.size) :
    (ObjsJ (w5.setCell ⟨b3, 0, none⟩ v'') b3 (h ++ [⟨kd, 0, ss, ⟨#[]⟩, 0⟩]) v'' (fun i => if i = h.length then (vA, vc) else sl i) ∧ Frm (fun x => b3 ≤ x) w (w5.setCell ⟨b3, 0, none⟩ v'')) ∧ w5.cell? ⟨b3, 0, none⟩ = some v ∧ w5.frozen? ⟨b3, 0, none⟩ = false := by
  subst hk
  have l3 := H.lt
  have k3 : w5.heap[b3]? = w.heap[b3]? := (g5.block b3 (by simp; omega) (fun e => by have := (H.row.lt b3 e.symm).1; omega)).trans (Below.heap_alloc _ _ _ l3)
  exact ⟨H.push (o := ⟨kd, 0, ss, ⟨#[]⟩, 0⟩) hs hA h5 g5 at5, (World.cell?_of_block (w := w) (a := ⟨b3, 0, none⟩) k3).trans H.cell, (World.frozen?_of_block (w := w) (a := ⟨b3, 0, none⟩) k3).trans H.fz⟩
set_option maxHeartbeats 4000000 in
theorem tables_any {w : World} {B : Option Addr} {d : Nat} {L : List (List Int)} (hL : RowsAt w B L) (hl : L.length ≤ 1000) (hr : ∀ l ∈ L, l.length ≤ 1000) (hx : ∀ l ∈ L, ∀ x ∈ l, 0 ≤ x ∧ x ≤ 1000) :
    Calls Try.prog 44 #[.slice B L.length d] w fun e w' => ∃ C k, e = .returned (gV C (tabG L).length k) ∧ GAtLo w.heap.size w' C (tabG L) ∧ Below w.heap.size w w' := by
  have HL := Lib.hid hL
  have HR := Lib.hid hr
  have HX := Lib.hid hx
  have GET : Hid (∀ i, i < L.length → ∃ p, L[i]? = some p) := fun i hi => ⟨_, List.getElem?_eq_getElem hi⟩
  have TL : Hid ((tabG L).length = L.length) := show _ = _ by simp [tabG]
  have FULL : Hid (L.take L.length = L) := List.take_of_length_le (Nat.le_refl _)
  have TS : Hid (∀ k l, L[k]? = some l → tabG (L.take (k + 1)) = tabG (L.take k) ++ [tabO l]) := fun k l h => by unfold tabG; rw [List.take_add_one, h]; simp
  have TK : Hid (∀ k, k ≤ L.length → (tabG (L.take k)).length = k) := fun k hk => by unfold tabG; rw [List.length_map, List.length_take]; omega
  rw [TL.out]
  clear hL hr hx
  generalize hn : L.length = n at *
  go_enter Try.func44, Try.ntmps44
  go_wp2_with fail
  refine at_world (fun V => Below w.heap.size w V ∧ (V.cell? ⟨w.heap.size, 0, none⟩ = some (.slice none 0 0) ∧ V.frozen? ⟨w.heap.size, 0, none⟩ = false) ∧ ObjsJ V (w.heap.size + 1) [] (.slice none 0 0) (fun _ => (none, 0))) ?_ fun V HV => ?_
  · exact ⟨((Below.refl _ _).alloc (Nat.le_refl _) _).alloc (by simp) _, ⟨by simp [go_sem], by simp [go_sem]⟩, ⟨by simp [go_sem], by simp [go_sem], ⟨rfl, .inl ⟨rfl, rfl⟩⟩, fun i o ho => by simp at ho⟩⟩
  obtain ⟨hbl, ⟨c2, f2⟩, hO⟩ := HV
  have BV := Lib.hid hbl
  have O0 := Lib.hid hO
  have lV := hO.lt
  clear hbl hO
  obtain ⟨b2, hb2⟩ : ∃ b2, b2 = w.heap.size := ⟨_, rfl⟩
  have HB2 : Hid (b2 = w.heap.size) := hb2
  generalize hb3 : w.heap.size + 1 = b3 at *
  have b23 : b2 < b3 := by omega
  rw [← hb2] at c2 f2 ⊢
  clear hb2 hb3
  go_loopg [4] n (fun gg s4 wr => ∃ (k : Nat) (v : Value) (sl : Nat → Option Addr × Nat), k ≤ n ∧ n - k ≤ gg ∧ s4 = .int .i64 k ∧ Hid (ObjsJ wr b3 (tabG (L.take k)) v sl) ∧ Hid (Frm (fun x => b3 ≤ x) V wr))
  case atStart => exact ⟨0, _, _, Nat.zero_le _, by omega, rfl, O0.out, Frm.refl _ _⟩
  case round =>
    obtain ⟨k, v, sl, hk, hgg, rfl, OJ, FF⟩ := hrel
    have BW : Hid (Below w.heap.size w wr) := below_frm BV.out FF.out (fun j hj => by have := HB2.out; omega)
    by_cases hlt : k < n
    · obtain ⟨row, hrow⟩ := GET.out k hlt
      have hrl := HR.out row (List.mem_of_getElem? hrow)
      obtain ⟨ad, A, c, e, hal, hc, hi⟩ := (HL.out.below BW.out) k row hrow
      subst e
      have HI := Lib.hid hi
      have HRW := Lib.hid hrow
      have RX := Lib.hid (HX.out row (List.mem_of_getElem? hrow))
      have hl2 : (ad.add k).block < wr.heap.size := by rw [Go.ChangeShapes.block_add]; exact hal
      clear hi hrow
      go_upto_region 6 with fail
      refine at_world (fun U => Below wr.heap.size wr U ∧ BoxJ U wr.heap.size 6 (.slice none 0 0) []) ⟨(Below.refl _ _).alloc (Nat.le_refl _) _, by simp [go_sem], by simp [go_sem], by simp [go_sem], by simp [go_sem], by simp [go_sem], fun j => frozen_new _ _ _ _, ⟨rfl, .inl ⟨rfl, rfl⟩⟩⟩ fun U HU => ?_
      obtain ⟨hbu, hbox⟩ := HU
      have BU := Lib.hid hbu
      have X0 := Lib.hid hbox
      clear hbu hbox
      obtain ⟨R, hR⟩ : ∃ R, R = gk := ⟨_, rfl⟩
      rw [← hR] at *
      clear hR
      obtain ⟨b5, hb5⟩ : ∃ b5, b5 = wr.heap.size := ⟨_, rfl⟩
      rw [← hb5] at X0 ⊢
      have HB5 := Lib.hid hb5
      have RU := Lib.hid (HI.out.below BU.out)
      have LU : Hid (∀ a, A = some a → row ≠ [] → a.block < b5) := fun a ha hne => by
        obtain ⟨x, hx⟩ : ∃ x, row[0]? = some x := by cases row with
          | nil => exact absurd rfl hne
          | cons x r => exact ⟨x, rfl⟩
        obtain ⟨a', e, hl, _⟩ := HI.out 0 x hx
        rw [ha] at e; injection e with e; subst e
        rw [HB5.out]; exact hl
      have hcu := (BU.out.cell hl2).trans hc
      have hl5 : (ad.add k).block < b5 := by rw [HB5.out]; exact hl2
      have hb5u : b5 < U.heap.size := World.block_lt_of_cell? U _ X0.out.c0
      have OKP : Hid (∀ W, Frm (fun x => b5 ≤ x) U W → ObjsJ W b3 (tabG (L.take k)) v sl) := fun W hf => OJ.out.below (BU.out.trans ⟨hf.os, hf.tape, hf.output, hf.size, fun j hj => hf.block j (Nat.lt_of_lt_of_le hj BU.out.size) (by have := HB5.out; omega)⟩)
      have OVB : Hid (∀ y, v.ownBlock = some y → y < b5) := fun y hy => by have := (OJ.out.row.lt y hy).2; have := HB5.out; omega
      have b35 : b3 < b5 := by have := OJ.out.lt; have := HB5.out; omega
      have FWU : Hid (Frm (fun x => b3 ≤ x) V U) := FF.out.trans (Frm.of_below _ BU.out)
      clear hb5 hc
      go_wp2_with fail
      go_loopg [6] row.length (fun gg s6 wq => ∃ (j : Nat) (kd : Int) (vv : Value) (ss : List (Int × Int)), j ≤ row.length ∧ row.length - j ≤ gg ∧ s6 = .int .i64 j ∧ Hid ((kd, ss) = tabS (row.take j) (6, [])) ∧ Hid (BoxJ wq b5 kd vv ss) ∧ Hid (Frm (fun x => b5 ≤ x) U wq))
      case atStart => exact ⟨0, 6, _, [], Nat.zero_le _, by omega, rfl, (rfl : (6, []) = tabS _ _), X0.out, Frm.refl _ _⟩
      case round =>
        obtain ⟨j, kd, vv, ss, hj, hg2, rfl, TT, BX, FU⟩ := hrel
        have hcq : wr.cell? (ad.add k) = some (.slice A row.length c) := (FU.out.cell (by omega) (show ¬ (b5 ≤ (ad.add k).block) by omega)).trans hcu
        obtain ⟨q0, q1, q2, q3, q4, qf, qr⟩ := BX.out
        have QR := Lib.hid qr
        have qf0 := qf 0
        have qf1 := qf 1
        have qf2 := qf 2
        have qf3 := qf 3
        have qf4 := qf 4
        clear qr qf
        by_cases hlt2 : j < row.length
        · obtain ⟨x, hx⟩ : ∃ x, row[j]? = some x := ⟨_, List.getElem?_eq_getElem hlt2⟩
          obtain ⟨ax, e, hax, hxc⟩ := RU.out j x hx
          subst e
          have hne : row ≠ [] := by intro e; rw [e] at hlt2; simp at hlt2
          have hx5 : (ax.add j).block < b5 := by rw [Go.ChangeShapes.block_add]; exact LU.out ax rfl hne
          have hxq : wr.cell? (ax.add j) = some (.int .i64 x) := (FU.out.cell (by omega) (show ¬ (b5 ≤ (ax.add j).block) by omega)).trans hxc
          have TN : Hid (tabS (row.take (j + 1)) (6, []) = if x = 0 then (0, []) else (kd, ss ++ [(6, x)])) := show _ = _ by
            rw [List.take_add_one, hx]
            show tabS (row.take j ++ [x]) _ = _
            rw [tabS_snoc, ← TT.out]
          have hx0 := RX.out x (List.mem_of_getElem? hx)
          clear hx hxc
          cases hq : (x == 0) with
          | true =>
            have hx00 : x = 0 := by simpa using hq
            have TZ : Hid ((0, []) = tabS (row.take (j + 1)) (6, [])) := show _ = _ by rw [TN.out, if_pos hx00]
            have BZ := Lib.hid (box_zero BX.out)
            clear hx00 TN
            go_wp2_with fail
            go_roundg (row.length - (j + 1))
            case measure => omega
            case rel => exact ⟨j + 1, 0, _, [], by omega, by omega, by go_num, TZ.out, BZ.out.1, FU.out.trans BZ.out.2⟩
          | false =>
            have hxne : x ≠ 0 := by simpa using hq
            have TM : Hid ((kd, ss ++ [(6, x)]) = tabS (row.take (j + 1)) (6, [])) := show _ = _ by rw [TN.out, if_neg hxne]
            obtain ⟨i1, hi1, hv0, hv1, hv2⟩ := info_parts val_info
            have hssl : ss.length ≤ 1000 := by
              have h1 := tabS_len (row.take j) (6, [])
              rw [← TT.out] at h1
              have h2 : (row.take j).length ≤ j := List.length_take_le _ _
              simp at h1
              omega
            have hbq := World.block_lt_of_cell? wr _ BX.out.c0
            simp only at hbq
            clear TN hxne
            go_wp2_with fail
            go_region_law (first
              | (go_simp; go_at_call 43; (with_reducible refine (tab_any x _).mono ?_); rintro e w1 ⟨rfl, hb1⟩; have B1 : Hid (Below wr.heap.size wr w1) := (by exact ⟨hb1.os, hb1.tape, hb1.output, hb1.size, hb1.block⟩); have q2' := (B1.out.cell (p := ⟨b5, 2, none⟩) hbq).trans q2; have q1' : b5 < w1.heap.size := Nat.lt_of_lt_of_le hbq B1.out.size; have q2'' : ∀ o, (w1.alloc o).cell? ⟨b5, 2, none⟩ = some vv := (fun o => ((B1.out.alloc B1.out.size o).cell (p := ⟨b5, 2, none⟩) hbq).trans q2); clear hb1)
              | (refine step_append_lies _ rfl (.tmp 33) (.tmp 42) 22 rfl (b5 + 1) 24 i1 _ 2 16 Try.underlying22 hi1 hv0 hv1 hv2 rfl (by decide) vv ss.length (pairCells ss) rfl (own_below QR.out (B1.out.alloc B1.out.size _)) ⟨w1.heap.size, 0, none⟩ 1 1 [iV 6, iV x] rfl rfl lit_cells (by simp [Value.oneCell']) (by decide) (by unfold maxLen; omega) (by omega) (by have := B1.out.size; simp; omega) _ rfl ?_; intro g5 cap5 w5 hw5 hg5 hat5 hlt5; have BM := box_more BX.out B1.out hw5 hg5; obtain ⟨BM1, y25, z25⟩ := BM; have BMH := Lib.hid BM1; clear hw5 hg5 hat5 hlt5 BM1))
            all_goals
              go_wp2_with fail
              go_roundg (row.length - (j + 1))
              case measure => omega
              case rel => exact ⟨j + 1, kd, _, ss ++ [(6, x)], by omega, by omega, by go_num, TM.out, BMH.out.1, FU.out.trans BMH.out.2⟩
        · have hjl : j = row.length := by omega
          have TE : Hid (tabO row = ⟨kd, 0, ss, ⟨#[]⟩, 0⟩) := show _ = _ by
            have := TT.out
            rw [hjl, List.take_of_length_le (Nat.le_refl _)] at this
            unfold tabO
            rw [← this]
          have OQ := Lib.hid (OKP.out wr FU.out)
          have y3 := OQ.out.cell
          have z3 := OQ.out.fz
          have w3 := OQ.out.lt
          have ROW := Lib.hid OQ.out.row
          have TKK := TK.out k hk
          obtain ⟨vA, vc, rfl, hp, hA⟩ := pairs_of_own QR.out
          have HP := Lib.hid hp
          have HA := Lib.hid hA
          obtain ⟨i5, hi5, ho0, ho1, ho2⟩ := info_parts obj_info
          have hwl := World.block_lt_of_cell? wr _ q0
          have hssl : ss.length ≤ 1000 := by
            have h1 := tabS_len (row.take j) (6, [])
            rw [← TT.out] at h1
            have h2 : (row.take j).length ≤ j := List.length_take_le _ _
            simp at h1
            omega
          rw [TKK] at ROW
          clear hp hA hlt2
          go_wp2_with (at_builtin; refine wpList_append_own_at _ rfl (.tmp 46) (.tmp 48) _ rfl (b3 + 1) 52 i5 _ 5 64 Try.underlying39 hi5 ho0 ho1 ho2 rfl (by decide) v k (cellsG sl 0 (tabG (L.take k))) rfl (ROW.out.alloc _) ⟨wr.heap.size, 0, none⟩ 1 1 [iV kd, iV 0, .slice vA ss.length vc, .string ⟨#[]⟩, iV 0] rfl rfl lit_cells (by simp [Value.oneCell']) (by unfold maxLen; omega) (by omega) (by simp; omega) ?_; intro v2 w5 hw5 hg5 _ hat5; obtain ⟨zA, zc, rfl⟩ := slice_own hw5; have PSH := objs_more OQ.out ⟨HP.out, by show ss.length * 16 ≤ _; omega⟩ TKK (fun a ha => ⟨by have := (HA.out a ha).1; omega, (HA.out a ha).2, fun e => by have := OVB.out _ e; have := (HA.out a ha).1; omega⟩) hw5 hg5 hat5; obtain ⟨PS, y5, f5⟩ := PSH; have PSX := Lib.hid PS; clear PS hw5 hg5 hat5)
          have NX : Hid (ObjsJ (w5.setCell ⟨b3, 0, none⟩ (.slice zA (k + 1) zc)) b3 (tabG (L.take (k + 1))) (.slice zA (k + 1) zc) (fun i => if i = (tabG (L.take k)).length then (vA, vc) else sl i)) := show ObjsJ _ _ _ _ _ by
            rw [TS.out k row HRW.out, TE.out]; exact PSX.out.1
          have NF : Hid (Frm (fun x => b3 ≤ x) V (w5.setCell ⟨b3, 0, none⟩ (.slice zA (k + 1) zc))) := FWU.out.trans ((FU.out.mono fun x hx => by omega).trans PSX.out.2)
          clear PSX
          go_roundg (n - (k + 1))
          case measure => omega
          case rel => exact ⟨k + 1, _, _, by omega, by omega, by go_num, NX.out, NF.out⟩
    · have hkn : k = n := by omega
      have TKK := TK.out k hk
      have hrow := OJ.out.row
      rw [TKK] at hrow
      obtain ⟨zA, zc, rfl⟩ := slice_own hrow
      have y3 := OJ.out.cell
      have y2 := (FF.out.cell (p := ⟨b2, 0, none⟩) (show b2 < _ by omega) (show ¬ (b3 ≤ b2) by omega)).trans c2
      have f2' : wr.frozen? ⟨b2, 0, none⟩ = false := (World.frozen?_of_block (w := V) (a := ⟨b2, 0, none⟩) (FF.out.block b2 (by omega) (show ¬ (b3 ≤ b2) by omega))).trans f2
      have GG : Hid (GAtLo w.heap.size (wr.setCell ⟨b2, 0, none⟩ (.slice zA k zc)) zA (tabG L)) := by
        have h1 := OJ.out
        rw [show Value.slice zA k zc = .slice zA (tabG (L.take k)).length zc by rw [TKK]] at h1
        have h2 := (h1.graph (x := .slice zA k zc) b23).mono (show w.heap.size ≤ b3 by have := HB2.out; omega)
        rw [hkn, FULL.out] at h2
        rw [hkn]
        exact h2
      have BE : Hid (Below w.heap.size w (wr.setCell ⟨b2, 0, none⟩ (.slice zA k zc))) := BW.out.setCell (show w.heap.size ≤ b2 by have := HB2.out; omega) _
      have HKN := Lib.hid hkn
      clear hkn hrow
      go_wp2_with fail
      refine bodyPost_ret (v := gV zA k zc) (by simp [results, Try.results44, go_sem, y2]) rfl ?_
      rw [← HKN.out]
      exact ⟨zA, zc, rfl, GG.out, BE.out⟩
end Go.Proofs.Ytiocfnpfmilkgaa
