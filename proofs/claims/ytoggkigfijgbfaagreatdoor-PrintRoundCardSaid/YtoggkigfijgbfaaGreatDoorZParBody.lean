/- body: a function's parameters and statements. -/
import Derived.Test.YtoggkigfijgbfaaGreatDoorZAbb
import Derived.Test.YtoggkigfijgbfaaGreatDoorZParItems
namespace Go.Proofs.YtoggkigfijgbfaaGreatDoor.P5
set_option maxRecDepth 20000
open Go.RowKit Go.Maps

set_option maxHeartbeats 8000000 in
theorem body_step {n : Nat} (S : ∀ m, m ≤ n → Spec m) (hn : n ≤ 1099511627776) {w : World} {p d : Nat} {ts : List Tok} (line : Nat) (h : PAt w p d ts) (hD : parseF (n + 1) (.body line) d ts ≠ .out) :
    Calls Tryz.prog 146 #[pV p, iV line] w (Ends p d [p] (parseF (n + 1) (.body line) d ts) (VE w.heap.size) w) := by
  have hpl := h.lt
  have hmf : ∀ (fn : Fn) (first cap : Array Value) (w : World), (Instr.makeFunc fn first cap).run Tryz.prog w = .ok (.func fn first cap) w := fun _ _ _ _ => rfl
  unfold parseF at hD ⊢
  simp only [] at hD ⊢
  have D0 : parseF n (.list [40] [41] 1) d ts ≠ .out := bind_done hD
  cases n with
  | zero => exact absurd rfl D0
  | succ n =>
  have P1 : Past [p] w (((w.alloc (.cells #[pV p] 99)).alloc (.cells #[iV 9, iV line, iV 0, sV [], .pointer none, .pointer none, .slice none 0 0, .slice none 0 0, .slice none 0 0, .slice none 0 0] 55)).alloc (.cells #[pV (w.heap.size + 1)] 49)) := (((Past.refl _ _).alloc _).alloc _).alloc _
  have hX0 : ExC (((w.alloc (.cells #[pV p] 99)).alloc (.cells #[iV 9, iV line, iV 0, sV [], .pointer none, .pointer none, .slice none 0 0, .slice none 0 0, .slice none 0 0, .slice none 0 0] 55)).alloc (.cells #[pV (w.heap.size + 1)] 49)) (w.heap.size + 1) 9 line 0 [] (.pointer none) (.pointer none) (.slice none 0 0) (.slice none 0 0) (.slice none 0 0) (.slice none 0 0) := by
    have hx := exC_new (w.alloc (.cells #[pV p] 99)) 9 line 0 [] (.pointer none) (.pointer none) (.slice none 0 0) (.slice none 0 0) (.slice none 0 0) (.slice none 0 0) 55
    have hz : (w.alloc (.cells #[pV p] 99)).heap.size = w.heap.size + 1 := by simp
    rw [hz] at hx
    exact hx.keep (Below.heap_alloc _ _ _ hx.lt)
  have I0 : IBody p w.heap.size (w.heap.size + 2) (w.heap.size + 1) (w.heap.size + 3) line [] (((w.alloc (.cells #[pV p] 99)).alloc (.cells #[iV 9, iV line, iV 0, sV [], .pointer none, .pointer none, .slice none 0 0, .slice none 0 0, .slice none 0 0, .slice none 0 0] 55)).alloc (.cells #[pV (w.heap.size + 1)] 49)) :=
    ⟨by simp [go_sem], by simp [go_sem], by simp, _, hX0, OwnTrees.nil _ _ _ _⟩
  have L := list_any (K := 190) (c1 := w.heap.size + 2) (c2 := w.heap.size) [40] [41] (by decide) (by decide) (IBody p w.heap.size (w.heap.size + 2) (w.heap.size + 1) (w.heap.size + 3) line) w P1 hpl (w.heap.size + 3) (by simp)
    (fun acc w1 w2 hi hw => hi.past hw (by omega) (by omega) (by omega) (by omega))
    (fun m d q acc w1 ts hm ha hi hwo hlq hc h hD => body1_any hpl (by omega) (by omega) (by omega) (by omega) (by omega) (by omega) (by omega) (by omega) (by omega) hi hwo hlq hc h hD)
    (fun args w => by simp [go_sem]) (((h.alloc _).alloc _).alloc _) I0 D0
  have L := Lib.hid L
  have HS := Lib.hid (S (n + 1) (Nat.le_refl _))
  generalize parseF (n + 1) (.list [40] [41] 1) d ts = r0 at hD D0 L ⊢
  clear S P1 hX0 I0 h
  cases r0 with
  | out => exact absurd rfl D0
  | bad c l =>
    clear hD D0
    go_enter Tryz.func146, Tryz.ntmps146
    go_wp2_with (first
      | (go_at_call 189; (with_reducible refine L.out.mono ?_); rintro e wb hB; obtain ⟨b', rfl, hb1, hb2, hb3, hb4⟩ := hB))
    exact ⟨rfl, b', rfl, hb1, hb2, hb3, hb4⟩
  | ok x0 ts0 =>
    rw [ok_bind] at hD ⊢
    have D1 : parseF (n + 1) .stmts d ts0 ≠ .out := bind_done hD
    have C1 := Lib.hid (fun (w : World) (h : PAt w p d ts0) => HS.out.stmts h D1)
    generalize parseF (n + 1) .stmts d ts0 = r1 at hD D1 C1 ⊢
    have HD := Lib.hid hD
    clear D0 hD D1
    go_enter Tryz.func146, Tryz.ntmps146
    go_wp2_with (first
      | (go_at_call 189; (with_reducible refine L.out.mono ?_); rintro e w2 ⟨_, rfl, ⟨rfl, acc, rfl, hi⟩, hp2, hw2⟩; obtain ⟨cq2, cf2, hlo, v, hX2, hO⟩ := hi; have hV := hO.sl; clear hO; obtain ⟨A, c, rfl⟩ := hV.sl; have hpd := hp2.drew; have hz2 := hw2.size))
    have HX := Lib.hid hX2
    have HV := Lib.hid hV
    have HW := Lib.hid hw2
    clear hX2 hV hw2
    go_region_with (first
      | (go_at_call 26; (with_reducible refine (C1.out _ hpd).mono ?_); intro e w3 hE; rcases r1 with _ | ⟨c', l'⟩ | ⟨x1, ts1⟩; (· exact hE.elim); (· obtain ⟨b', rfl, hb1, hb2, hb3, hb4⟩ := hE; exact ⟨rfl, b', rfl, Nat.le_trans (by exact hz2) hb1, hb2, HW.out.drew.trans hb3, hb4⟩); obtain ⟨v3, rfl, hv3, hp3, hw3⟩ := hE; obtain ⟨A3, c3, rfl⟩ := hv3.sl; have hz3 : w2.heap.size ≤ w3.heap.size := hw3.size; have cf3 := hw3.cell_some (v := pV (w.heap.size + 1)) (by simpa using cf2) (by simp; omega); have cq3 := hw3.cell_some (v := pV p) (by simpa using cq2) (by simp; omega); have hX3 := HX.out.keep (((Past.refl [p] w2).drew.trans hw3).block _ HX.out.lt (by simp; omega)); have x9 := hX3.c9; have y9 := hX3.warm 9))
    all_goals
      have C2 := Lib.hid (fun (w : World) (h : PAt w p d ts1) => want_any [101, 110, 100] (by decide) h)
      have HX3 := Lib.hid hX3
      have HV3 := Lib.hid hv3
      have HW3 := Lib.hid hw3
      clear hX3 hv3 hw3 C1 L
      by_cases k1 : sgnT ts1 = [101, 110, 100]
      · have e2 : wantT [101, 110, 100] ts1 = .ok .nil ts1.tail := by unfold wantT; rw [if_pos k1]
        replace e2 := Lib.hid e2
        clear k1
        go_wp2_with (first
          | (go_at_call 87; (with_reducible refine (C2.out _ ?_).mono ?_); (· exact ab1); intro e w5 hE; rw [e2.out] at hE; obtain ⟨v5, rfl, rfl, hp5, hw5⟩ := hE; have cf5 := hw5.cell_some (v := pV (w.heap.size + 1)) ((cell_set_block (by omega) _).trans cf3) (by simp; omega)))
        go_ret
        show Ends p d [p] ((wantT [101, 110, 100] ts1).bind fun _ ts4 => .ok (.ex 9 line 0 [] .nil .nil .nil .nil (treeL acc) x1) ts4) (VE w.heap.size) w _ _
        rw [e2.out]
        have PS := ((Past.refl [p, w.heap.size + 1] w3).setCell (p := ⟨w.heap.size + 1, 9, none⟩) (.inl (by simp)) (.slice A3 (lenT x1) c3)).trans (hw5.mono (by simp))
        have hX5 := (HX3.out.set9 (.slice A3 (lenT x1) c3)).keep (hw5.block _ (by simpa using HX3.out.lt) (by simp; omega))
        refine ⟨_, rfl, ⟨at_ex hX5 ⟨by omega, hX5.lt⟩ rfl rfl (sl_nil _ _) (sl_nil _ _) (HV.out.past (((Past.refl [p, w.heap.size + 1] w2).drew.trans (HW3.out.mono (by simp))).trans PS) (by simp; omega) (by omega)) (HV3.out.past PS (by simp; omega) (by show w.heap.size ≤ w2.heap.size; omega)), rfl⟩, hp5, ?_⟩
        exact (((HW.out.drew.trans HW3.out).setCell (.inr (by simp)) _).trans hw5)
      · have e2 : wantT [101, 110, 100] ts1 = .bad 4 (linT ts1) := by unfold wantT; rw [if_neg k1]
        replace e2 := Lib.hid e2
        clear k1
        go_wp2_with (first
          | (go_at_call 87; (with_reducible refine (C2.out _ ?_).mono ?_); (· exact ab1); intro e w5 hE; rw [e2.out] at hE; obtain ⟨b', rfl, hb1, hb2, hb3, hb4⟩ := hE))
        refine ⟨rfl, ?_⟩
        show Ends p d [p] ((wantT [101, 110, 100] ts1).bind fun _ ts4 => .ok (.ex 9 line 0 [] .nil .nil .nil .nil (treeL acc) x1) ts4) (VE w.heap.size) w _ _
        rw [e2.out]
        exact ⟨b', rfl, Nat.le_trans (by simp; omega) hb1, hb2, ((HW.out.drew.trans HW3.out).setCell (.inr (by simp)) _).trans hb3, hb4⟩
end Go.Proofs.YtoggkigfijgbfaaGreatDoor.P5
