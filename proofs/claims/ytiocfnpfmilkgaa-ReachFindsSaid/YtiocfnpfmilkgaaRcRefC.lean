/- tallowref11.From, Lost. -/
import Derived.Test.YtiocfnpfmilkgaaRcRefB
import Derived.Test.YtiocfnpfmilkgaaGrRefB
namespace Go.Proofs.Ytiocfnpfmilkgaa
set_option maxRecDepth 20000
open Go.RowKit Go.Maps

set_option maxHeartbeats 4000000 in
theorem RFrom_any {w : World} {A : Option Addr} {c : Nat} {g : List OB} (hg : GAt w A g) (hn : g.length ≤ 900) {B : Option Addr} {d : Nat} {l : List (Int × Int)} (hl : l.length * 16 ≤ 140737488355328) (h : PairsAt w B l) :
    Calls Try.prog 30 #[gV A g.length c, .slice B l.length d] w (GivesInts (intsOf (fromL g l true)) w) := by
  obtain ⟨i0, hi, hz0, hz1, hz2⟩ := info_parts int_info
  have CH : Hid (∀ W, Below w.heap.size w W → Calls Try.prog 68 #[gV A g.length c] W fun e w' => e = .returned (.bool (checkB g)) ∧ Below W.heap.size W w') := fun W hW => RCheck_any (hg.below hW) (by omega)
  cases hc : checkB g with
  | false =>
    rw [show fromL g l true = [] by unfold fromL; rw [hc]; rfl]
    rw [hc] at CH
    clear hg hc h hl
    generalize g.length = n at *
    generalize l.length = nl at *
    go_enter Try.func30, Try.ntmps30
    go_wp2_with (go_at_call 68; (with_reducible refine (CH.out _ ((Below.refl _ _).alloc (Nat.le_refl _) _)).mono ?_); rintro e w1 ⟨rfl, hb⟩; have B1 := Lib.hid (below_box hb); clear hb)
    go_ret
    exact ⟨_, rfl, World.ownsRow_nil _ _ _ _, B1.out⟩
  | true =>
    rw [show fromL g l true = whichL (fun m o => o.kind != 0 && (reachB g (objsN g l) m == true)) g by unfold fromL; rw [hc]; rfl]
    have HT : Hid (∀ m, reachB g (objsN g l) m = true → thereN g m = true) := fun m hm => (reachB_iff.1 hm).there hc (fun x hx => objs_there hx)
    have RC : Hid (∀ W, Below w.heap.size w W → Calls Try.prog 69 #[gV A g.length c, .slice B l.length d] W fun e w' => ∃ b, e = .returned (.slice (some ⟨b, 0, none⟩) g.length g.length) ∧ RowB w' b g.length (fun i => reachB g (objsN g l) (i + 1)) ∧ W.heap.size ≤ b ∧ Below W.heap.size W w') := fun W hW => Rreached_any (hg.below hW) hc hn hl (pairs_below h hW)
    rw [hc] at CH
    have GET : Hid (∀ i, i < g.length → ∃ p, g[i]? = some p) := fun i hi => ⟨_, List.getElem?_eq_getElem hi⟩
    have FULL : Hid (g.take g.length = g) := List.take_of_length_le (Nat.le_refl _)
    generalize hR : reachB g (objsN g l) = R at *
    have WS : Hid (∀ (k : Nat) (o : Proofs.Ytiocfnpfmilkgaa.OB), g[k]? = some o → whichL (fun m o => o.kind != 0 && (R m == true)) (g.take (k + 1)) = whichL (fun m o => o.kind != 0 && (R m == true)) (g.take k) ++ if R (k + 1) then [k + 1] else []) := fun k o ho => by
      rw [which_snoc ho]
      congr 1
      cases e : R (k + 1) with
      | false => simp
      | true =>
        have := HT.out (k + 1) e
        rw [there_at ho] at this
        simp [this]
    have W0 : Hid (whichL (fun m o => o.kind != 0 && (R m == true)) (g.take 0) = []) := (rfl : whichL _ [] = [])
    have LEN : Hid (∀ k, (intsOf (whichL (fun m o => o.kind != 0 && (R m == true)) (g.take k))).length ≤ k) := fun k => by
      rw [intsOf_len]
      exact Nat.le_trans (which_len _ _) (List.length_take_le _ _)
    have WF : Hid (whichL (fun m o => o.kind != 0 && (R m == true)) g = whichL (fun m o => o.kind != 0 && (R m == true)) (g.take g.length)) := show _ = _ by rw [FULL.out]
    rw [WF.out]
    generalize hP : (fun k => whichL (fun m o => o.kind != 0 && (R m == true)) (g.take k)) = P
    have hPk : ∀ k, whichL (fun m o => o.kind != 0 && (R m == true)) (g.take k) = P k := fun k => by rw [← hP]
    simp only [hPk] at WS W0 LEN WF ⊢
    clear hPk hP hR WF FULL HT
    clear hg hc h hl
    generalize g.length = n at *
    generalize l.length = nl at *
    go_enter Try.func30, Try.ntmps30
    go_wp2_with (first
      | (go_at_call 68; (with_reducible refine (CH.out _ ((Below.refl _ _).alloc (Nat.le_refl _) _)).mono ?_); rintro e V ⟨rfl, hb⟩; have BV := Lib.hid (below_box hb); have c0 := boxed hb (j := 0) rfl; clear hb)
      | (go_at_call 69; (with_reducible refine (RC.out _ BV.out).mono ?_); rintro e w2 ⟨bm, rfl, hr2, hl2, hb2⟩))
    have B2 : Hid (Below w.heap.size w w2) := BV.out.trans (hb2.mono BV.out.size)
    have RR := Lib.hid hr2
    have hbl := hr2.lt
    clear hr2 hb2 c0
    go_loopw [5, 7] (fun v i wr => ∃ k : Nat, k ≤ n ∧ i = .int .i64 k ∧ wr.ownsRow w2.heap.size 3 1 v (intsOf (P k)).length ((intsOf (P k)).map (Value.int .i64)) ∧ Below w2.heap.size w2 wr) (fun _ i _ => n - (RowKit.intOf i).toNat)
    case atStart => exact ⟨0, Nat.zero_le _, rfl, (show World.ownsRow _ _ _ _ _ _ _ by rw [W0.out]; exact World.ownsRow_nil _ _ _ _), Below.refl _ _⟩
    case round =>
      obtain ⟨k, hk, rfl, hown, hb⟩ := hrel
      by_cases hlt : k < n
      · obtain ⟨o, ho⟩ := GET.out k hlt
        have r0 : wr.cell? ⟨bm, k, none⟩ = some (.bool (R (k + 1))) := (hb.cell (p := ⟨bm, k, none⟩) hbl).trans (World.rowIs.cell RR.out hlt)
        have ED := Lib.hid (WS.out k o ho)
        have O := Lib.hid hown
        have BB := Lib.hid hb
        have L1 := LEN.out k
        have hbw := hb.size
        clear hown hb ho
        cases hy : R (k + 1) with
        | true =>
          rw [hy] at r0
          have E1 : Hid (intsOf (P (k + 1)) = intsOf (P k) ++ [(k : Int) + 1]) := show _ = _ by rw [ED.out, hy, if_pos rfl, intsOf_snoc]; rfl
          clear hy
          go_wp2_with (at_builtin; refine wpList_append_own _ rfl (.tmp 24) (.tmp 27) _ rfl w2.heap.size 3 i0 _ 1 8 Try.underlying44 hi hz0 hz1 hz2 rfl (by decide) _ _ _ rfl (O.out.alloc _) ⟨wr.heap.size, 0, none⟩ 1 1 [.int .i64 ((k : Int) + 1)] rfl rfl one_cell (by simp [Value.oneCell']) (by unfold maxLen; omega) (by omega) (by simp; omega) ?_; intro v' w5 hown5 hg5 _)
          have R5 := refs_step O.out BB.out hown5 hg5 E1.out
          clear hown5 hg5
          go_roundw
          case rel => exact ⟨k + 1, by omega, by go_num, R5.1, R5.2⟩
          case measure => simp [RowKit.intOf]; omega
        | false =>
          rw [hy] at r0
          have E1 : Hid (intsOf (P (k + 1)) = intsOf (P k)) := show _ = _ by rw [ED.out, hy]; simp
          clear hy
          go_wp2_with fail
          go_roundw
          case rel => exact ⟨k + 1, by omega, by go_num, by rw [E1.out]; exact O.out, BB.out⟩
          case measure => simp [RowKit.intOf]; omega
      · have O := Lib.hid hown
        have BB := Lib.hid hb
        have hkn : k = n := by omega
        clear hown hb
        go_wp2_with fail
        go_ret
        have O2 := O.out
        rw [hkn] at O2
        exact ⟨_, rfl, own_less O2 B2.out.size, B2.out.trans (BB.out.mono B2.out.size)⟩
set_option maxHeartbeats 4000000 in
theorem RLost_any {w : World} {A : Option Addr} {c : Nat} {g : List OB} (hg : GAt w A g) (hn : g.length ≤ 900) {B : Option Addr} {d : Nat} {l : List (Int × Int)} (hl : l.length * 16 ≤ 140737488355328) (h : PairsAt w B l) :
    Calls Try.prog 32 #[gV A g.length c, .slice B l.length d] w (GivesInts (intsOf (fromL g l false)) w) := by
  obtain ⟨i0, hi, hz0, hz1, hz2⟩ := info_parts int_info
  have CH : Hid (∀ W, Below w.heap.size w W → Calls Try.prog 68 #[gV A g.length c] W fun e w' => e = .returned (.bool (checkB g)) ∧ Below W.heap.size W w') := fun W hW => RCheck_any (hg.below hW) (by omega)
  cases hc : checkB g with
  | false =>
    rw [show fromL g l false = [] by unfold fromL; rw [hc]; rfl]
    rw [hc] at CH
    clear hg hc h hl
    generalize g.length = n at *
    generalize l.length = nl at *
    go_enter Try.func32, Try.ntmps32
    go_wp2_with (go_at_call 68; (with_reducible refine (CH.out _ ((Below.refl _ _).alloc (Nat.le_refl _) _)).mono ?_); rintro e w1 ⟨rfl, hb⟩; have B1 := Lib.hid (below_box hb); clear hb)
    go_ret
    exact ⟨_, rfl, World.ownsRow_nil _ _ _ _, B1.out⟩
  | true =>
    rw [show fromL g l false = whichL (fun m o => o.kind != 0 && (reachB g (objsN g l) m == false)) g by unfold fromL; rw [hc]; rfl]
    have G := Lib.hid hg
    have RC : Hid (∀ W, Below w.heap.size w W → Calls Try.prog 69 #[gV A g.length c, .slice B l.length d] W fun e w' => ∃ b, e = .returned (.slice (some ⟨b, 0, none⟩) g.length g.length) ∧ RowB w' b g.length (fun i => reachB g (objsN g l) (i + 1)) ∧ W.heap.size ≤ b ∧ Below W.heap.size W w') := fun W hW => Rreached_any (hg.below hW) hc hn hl (pairs_below h hW)
    rw [hc] at CH
    have GET : Hid (∀ i, i < g.length → ∃ p, g[i]? = some p) := fun i hi => ⟨_, List.getElem?_eq_getElem hi⟩
    have FULL : Hid (g.take g.length = g) := List.take_of_length_le (Nat.le_refl _)
    generalize hR : reachB g (objsN g l) = R at *
    have WS : Hid (∀ (k : Nat) (o : Proofs.Ytiocfnpfmilkgaa.OB), g[k]? = some o → whichL (fun m o => o.kind != 0 && (R m == false)) (g.take (k + 1)) = whichL (fun m o => o.kind != 0 && (R m == false)) (g.take k) ++ if (o.kind != 0 && (R (k + 1) == false)) then [k + 1] else []) := fun k o ho => by
      rw [which_snoc ho]
    have W0 : Hid (whichL (fun m o => o.kind != 0 && (R m == false)) (g.take 0) = []) := (rfl : whichL _ [] = [])
    have LEN : Hid (∀ k, (intsOf (whichL (fun m o => o.kind != 0 && (R m == false)) (g.take k))).length ≤ k) := fun k => by
      rw [intsOf_len]
      exact Nat.le_trans (which_len _ _) (List.length_take_le _ _)
    have WF : Hid (whichL (fun m o => o.kind != 0 && (R m == false)) g = whichL (fun m o => o.kind != 0 && (R m == false)) (g.take g.length)) := show _ = _ by rw [FULL.out]
    rw [WF.out]
    generalize hP : (fun k => whichL (fun m o => o.kind != 0 && (R m == false)) (g.take k)) = P
    have hPk : ∀ k, whichL (fun m o => o.kind != 0 && (R m == false)) (g.take k) = P k := fun k => by rw [← hP]
    simp only [hPk] at WS W0 LEN WF ⊢
    clear hPk hP hR WF FULL
    clear hg hc h hl
    generalize g.length = n at *
    generalize l.length = nl at *
    go_enter Try.func32, Try.ntmps32
    go_wp2_with (first
      | (go_at_call 68; (with_reducible refine (CH.out _ ((Below.refl _ _).alloc (Nat.le_refl _) _)).mono ?_); rintro e V ⟨rfl, hb⟩; have BV := Lib.hid (below_box hb); have c0 := boxed hb (j := 0) rfl; have zV : w.heap.size < V.heap.size := (by have := hb.size; simp at this; omega); clear hb)
      | (go_at_call 69; (with_reducible refine (RC.out _ BV.out).mono ?_); rintro e w2 ⟨bm, rfl, hr2, hl2, hb2⟩))
    have B2 : Hid (Below w.heap.size w w2) := BV.out.trans (hb2.mono BV.out.size)
    have RR := Lib.hid hr2
    have hbl := hr2.lt
    have x2 : w2.cell? ⟨w.heap.size, 0, none⟩ = some (.slice A n c) := (hb2.cell (p := ⟨w.heap.size, 0, none⟩) zV).trans c0
    have z2 : w.heap.size < w2.heap.size := Nat.lt_of_lt_of_le zV hb2.size
    clear hr2 hb2 c0
    go_loopw [5, 7] (fun v i wr => ∃ k : Nat, k ≤ n ∧ i = .int .i64 k ∧ wr.ownsRow w2.heap.size 3 1 v (intsOf (P k)).length ((intsOf (P k)).map (Value.int .i64)) ∧ Below w2.heap.size w2 wr) (fun _ i _ => n - (RowKit.intOf i).toNat)
    case atStart => exact ⟨0, Nat.zero_le _, rfl, (show World.ownsRow _ _ _ _ _ _ _ by rw [W0.out]; exact World.ownsRow_nil _ _ _ _), Below.refl _ _⟩
    case round =>
      obtain ⟨k, hk, rfl, hown, hb⟩ := hrel
      by_cases hlt : k < n
      · obtain ⟨o, ho⟩ := GET.out k hlt
        have r0 : wr.cell? ⟨bm, k, none⟩ = some (.bool (R (k + 1))) := (hb.cell (p := ⟨bm, k, none⟩) hbl).trans (World.rowIs.cell RR.out hlt)
        have ED := Lib.hid (WS.out k o ho)
        have O := Lib.hid hown
        have BB := Lib.hid hb
        have L1 := LEN.out k
        have hbw := hb.size
        have x0 : wr.cell? ⟨w.heap.size, 0, none⟩ = some (.slice A n c) := (hb.cell (p := ⟨w.heap.size, 0, none⟩) z2).trans x2
        obtain ⟨a, sA, sc, e, hal, ⟨o0, o1, o2, o3, o4⟩, hs⟩ := (G.out.below (B2.out.trans (hb.mono B2.out.size))) k o ho
        subst e
        have hl2 : (a.add (k * 5)).block < wr.heap.size := by rw [Go.ChangeShapes.block_add]; exact hal
        have hli : (k : Int) < (n : Int) := by omega
        clear hown hb ho hs o1 o2 o3 o4
        cases hy : R (k + 1) with
        | true =>
          rw [hy] at r0
          have E1 : Hid (intsOf (P (k + 1)) = intsOf (P k)) := show _ = _ by rw [ED.out, hy]; simp
          clear hy
          go_wp2_with fail
          go_roundw
          case rel => exact ⟨k + 1, by omega, by go_num, by rw [E1.out]; exact O.out, BB.out⟩
          case measure => simp [RowKit.intOf]; omega
        | false =>
          rw [hy] at r0
          by_cases hk0 : o.kind = 0
          · have E1 : Hid (intsOf (P (k + 1)) = intsOf (P k)) := show _ = _ by rw [ED.out, hy]; simp [hk0]
            rw [hk0] at o0
            clear hy hk0 ED
            go_wp2_with fail
            go_roundw
            case rel => exact ⟨k + 1, by omega, by go_num, by rw [E1.out]; exact O.out, BB.out⟩
            case measure => simp [RowKit.intOf]; omega
          · have e0 : (o.kind != 0) = true := by simpa using hk0
            have E1 : Hid (intsOf (P (k + 1)) = intsOf (P k) ++ [(k : Int) + 1]) := show _ = _ by rw [ED.out, hy, e0]; simp [intsOf]
            clear hy hk0 ED
            generalize o.kind = kd at *
            go_wp2_with (at_builtin; refine wpList_append_own _ rfl (.tmp 34) (.tmp 37) _ rfl w2.heap.size 3 i0 _ 1 8 Try.underlying44 hi hz0 hz1 hz2 rfl (by decide) _ _ _ rfl (O.out.alloc _) ⟨wr.heap.size, 0, none⟩ 1 1 [.int .i64 ((k : Int) + 1)] rfl rfl one_cell (by simp [Value.oneCell']) (by unfold maxLen; omega) (by omega) (by simp; omega) ?_; intro v' w5 hown5 hg5 _)
            have R5 := refs_step O.out BB.out hown5 hg5 E1.out
            clear hown5 hg5
            go_roundw
            case rel => exact ⟨k + 1, by omega, by go_num, R5.1, R5.2⟩
            case measure => simp [RowKit.intOf]; omega
      · have O := Lib.hid hown
        have BB := Lib.hid hb
        have hkn : k = n := by omega
        clear hown hb
        go_wp2_with fail
        go_ret
        have O2 := O.out
        rw [hkn] at O2
        exact ⟨_, rfl, own_less O2 B2.out.size, B2.out.trans (BB.out.mono B2.out.size)⟩
end Go.Proofs.Ytiocfnpfmilkgaa
