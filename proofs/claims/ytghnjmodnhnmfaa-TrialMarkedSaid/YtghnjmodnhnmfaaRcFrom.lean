/- reach.From and Lost. -/
import Derived.Test.YtghnjmodnhnmfaaRcMarks
import Derived.Deep.RegionHeld3
import Derived.Deep.QuietTactic
import Derived.BigQuiet
namespace Go.Proofs.Ytghnjmodnhnmfaa
set_option maxRecDepth 20000
open Go.RowKit Go.Maps

theorem objs_len (g : List OB) (l : List (Int × Int)) : (objsN g l).length ≤ l.length := by
  unfold objsN
  refine Nat.le_trans (List.length_filter_le _ _) ?_
  rw [List.length_map]
  exact refsL_len l
theorem RowB.cell {w : World} {b n : Nat} {M : Nat → Bool} (h : RowB w b n M) {k : Nat} (hk : k < n) : w.cell? ⟨b, k, none⟩ = some (.bool (M k)) := World.rowIs.cell h hk
set_option maxHeartbeats 4000000 in
theorem fromLost_any {w : World} {A : Option Addr} {c : Nat} {g : List OB} (hg : GAt w A g) (hn : g.length ≤ 900) {B : Option Addr} {d : Nat} {l : List (Int × Int)} (hl : l.length * 16 ≤ 140737488355328) (h : PairsAt w B l) (can : Bool) :
    Calls Try.prog 82 #[gV A g.length c, .slice B l.length d, .bool can] w (GivesInts (intsOf (fromL g l can)) w) := by
  obtain ⟨i0, hi, hz0, hz1, hz2⟩ := info_parts int_info
  have CH : Hid (∀ W, Below w.heap.size w W → Calls Try.prog 22 #[gV A g.length c] W fun e w' => e = .returned (.bool (checkB g)) ∧ Below W.heap.size W w') := fun W hW => Check_any (hg.below hW) (by omega)
  cases hc : checkB g with
  | false =>
    rw [show fromL g l can = [] by unfold fromL; rw [hc]; rfl]
    rw [hc] at CH
    clear hg hc h hl
    generalize g.length = n at *
    generalize l.length = nl at *
    go_enter Try.func82, Try.ntmps82
    go_wp2_with (go_at_call 22; (with_reducible refine (CH.out _ ((Below.refl _ _).alloc (Nat.le_refl _) _)).mono ?_); rintro e w1 ⟨rfl, hb⟩; have B1 := Lib.hid (below_box hb); clear hb)
    go_ret
    exact ⟨_, rfl, World.ownsRow_nil _ _ _ _, B1.out⟩
  | true =>
    rw [show fromL g l can = whichL (fun m o => o.kind != 0 && (reachB g (objsN g l) m == can)) g by unfold fromL; rw [hc]; rfl]
    rw [hc] at CH
    have OB : Hid (∀ W, Below w.heap.size w W → Calls Try.prog 89 #[gV A g.length c, .slice B l.length d] W (GivesInts (intsOf (objsN g l)) W)) := fun W hW => objects_any (hg.below hW) (by omega) hl (pairs_below h hW)
    have MK : Hid (∀ W C cc, Below w.heap.size w W → IntsAt W C (intsOf (objsN g l)) → Calls Try.prog 127 #[gV A g.length c, .slice C (intsOf (objsN g l)).length cc] W fun e w' => ∃ bm, e = .returned (.slice (some ⟨bm, 0, none⟩) (g.length + 1) (g.length + 1)) ∧ RowB w' bm (g.length + 1) (reachB g (objsN g l)) ∧ Below W.heap.size W w') := fun W C cc hW hi => by
      rw [intsOf_len]
      refine (marks_any (d := cc) (hg.below hW) hc hn hi (by have := objs_len g l; omega) (fun x hx => objs_there hx)).mono ?_
      rintro e w' ⟨bm, rfl, h1, -, h2⟩
      exact ⟨bm, rfl, h1, h2⟩
    have TH : Hid (∀ W (k : Nat), Below w.heap.size w W → k < g.length → Calls Try.prog 86 #[gV A g.length c, iV ((k : Int) + 1)] W fun e w' => e = .returned (.bool (thereN g (k + 1))) ∧ Below W.heap.size W w') := fun W k hW hk => by
      have := isThere_nat (c := c) (hg.below hW) (by omega) (k + 1) (by omega)
      rw [show (((k + 1 : Nat) : Int)) = (k : Int) + 1 by omega] at this
      exact this
    have GET : Hid (∀ i, i < g.length → ∃ p, g[i]? = some p) := fun i hi => ⟨_, List.getElem?_eq_getElem hi⟩
    have FULL : Hid (g.take g.length = g) := List.take_of_length_le (Nat.le_refl _)
    generalize hR : reachB g (objsN g l) = R at *
    have WS : Hid (∀ (k : Nat) (o : Proofs.Ytghnjmodnhnmfaa.OB), g[k]? = some o → whichL (fun m o => o.kind != 0 && (R m == can)) (g.take (k + 1)) = whichL (fun m o => o.kind != 0 && (R m == can)) (g.take k) ++ if (thereN g (k + 1) && (R (k + 1) == can)) then [k + 1] else []) := fun k o ho => by
      rw [which_snoc ho, there_at ho]
    have W0 : Hid (whichL (fun m o => o.kind != 0 && (R m == can)) (g.take 0) = []) := (rfl : whichL _ [] = [])
    have LEN : Hid (∀ k, (intsOf (whichL (fun m o => o.kind != 0 && (R m == can)) (g.take k))).length ≤ k) := fun k => by
      rw [intsOf_len]
      exact Nat.le_trans (which_len _ _) (List.length_take_le _ _)
    have WF : Hid (whichL (fun m o => o.kind != 0 && (R m == can)) g = whichL (fun m o => o.kind != 0 && (R m == can)) (g.take g.length)) := show _ = _ by rw [FULL.out]
    rw [WF.out]
    generalize hP : (fun k => whichL (fun m o => o.kind != 0 && (R m == can)) (g.take k)) = P
    have hPk : ∀ k, whichL (fun m o => o.kind != 0 && (R m == can)) (g.take k) = P k := fun k => by rw [← hP]
    simp only [hPk] at WS W0 LEN WF ⊢
    clear hPk hP hR WF FULL
    generalize objsN g l = X at *
    clear hg hc h hl
    generalize g.length = n at *
    generalize l.length = nl at *
    go_enter Try.func82, Try.ntmps82
    go_upto_region 3 with (go_at_call 22; (with_reducible refine (CH.out _ ((Below.refl _ _).alloc (Nat.le_refl _) _)).mono ?_); rintro e V ⟨rfl, hb⟩; have BV := Lib.hid (below_box hb); have c0 := boxed hb (j := 0) rfl; have zV : w.heap.size < V.heap.size := (by have := hb.size; simp at this; omega); clear hb)
    have c0' : V.cell? ⟨w.heap.size, 0, none⟩ = some (.slice A n c) := c0
    clear c0
    have CX : Hid (∀ W, Below V.heap.size V W → W.cell? ⟨w.heap.size, 0, none⟩ = some (.slice A n c)) := fun W hW => (hW.cell (p := ⟨w.heap.size, 0, none⟩) zV).trans c0'
    go_region_held3 (fun w' => w'.cell? ⟨w.heap.size, 0, none⟩ = some (.slice A n c) ∧ Below V.heap.size V w') (first | exact ⟨c0', (Below.refl _ _).drew⟩ | exact held_keep (fun W => CX.out W) (by assumption) (by assumption))
      (first
      | (go_at_call 89; (with_reducible refine (OB.out _ (by exact BV.out.trans ((by assumption : _ ∧ Below V.heap.size V _).2.mono BV.out.size))).mono ?_); rintro e w1 ⟨v1, rfl, hown1, hb1⟩; obtain ⟨C1, cc1, rfl, hi1⟩ := ints_of_own hown1; clear hown1)
      | (go_at_call 127; (with_reducible refine (MK.out _ _ _ (by exact BV.out.trans ((by assumption : _ ∧ Below V.heap.size V _).2.mono BV.out.size)) (by assumption)).mono ?_); rintro e w2 ⟨bm, rfl, hr2, hb2⟩))
    have HV : w2.cell? ⟨w.heap.size, 0, none⟩ = some (.slice A n c) ∧ Below V.heap.size V w2 := by assumption
    obtain ⟨x2, hb9⟩ := HV
    have B2 : Hid (Below w.heap.size w w2) := BV.out.trans (hb9.mono BV.out.size)
    have z2 : w.heap.size < w2.heap.size := Nat.lt_of_lt_of_le zV hb9.size
    have RR := Lib.hid hr2
    have hbl := hr2.lt
    clear hr2 hb2 hb9 hb1 hi1
    go_wp2_with fail
    go_loopw [8, 22] (fun v i wr => ∃ k : Nat, k ≤ n ∧ i = .int .i64 k ∧ wr.ownsRow w2.heap.size 3 1 v (intsOf (P k)).length ((intsOf (P k)).map (Value.int .i64)) ∧ Below w2.heap.size w2 wr) (fun _ i _ => n - (RowKit.intOf i).toNat)
    case atStart => exact ⟨0, Nat.zero_le _, rfl, (show World.ownsRow _ _ _ _ _ _ _ by rw [W0.out]; exact World.ownsRow_nil _ _ _ _), Below.refl _ _⟩
    case round =>
      obtain ⟨k, hk, rfl, hown, hb⟩ := hrel
      by_cases hlt : k < n
      · obtain ⟨o, ho⟩ := GET.out k hlt
        have x0 : wr.cell? ⟨w.heap.size, 0, none⟩ = some (.slice A n c) := (hb.cell (p := ⟨w.heap.size, 0, none⟩) z2).trans x2
        have r0 : wr.cell? ⟨bm, k + 1, none⟩ = some (.bool (R (k + 1))) := (hb.cell (p := ⟨bm, k + 1, none⟩) hbl).trans (RR.out.cell (by omega))
        have ED := Lib.hid (WS.out k o ho)
        have O := Lib.hid hown
        have BB := Lib.hid hb
        have L1 := LEN.out k
        have CALL := Lib.hid (TH.out wr k (B2.out.trans (BB.out.mono B2.out.size)) hlt)
        clear hown hb ho
        cases hq : thereN g (k + 1) with
        | true =>
          cases hy : (R (k + 1) == can) with
          | true =>
            rw [hq] at CALL
            have E1 : Hid (intsOf (P (k + 1)) = intsOf (P k) ++ [(k : Int) + 1]) := show _ = _ by rw [ED.out, hq, hy, Bool.and_self, if_pos rfl, intsOf_snoc]; rfl
            clear hq
            generalize R (k + 1) = y at *
            go_wp2_with (first
              | (go_at_call 86; refine CALL.out.mono ?_; rintro e w4 ⟨rfl, hb4⟩; have B4 := Lib.hid hb4; have r4 : w4.cell? ⟨bm, k + 1, none⟩ = some (.bool y) := (hb4.cell (p := ⟨bm, k + 1, none⟩) (Nat.lt_of_lt_of_le hbl BB.out.size)).trans r0; clear hb4)
              | (at_builtin; refine wpList_append_own _ rfl (.tmp 38) (.tmp 40) _ rfl w2.heap.size 3 i0 _ 1 8 Try.underlying25 hi hz0 hz1 hz2 rfl (by decide) _ _ _ rfl ((own_below O.out B4.out).alloc _) ⟨w4.heap.size, 0, none⟩ 1 1 [.int .i64 ((k : Int) + 1)] rfl rfl one_cell (by simp [Value.oneCell']) (by unfold maxLen; omega) (by omega) (by have := BB.out.size; have := B4.out.size; simp; omega) ?_; intro v' w5 hown5 hg5 _))
            have R5 := refs_step (own_below O.out B4.out) (BB.out.trans (B4.out.mono BB.out.size)) hown5 hg5 E1.out
            clear hown5 hg5
            go_roundw
            case rel => exact ⟨k + 1, by omega, by go_num, R5.1, R5.2⟩
            case measure => simp [RowKit.intOf]; omega
          | false =>
            rw [hq] at CALL
            have E1 : Hid (intsOf (P (k + 1)) = intsOf (P k)) := show _ = _ by rw [ED.out, hq, hy]; simp
            clear hq
            generalize R (k + 1) = y at *
            go_wp2_with (go_at_call 86; refine CALL.out.mono ?_; rintro e w4 ⟨rfl, hb4⟩; have B4 := Lib.hid hb4; have r4 : w4.cell? ⟨bm, k + 1, none⟩ = some (.bool y) := (hb4.cell (p := ⟨bm, k + 1, none⟩) (Nat.lt_of_lt_of_le hbl BB.out.size)).trans r0; clear hb4)
            go_roundw
            case rel => exact ⟨k + 1, by omega, by go_num, by rw [E1.out]; exact own_below O.out B4.out, BB.out.trans (B4.out.mono BB.out.size)⟩
            case measure => simp [RowKit.intOf]; omega
        | false =>
          rw [hq] at CALL
          have E1 : Hid (intsOf (P (k + 1)) = intsOf (P k)) := show _ = _ by rw [ED.out, hq]; simp
          clear hq
          go_wp2_with (go_at_call 86; refine CALL.out.mono ?_; rintro e w4 ⟨rfl, hb4⟩; have B4 := Lib.hid hb4; clear hb4)
          go_roundw
          case rel => exact ⟨k + 1, by omega, by go_num, by rw [E1.out]; exact own_below O.out B4.out, BB.out.trans (B4.out.mono BB.out.size)⟩
          case measure => simp [RowKit.intOf]; omega
      · have O := Lib.hid hown
        have BB := Lib.hid hb
        have hkn : k = n := by omega
        clear hown hb
        go_wp2_with fail
        go_ret
        have O2 := O.out
        rw [hkn] at O2
        exact ⟨_, rfl, own_less O2 (by omega), B2.out.trans (BB.out.mono B2.out.size)⟩
theorem From_any {w : World} {A : Option Addr} {c : Nat} {g : List OB} (hg : GAt w A g) (hn : g.length ≤ 900) {B : Option Addr} {d : Nat} {l : List (Int × Int)} (hl : l.length * 16 ≤ 140737488355328) (h : PairsAt w B l) :
    Calls Try.prog 33 #[gV A g.length c, .slice B l.length d] w (GivesInts (intsOf (fromL g l true)) w) := by
  have CH : Hid (∀ W, Below w.heap.size w W → Calls Try.prog 82 #[gV A g.length c, .slice B l.length d, .bool true] W (GivesInts (intsOf (fromL g l true)) W)) := fun W hW => fromLost_any (hg.below hW) hn hl (pairs_below h hW) true
  clear hg h hl
  generalize g.length = n at *
  generalize l.length = nl at *
  go_enter Try.func33, Try.ntmps33
  go_wp2_with (go_at_call 82; (with_reducible refine (CH.out _ ((Below.refl _ _).alloc (Nat.le_refl _) _)).mono ?_); rintro e w1 hG; obtain ⟨v, rfl, hw, hb⟩ := gives_box hG)
  go_ret
  exact ⟨v, rfl, hw, hb⟩
theorem Lost_any {w : World} {A : Option Addr} {c : Nat} {g : List OB} (hg : GAt w A g) (hn : g.length ≤ 900) {B : Option Addr} {d : Nat} {l : List (Int × Int)} (hl : l.length * 16 ≤ 140737488355328) (h : PairsAt w B l) :
    Calls Try.prog 26 #[gV A g.length c, .slice B l.length d] w (GivesInts (intsOf (fromL g l false)) w) := by
  have CH : Hid (∀ W, Below w.heap.size w W → Calls Try.prog 82 #[gV A g.length c, .slice B l.length d, .bool false] W (GivesInts (intsOf (fromL g l false)) W)) := fun W hW => fromLost_any (hg.below hW) hn hl (pairs_below h hW) false
  clear hg h hl
  generalize g.length = n at *
  generalize l.length = nl at *
  go_enter Try.func26, Try.ntmps26
  go_wp2_with (go_at_call 82; (with_reducible refine (CH.out _ ((Below.refl _ _).alloc (Nat.le_refl _) _)).mono ?_); rintro e w1 hG; obtain ⟨v, rfl, hw, hb⟩ := gives_box hG)
  go_ret
  exact ⟨v, rfl, hw, hb⟩
end Go.Proofs.Ytghnjmodnhnmfaa
