/- The document's own: Exact, Holders. -/
import Derived.Test.YtkkdgacdajojiaaGrRefC
namespace Go.Proofs.Ytkkdgacdajojiaa
set_option maxRecDepth 20000
open Go.RowKit Go.Maps

theorem cnt_more (L M : List Int) (x : Int) : wrap64 (cntF L x + (M.count x : Nat)) = cntF (L ++ M) x := by
  unfold cntF
  rw [List.count_append, w64_add]
  simp
set_option maxHeartbeats 8000000 in
theorem RExact_any {w : World} {A : Option Addr} {c : Nat} {g : List OB} (hg : GAt w A g) (hn : g.length * 64 ≤ 140737488355328) {B : Option Addr} {d : Nat} {more : List (Int × Int)} (hB : PairsAt w B more) (hl : more.length * 16 ≤ 140737488355328) :
    Calls Try.prog 39 #[gV A g.length c, .slice B more.length d] w (GivesI (exactL g more) w) := by
  obtain ⟨i0, hi, hz0, hz1, hz2⟩ := info_parts int_info
  have G := Lib.hid hg
  have BM := Lib.hid hB
  have CI : Hid (∀ W, Below w.heap.size w W → Calls Try.prog 37 #[gV A g.length c] W (GivesI (intoL g) W)) := fun W hW => RInto_any (hg.below hW) hn
  have CT : Hid (∀ W x, Below w.heap.size w W → Calls Try.prog 72 #[.slice B more.length d, iV x] W fun e w' => e = .returned (iV ((refsL more).count x : Nat)) ∧ Below W.heap.size W w') := fun W x hW => RTimes_any hl (pairs_below hB hW) x
  clear hB hl
  cases hc : checkB g with
  | false =>
    rw [show exactL g more = [] by simp [exactL, hc]]
    rw [show intoL g = [] by simp [intoL, hc]] at CI
    clear hg hc
    generalize g.length = n at *
    go_enter Try.func39, Try.ntmps39
    go_wp2_with (go_at_call 37; (with_reducible refine (CI.out _ ((Below.refl _ _).alloc (Nat.le_refl _) _)).mono ?_); rintro e V ⟨A1, c1, rfl, hI, hb⟩; have BV := Lib.hid (below_box hb); clear hb hI)
    go_loopw [5, 7] (fun v i wr => v = .slice none 0 0 ∧ i = .int .i64 0 ∧ wr = V) (fun _ i _ => 0)
    case atStart => exact ⟨rfl, rfl, rfl⟩
    case round =>
      obtain ⟨rfl, rfl, hq⟩ := hrel
      obtain rfl := hq.symm
      go_wp2_with fail
      go_ret
      exact ⟨none, 0, rfl, fun i x hx => by simp at hx, BV.out⟩
  | true =>
    have XE : exactL g more = intsOf (whichL (fun n o => o.kind != 0 && o.count != cntF (allRefs g ++ refsL more) n) g) := by simp [exactL, hc]
    have IE : intoL g = upL g g.length := by simp [intoL, hc, upL]
    rw [XE]
    rw [IE] at CI
    clear hg hc XE IE
    have LEN : Hid (∀ k, (intsOf (whichL (fun n o => o.kind != 0 && o.count != cntF (allRefs g ++ refsL more) n) (g.take k))).length ≤ k) := fun k => by
      rw [intsOf_len]
      exact Nat.le_trans (which_len _ _) (List.length_take_le _ _)
    have SNOC : Hid (∀ k o, g[k]? = some o → whichL (fun n o => o.kind != 0 && o.count != cntF (allRefs g ++ refsL more) n) (g.take (k + 1)) = whichL (fun n o => o.kind != 0 && o.count != cntF (allRefs g ++ refsL more) n) (g.take k) ++ if (o.kind != 0 && o.count != cntF (allRefs g ++ refsL more) ((k + 1 : Nat) : Int)) then [k + 1] else []) := fun k o ho => which_snoc ho
    have MORE : Hid (∀ k : Nat, wrap64 (cntF (allRefs g) ((k : Int) + 1) + ((refsL more).count ((k : Int) + 1) : Nat)) = cntF (allRefs g ++ refsL more) ((k + 1 : Nat) : Int)) := fun k => cnt_more _ _ _
    have UP : Hid (∀ k : Nat, k < g.length → (upL g g.length)[k]? = some (cntF (allRefs g) ((k : Int) + 1))) := fun k hk => by simp [upL, hk]
    have UL : Hid ((upL g g.length).length = g.length) := (show _ = _ by simp [upL])
    have GET : Hid (∀ i, i < g.length → ∃ p, g[i]? = some p) := fun i hi => ⟨_, List.getElem?_eq_getElem hi⟩
    have FULL : Hid (g.take g.length = g) := List.take_of_length_le (Nat.le_refl _)
    generalize cntF (allRefs g ++ refsL more) = F at *
    generalize cntF (allRefs g) = F0 at *
    generalize upL g g.length = U at *
    generalize hgn : g.length = n at *
    clear hgn
    go_enter Try.func39, Try.ntmps39
    go_wp2_with (go_at_call 37; (with_reducible refine (CI.out _ ((Below.refl _ _).alloc (Nat.le_refl _) _)).mono ?_); rintro e V ⟨A1, c1, rfl, hI, hb⟩; rw [UL.out]; have I1 := Lib.hid hI; have BV := Lib.hid (below_box hb); have c0 := boxed hb (j := 0) rfl; have zV : w.heap.size < V.heap.size := (by have := hb.size; simp at this; omega); clear hb hI)
    have c0' : V.cell? ⟨w.heap.size, 0, none⟩ = some (.slice A n c) := c0
    clear c0
    go_loopg [5, 7] n (fun gg v s7 wr => ∃ q : Nat, q ≤ n ∧ n - q ≤ gg ∧ s7 = .int .i64 q ∧ Hid (wr.ownsRow V.heap.size 3 1 v (intsOf (whichL (fun n o => o.kind != 0 && o.count != F n) (g.take q))).length ((intsOf (whichL (fun n o => o.kind != 0 && o.count != F n) (g.take q))).map (Value.int .i64))) ∧ Hid (Below V.heap.size V wr))
    case atStart => exact ⟨0, Nat.zero_le _, by omega, rfl, (show World.ownsRow _ _ _ _ _ _ _ from World.ownsRow_nil _ _ _ _), Below.refl _ _⟩
    case round =>
      obtain ⟨q, hq, hgg, rfl, O, BW⟩ := hrel
      have x0 := (BW.out.cell (p := ⟨w.heap.size, 0, none⟩) zV).trans c0'
      by_cases hlt : q < n
      · obtain ⟨o, ho⟩ := GET.out q hlt
        have BT : Hid (Below w.heap.size w wr) := BV.out.trans (BW.out.mono BV.out.size)
        obtain ⟨a, sA, sc, e, hal, ⟨o0, o1, o2, o3, o4⟩, hs⟩ := (G.out.below BT.out) q o ho
        subst e
        have hl2 : (a.add (q * 5)).block < wr.heap.size := by rw [Go.ChangeShapes.block_add]; exact hal
        obtain ⟨a1, e1, hal1, u0⟩ := (I1.out.below BW.out) q _ (UP.out q hlt)
        subst e1
        have ED := Lib.hid (SNOC.out q o ho)
        have HM := Lib.hid (MORE.out q)
        have CTQ : Hid (∀ W, Below w.heap.size w W → Calls Try.prog 72 #[.slice B more.length d, iV ((q : Int) + 1)] W fun e w' => e = .returned (iV ((refsL more).count ((q : Int) + 1) : Nat)) ∧ Below W.heap.size W w') := fun W => CT.out W _
        have L1 := LEN.out q
        clear ho hs o2 o3 o4
        generalize (refsL more).count ((q : Int) + 1) = r at *
        generalize F0 ((q : Int) + 1) = y at *
        generalize hF : F ((q + 1 : Nat) : Int) = z at *
        clear hF
        have e1 : decide ((q : Int) < 0) = false := by simp
        have e2 : decide ((n : Int) ≤ (q : Int)) = false := by simp; omega
        have r0 := fun d os => cell_regrown o0 d os
        have r1 := fun d os => cell_regrown o1 d os
        have ru := fun d os => cell_regrown u0 d os
        have rx := fun d os => cell_regrown x0 d os
        have cr := fun d os => Calls.regrown_of (CTQ.out (Go.Sort.grow (redrawn wr d) os) (BT.out.trans ((below_regrown wr d os).mono BT.out.size)))
        cases hk : (o.kind != 0) with
        | false =>
          have E1 : Hid (intsOf (whichL (fun n o => o.kind != 0 && o.count != F n) (g.take (q + 1))) = intsOf (whichL (fun n o => o.kind != 0 && o.count != F n) (g.take q))) := (show _ = _ by rw [ED.out, hk]; simp)
          go_upto_region 6 with fail
          refine wp_region_quiet_below (by kernel_rfl) (by kernel_rfl) ?_
          repeat (go_big_quiet_step (with_reducible exact cr _ _))
          refine wpQuiet_nil ?_
          intro w3 ⟨⟨dq, osq⟩, hw3⟩
          have B3 : Hid (Below wr.heap.size wr w3) := by rw [hw3]; exact below_regrown wr dq osq
          clear hw3
          go_wp2_with fail
          go_roundg (n - (q + 1))
          case measure => omega
          case rel => exact ⟨q + 1, by omega, by omega, by go_num, (show World.ownsRow _ _ _ _ _ _ _ by rw [E1.out]; exact own_below O.out B3.out), BW.out.trans (B3.out.mono BW.out.size)⟩
        | true =>
          cases hm : (o.count != z) with
          | false =>
            have E1 : Hid (intsOf (whichL (fun n o => o.kind != 0 && o.count != F n) (g.take (q + 1))) = intsOf (whichL (fun n o => o.kind != 0 && o.count != F n) (g.take q))) := (show _ = _ by rw [ED.out, hk, hm]; simp)
            have hm2 : (o.count != wrap64 (y + (r : Int))) = false := by rw [HM.out]; exact hm
            clear hm
            go_upto_region 6 with fail
            refine wp_region_quiet_below (by kernel_rfl) (by kernel_rfl) ?_
            repeat (go_big_quiet_step (with_reducible exact cr _ _))
            refine wpQuiet_nil ?_
            intro w3 ⟨⟨dq, osq⟩, hw3⟩
            have B3 : Hid (Below wr.heap.size wr w3) := by rw [hw3]; exact below_regrown wr dq osq
            clear hw3
            go_wp2_with fail
            go_roundg (n - (q + 1))
            case measure => omega
            case rel => exact ⟨q + 1, by omega, by omega, by go_num, (show World.ownsRow _ _ _ _ _ _ _ by rw [E1.out]; exact own_below O.out B3.out), BW.out.trans (B3.out.mono BW.out.size)⟩
          | true =>
            have E1 : Hid (intsOf (whichL (fun n o => o.kind != 0 && o.count != F n) (g.take (q + 1))) = intsOf (whichL (fun n o => o.kind != 0 && o.count != F n) (g.take q)) ++ [(q : Int) + 1]) := (show _ = _ by rw [ED.out, hk, hm]; simp [intsOf_snoc])
            have hm2 : (o.count != wrap64 (y + (r : Int))) = true := by rw [HM.out]; exact hm
            clear hm
            go_upto_region 6 with fail
            refine wp_region_quiet_below (by kernel_rfl) (by kernel_rfl) ?_
            repeat (go_big_quiet_step (with_reducible exact cr _ _))
            refine wpQuiet_nil ?_
            intro w3 ⟨⟨dq, osq⟩, hw3⟩
            have B3 : Hid (Below wr.heap.size wr w3) := by rw [hw3]; exact below_regrown wr dq osq
            have O1 := Lib.hid (own_below O.out B3.out)
            clear hw3
            go_wp2_with (at_builtin; refine wpList_append_own _ rfl (.tmp 41) (.tmp 44) _ rfl V.heap.size 3 i0 _ 1 8 Try.underlying49 hi hz0 hz1 hz2 rfl (by decide) _ _ _ rfl (O1.out.alloc _) ⟨w3.heap.size, 0, none⟩ 1 1 [.int .i64 ((q : Int) + 1)] rfl rfl one_cell (by simp [Value.oneCell']) (by unfold maxLen; omega) (by omega) (by have := BW.out.size; have := B3.out.size; simp; omega) ?_; intro v' w2 hown2 hg2 _)
            have R := refs_step O1.out (BW.out.trans (B3.out.mono BW.out.size)) hown2 hg2 E1.out
            clear hown2 hg2
            go_roundg (n - (q + 1))
            case measure => omega
            case rel => exact ⟨q + 1, by omega, by omega, by go_num, R.1, R.2⟩
      · have hqn : q = n := by omega
        rw [hqn, FULL.out] at O
        go_wp2_with fail
        go_ret
        obtain ⟨A', c', ev, hI⟩ := ints_of_own O.out
        exact ⟨A', c', by rw [← ev]; rfl, hI, BV.out.trans (BW.out.mono BV.out.size)⟩
theorem holds_count (n : Int) (o : OB) : holdsB n o = decide (0 < (refsL o.slots).count n) := by
  rw [Bool.eq_iff_iff, decide_eq_true_iff, List.count_pos_iff]
  unfold holdsB refsL
  rw [List.any_eq_true, List.mem_map]
  constructor
  · rintro ⟨v, hv, h⟩
    rw [Bool.and_eq_true, beq_iff_eq] at h
    exact ⟨v, List.mem_filter.2 ⟨hv, h.1⟩, h.2⟩
  · rintro ⟨v, hv, rfl⟩
    obtain ⟨h1, h2⟩ := List.mem_filter.1 hv
    exact ⟨v, h1, by rw [Bool.and_eq_true]; exact ⟨h2, by simp⟩⟩
set_option maxHeartbeats 8000000 in
theorem RHolders_any {w : World} {A : Option Addr} {c : Nat} {g : List OB} (hg : GAt w A g) (hn : g.length * 64 ≤ 140737488355328) (m : Int) :
    Calls Try.prog 41 #[gV A g.length c, iV m] w (GivesI (holdersL g m) w) := by
  obtain ⟨i0, hi, hz0, hz1, hz2⟩ := info_parts int_info
  have G := Lib.hid hg
  have CH : Hid (∀ W, Below w.heap.size w W → Calls Try.prog 32 #[gV A g.length c] W fun e w' => e = .returned (.bool (checkB g)) ∧ Below W.heap.size W w') := fun W hW => RCheck_any (hg.below hW) hn
  cases hc : checkB g with
  | false =>
    rw [show holdersL g m = [] by simp [holdersL, hc]]
    rw [hc] at CH
    clear hg hc
    generalize g.length = n at *
    go_enter Try.func41, Try.ntmps41
    go_wp2_with (go_at_call 32; (with_reducible refine (CH.out _ ((Below.refl _ _).alloc (Nat.le_refl _) _)).mono ?_); rintro e w1 ⟨rfl, hb⟩; have B1 := Lib.hid (below_box hb); clear hb)
    go_ret
    exact ⟨none, 0, rfl, fun i x hx => by simp at hx, B1.out⟩
  | true =>
    have XE : holdersL g m = intsOf (whichL (fun _ o => holdsB m o) g) := by simp [holdersL, hc]
    rw [XE]
    rw [hc] at CH
    clear hg hc XE
    have LEN : Hid (∀ k, (intsOf (whichL (fun _ o => holdsB m o) (g.take k))).length ≤ k) := fun k => by
      rw [intsOf_len]
      exact Nat.le_trans (which_len _ _) (List.length_take_le _ _)
    have SNOC : Hid (∀ k o, g[k]? = some o → whichL (fun _ o => holdsB m o) (g.take (k + 1)) = whichL (fun _ o => holdsB m o) (g.take k) ++ if holdsB m o then [k + 1] else []) := fun k o ho => which_snoc ho
    have GET : Hid (∀ i, i < g.length → ∃ p, g[i]? = some p) := fun i hi => ⟨_, List.getElem?_eq_getElem hi⟩
    have FULL : Hid (g.take g.length = g) := List.take_of_length_le (Nat.le_refl _)
    generalize hgn : g.length = n at *
    clear hgn
    go_enter Try.func41, Try.ntmps41
    go_wp2_with (go_at_call 32; (with_reducible refine (CH.out _ ((Below.refl _ _).alloc (Nat.le_refl _) _)).mono ?_); rintro e V ⟨rfl, hb⟩; have BV := Lib.hid (below_box hb); have c0 := boxed hb (j := 0) rfl; have zV : w.heap.size < V.heap.size := (by have := hb.size; simp at this; omega); clear hb)
    have c0' : V.cell? ⟨w.heap.size, 0, none⟩ = some (.slice A n c) := c0
    clear c0
    go_loopg [5, 6] n (fun gg v s7 wr => ∃ q : Nat, q ≤ n ∧ n - q ≤ gg ∧ s7 = .int .i64 q ∧ Hid (wr.ownsRow V.heap.size 3 1 v (intsOf (whichL (fun _ o => holdsB m o) (g.take q))).length ((intsOf (whichL (fun _ o => holdsB m o) (g.take q))).map (Value.int .i64))) ∧ Hid (Below V.heap.size V wr))
    case atStart => exact ⟨0, Nat.zero_le _, by omega, rfl, (show World.ownsRow _ _ _ _ _ _ _ from World.ownsRow_nil _ _ _ _), Below.refl _ _⟩
    case round =>
      obtain ⟨q, hq, hgg, rfl, O, BW⟩ := hrel
      have x0 := (BW.out.cell (p := ⟨w.heap.size, 0, none⟩) zV).trans c0'
      by_cases hlt : q < n
      · obtain ⟨o, ho⟩ := GET.out q hlt
        have BT : Hid (Below w.heap.size w wr) := BV.out.trans (BW.out.mono BV.out.size)
        obtain ⟨a, sA, sc, e, hal, ⟨o0, o1, o2, o3, o4⟩, hs⟩ := (G.out.below BT.out) q o ho
        subst e
        have hl2 : (a.add (q * 5)).block < wr.heap.size := by rw [Go.ChangeShapes.block_add]; exact hal
        have ED := Lib.hid (SNOC.out q o ho)
        have CT := Lib.hid (RTimes_any (c := sc) hs.2 hs.1 m)
        have HC := Lib.hid (holds_count m o)
        have L1 := LEN.out q
        clear ho hs o0 o1 o3 o4
        generalize (refsL o.slots).count m = r at *
        by_cases hr : 0 < r
        · have E1 : Hid (intsOf (whichL (fun _ o => holdsB m o) (g.take (q + 1))) = intsOf (whichL (fun _ o => holdsB m o) (g.take q)) ++ [(q : Int) + 1]) := (show _ = _ by rw [ED.out, HC.out, decide_eq_true hr]; simp [intsOf_snoc])
          have hr2 : (0 : Int) < (r : Int) := by omega
          go_wp2_with (first
            | (go_at_call 72; (with_reducible refine CT.out.mono ?_); rintro e w3 ⟨rfl, hb⟩; have B3 := Lib.hid hb; clear hb)
            | (at_builtin; refine wpList_append_own _ rfl (.tmp 26) (.tmp 29) _ rfl V.heap.size 3 i0 _ 1 8 Try.underlying49 hi hz0 hz1 hz2 rfl (by decide) _ _ _ rfl ((own_below O.out B3.out).alloc _) ⟨w3.heap.size, 0, none⟩ 1 1 [.int .i64 ((q : Int) + 1)] rfl rfl one_cell (by simp [Value.oneCell']) (by unfold maxLen; omega) (by omega) (by have := BW.out.size; have := B3.out.size; simp; omega) ?_; intro v' w2 hown2 hg2 _))
          have R := refs_step (own_below O.out B3.out) (BW.out.trans (B3.out.mono BW.out.size)) hown2 hg2 E1.out
          clear hown2 hg2
          go_roundg (n - (q + 1))
          case measure => omega
          case rel => exact ⟨q + 1, by omega, by omega, by go_num, R.1, R.2⟩
        · have E1 : Hid (intsOf (whichL (fun _ o => holdsB m o) (g.take (q + 1))) = intsOf (whichL (fun _ o => holdsB m o) (g.take q))) := (show _ = _ by rw [ED.out, HC.out, decide_eq_false hr]; simp)
          obtain rfl : r = 0 := by omega
          go_wp2_with (go_at_call 72; (with_reducible refine CT.out.mono ?_); rintro e w3 ⟨rfl, hb⟩; have B3 := Lib.hid hb; clear hb)
          go_roundg (n - (q + 1))
          case measure => omega
          case rel => exact ⟨q + 1, by omega, by omega, by go_num, (show World.ownsRow _ _ _ _ _ _ _ by rw [E1.out]; exact own_below O.out B3.out), BW.out.trans (B3.out.mono BW.out.size)⟩
      · have hqn : q = n := by omega
        rw [hqn, FULL.out] at O
        go_wp2_with fail
        go_ret
        obtain ⟨A', c', ev, hI⟩ := ints_of_own O.out
        exact ⟨A', c', by rw [← ev]; rfl, hI, BV.out.trans (BW.out.mono BV.out.size)⟩
end Go.Proofs.Ytkkdgacdajojiaa
