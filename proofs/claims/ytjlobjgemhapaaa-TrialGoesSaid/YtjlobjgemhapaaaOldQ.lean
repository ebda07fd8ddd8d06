/- GrRef: The document's own: obj, Check, Times. | GrRefB: The document's own: Check, Times, Into. | GrRefC: The document's own: Into, Exact, Holders. | GrRefD: The document's own: Exact, Holders. -/
import Derived.Test.YtjlobjgemhapaaaOldV
import Derived.Test.YtjlobjgemhapaaaOldG
import Derived.Test.YtjlobjgemhapaaaOldV
import Derived.Lib.QuietBelow
namespace Go.Proofs.Ytjlobjgemhapaaa
set_option maxRecDepth 20000
set_option maxRecDepth 20000
open Go.RowKit Go.Maps

theorem slice_small (g : List OB) (o : OB) (h0 : ¬ o.kind = 0) (h : o.kind < 5 ∨ 9 < o.kind ∨ o.count < 0 ∨ o.mark < -1) : objOk g o = false := by
  rw [Bool.eq_false_iff]
  intro e
  simp only [objOk, kindOk, numOk, if_neg h0, Bool.and_eq_true, Bool.or_eq_true, decide_eq_true_eq, beq_iff_eq] at e
  omega
set_option maxHeartbeats 4000000 in
theorem robj_any {w : World} {A : Option Addr} {c : Nat} {g : List OB} (hg : GAt w A g) (o : OB) (sA : Option Addr) (sc : Nat) (hs : SlotsAt w o sA) :
    Calls Try.prog 88 #[gV A g.length c, oV o sA sc] w fun e w' => e = .returned (.bool (objOk g o)) ∧ Below w.heap.size w w' := by
  obtain ⟨k, co, s, t, m⟩ := o
  have EL : Hid ((decide (s.length = 0)) = ((s.length : Int) == 0)) := show _ = _ by cases s <;> simp <;> omega
  by_cases k0 : k = 0
  · subst k0
    have EQ : objOk g ⟨0, co, s, t, m⟩ = ((co == 0) && ((s.length : Int) == 0) && t.toList.isEmpty && (m == 0)) := by
      simp only [objOk, kindOk, numOk, textOk, slotsOk, if_true, true_or, EL.out]
      rw [show ((0 : Int) == 5) = false from rfl, show ((0 : Int) == 0) = true from rfl]
      cases (co == 0) <;> cases (m == 0) <;> cases (t.toList.isEmpty) <;> simp
    rw [EQ]
    clear hg hs EL EQ
    cases e1 : (co == 0)
    · go_enter Try.func88, Try.ntmps88
      go_wp2_with fail
      go_ret
      exact ⟨rfl, ahead_two _ _ _⟩
    · cases e2 : ((s.length : Int) == 0)
      · go_enter Try.func88, Try.ntmps88
        go_wp2_with fail
        go_ret
        exact ⟨rfl, ahead_two _ _ _⟩
      · cases e3 : t.toList.isEmpty
        · go_enter Try.func88, Try.ntmps88
          go_wp2_with fail
          go_ret
          exact ⟨rfl, ahead_two _ _ _⟩
        · go_enter Try.func88, Try.ntmps88
          go_wp2_with fail
          go_ret
          exact ⟨by simp, ahead_two _ _ _⟩
  · have e0 := not_eq k0
    by_cases hbad : k < 5 ∨ 9 < k ∨ co < 0 ∨ m < -1
    · rw [slice_small g _ k0 hbad]
      clear hg hs EL k0
      by_cases h1 : k < 5
      · go_enter Try.func88, Try.ntmps88
        go_wp2_with fail
        go_ret
        exact ⟨rfl, ahead_two _ _ _⟩
      · by_cases h2 : 9 < k
        · go_enter Try.func88, Try.ntmps88
          go_wp2_with fail
          go_ret
          exact ⟨rfl, ahead_two _ _ _⟩
        · by_cases h3 : co < 0
          · go_enter Try.func88, Try.ntmps88
            go_wp2_with fail
            go_ret
            exact ⟨rfl, ahead_two _ _ _⟩
          · have h4 : m < -1 := by omega
            go_enter Try.func88, Try.ntmps88
            go_wp2_with fail
            go_ret
            exact ⟨rfl, ahead_two _ _ _⟩
    · have b1 : 5 ≤ k := by omega
      have b2 : k ≤ 9 := by omega
      have b3 : 0 ≤ co := by omega
      have b4 : -1 ≤ m := by omega
      have f1 : decide (k < 5) = false := by simp; omega
      have f2 : decide (9 < k) = false := by simp; omega
      have f3 : decide (co < 0) = false := by simp; omega
      have f4 : decide (m < -1) = false := by simp; omega
      have EQ : objOk g ⟨k, co, s, t, m⟩ = ((k == 5 || t.toList.isEmpty) && (if k = 5 then decide (s.length = 0) else s.all (slotB g))) := by
        simp only [objOk, kindOk, numOk, textOk, slotsOk, k0, if_false, false_or, decide_eq_true b1, decide_eq_true b2, decide_eq_true b3, decide_eq_true b4, Bool.or_true, Bool.true_and, Bool.and_self]
      rw [EQ]
      clear hbad k0 b1 b2 b3 b4 EQ
      have SL := Lib.hid hs
      have G := Lib.hid hg
      clear hg hs
      by_cases hgo : (k = 5 ∧ s = []) ∨ (k ≠ 5 ∧ t.toList.isEmpty = true)
      · rcases hgo with ⟨rfl, rfl⟩ | ⟨h5, ht⟩
        · rw [show (((5 : Int) == 5 || t.toList.isEmpty) && (if (5 : Int) = 5 then decide (([] : List (Int × Int)).length = 0) else ([] : List (Int × Int)).all (slotB g))) = true from rfl]
          clear EL SL G
          go_enter Try.func88, Try.ntmps88
          go_wp2_with fail
          refine at_world (S := fun W => Below w.heap.size w W ∧ W.cell? ⟨w.heap.size + 1, 2, none⟩ = some (.slice sA 0 sc)) ⟨ahead_two _ _ _, by simp [go_sem]⟩ (fun V HV => ?_)
          obtain ⟨hV, c2⟩ := HV
          have BV := Lib.hid hV
          clear hV
          go_loopw [5] (fun i wr => i = .int .i64 0 ∧ wr = V) (fun i _ => 0)
          case atStart => exact ⟨rfl, rfl⟩
          case round =>
            obtain ⟨rfl, hq⟩ := hrel
            obtain rfl := hq.symm
            go_wp2_with fail
            go_ret
            exact ⟨rfl, BV.out⟩
        · rw [show ((k == 5 || t.toList.isEmpty) && (if k = 5 then decide (s.length = 0) else s.all (slotB g))) = s.all (slotB g) by rw [if_neg h5, ht]; simp]
          have n5 : (k != 5) = true := by simp [h5]
          have n6 : (k == 5) = false := not_eq h5
          have hss : s.length * 16 ≤ 140737488355328 := SL.out.2
          have PS : Hid (PairsAt w sA s) := SL.out.1
          clear EL SL h5
          have ALL : Hid (∀ i v, s[i]? = some v → slotB g v = false → s.all (slotB g) = false) := fun i v hv hf => by
            rw [List.all_eq_false]; exact ⟨v, List.mem_of_getElem? hv, by simp [hf]⟩
          have ALLT : Hid ((∀ i v, i < s.length → s[i]? = some v → slotB g v = true) → s.all (slotB g) = true) := fun hh => List.all_eq_true.2 (fun v hv => by
            obtain ⟨i, hi⟩ := List.getElem?_of_mem hv
            exact hh i v (List.getElem?_eq_some_iff.1 hi).1 hi)
          have GET : Hid (∀ i, i < s.length → ∃ p, s[i]? = some p) := fun i hi => ⟨_, List.getElem?_eq_getElem hi⟩
          have GT : Hid (∀ j : Nat, j < g.length → ∃ o, g[j]? = some o) := fun i hi => ⟨_, List.getElem?_eq_getElem hi⟩
          generalize s.all (slotB g) = y at *
          generalize hsn : s.length = n at *
          generalize hgn : g.length = ng at *
          go_enter Try.func88, Try.ntmps88
          go_wp2_with fail
          refine at_world (S := fun W => Below w.heap.size w W ∧ W.cell? ⟨w.heap.size, 0, none⟩ = some (.slice A ng c) ∧ W.cell? ⟨w.heap.size + 1, 2, none⟩ = some (.slice sA n sc) ∧ w.heap.size + 1 < W.heap.size) ⟨ahead_two _ _ _, by simp [go_sem], by simp [go_sem], by simp⟩ (fun V HV => ?_)
          obtain ⟨hV, c0, c2, zV⟩ := HV
          have BV := Lib.hid hV
          have HSN := Lib.hid hsn
          have HGN := Lib.hid hgn
          clear hV hsn hgn
          obtain ⟨bg, hbg⟩ : ∃ bg, bg = w.heap.size := ⟨_, rfl⟩
          rw [← hbg] at c0 c2 zV ⊢
          clear hbg
          go_loopw [5] (fun i wr => ∃ q : Nat, q ≤ n ∧ i = .int .i64 q ∧ Hid (Below V.heap.size V wr) ∧ Hid (∀ i v, i < q → s[i]? = some v → slotB g v = true)) (fun i _ => n - (intOf i).toNat)
          case atStart => exact ⟨0, Nat.zero_le _, rfl, Below.refl _ _, fun i v hi => absurd hi (Nat.not_lt_zero _)⟩
          case round =>
            obtain ⟨q, hq, rfl, BW, I⟩ := hrel
            have x0 := (BW.out.cell (p := ⟨bg, 0, none⟩) (show bg < _ by omega)).trans c0
            have x2 := (BW.out.cell (p := ⟨bg + 1, 2, none⟩) zV).trans c2
            have zW : bg + 1 < wr.heap.size := Nat.lt_of_lt_of_le zV BW.out.size
            by_cases hlt : q < n
            · obtain ⟨⟨a, x⟩, hv⟩ := GET.out q hlt
              obtain ⟨ad, e, hal, hc0, hc1⟩ := (pairs_below PS.out (BV.out.trans (BW.out.mono BV.out.size))) q _ hv
              subst e
              rw [add_one] at hc1
              have hl2 : (ad.add (q * 2)).block < wr.heap.size := by rw [Go.ChangeShapes.block_add]; exact hal
              have HV := Lib.hid hv
              clear hv
              simp only at hc0 hc1
              have CM := Lib.hid (RMay_any a x)
              have NEXT : Hid (slotB g (a, x) = true → ∀ i v, i < q + 1 → s[i]? = some v → slotB g v = true) := fun h i v hi hv => by
                by_cases e : i = q
                · subst e; rw [HV.out] at hv; injection hv with hv; subst hv; exact h
                · exact I.out i v (by omega) hv
              cases hm : mayB a x with
              | false =>
                have Y := Lib.hid (ALL.out q _ HV.out (by simp [slotB, hm]))
                rw [hm] at CM
                clear hm
                go_wp2_with (go_at_call 136; (with_reducible refine (CM.out _).mono ?_); rintro e w1 ⟨rfl, hb⟩; have v0 := boxed hb (j := 0) rfl; have B1 := Lib.hid (below_box hb); clear hb)
                go_ret
                exact ⟨by rw [Y.out]; rfl, BV.out.trans ((BW.out.trans (B1.out.mono BW.out.size)).mono BV.out.size)⟩
              | true =>
                rw [hm] at CM
                by_cases a0 : a = 0
                · subst a0
                  have Y := Lib.hid (ALL.out q _ HV.out (by simp [slotB]))
                  clear hm
                  go_wp2_with (go_at_call 136; (with_reducible refine (CM.out _).mono ?_); rintro e w1 ⟨rfl, hb⟩; have v0 := boxed hb (j := 0) rfl; have B1 := Lib.hid (below_box hb); clear hb)
                  go_ret
                  exact ⟨by rw [Y.out]; rfl, BV.out.trans ((BW.out.trans (B1.out.mono BW.out.size)).mono BV.out.size)⟩
                · have a1 := not_eq a0
                  have CR := Lib.hid (RRef_any a x)
                  cases hr : refB a x with
                  | false =>
                    have NX := Lib.hid (NEXT.out (by simp [slotB, hm, a1, hr]))
                    rw [hr] at CR
                    clear hm hr a0 NEXT
                    go_upto_region 13 with (go_at_call 136; (with_reducible refine (CM.out _).mono ?_); rintro e w1 ⟨rfl, hb⟩; have v0 := boxed hb (j := 0) rfl; have v1 := boxed hb (j := 1) rfl; have B1 := Lib.hid (below_box hb); have g0 := ((below_box hb).cell (p := ⟨bg, 0, none⟩) (show bg < _ by omega)).trans x0; clear hb)
                    have r0 := fun d os => cell_regrown v0 d os
                    have r1 := fun d os => cell_regrown v1 d os
                    have rg := fun d os => cell_regrown g0 d os
                    have cr := fun d os => Calls.regrown_of (CR.out (Go.Sort.grow (redrawn w1 d) os))
                    refine wp_region_quiet_below (by kernel_rfl) (by kernel_rfl) ?_
                    repeat (go_big_quiet_step (with_reducible exact cr _ _))
                    refine wpQuiet_nil ?_
                    intro w3 ⟨⟨dq, osq⟩, hw3⟩
                    have B3 : Hid (Below w1.heap.size w1 w3) := by rw [hw3]; exact below_regrown w1 dq osq
                    have B4 : Hid (Below wr.heap.size wr w3) := B1.out.trans (B3.out.mono B1.out.size)
                    clear hw3
                    go_wp2_with fail
                    go_roundw
                    case rel => exact ⟨q + 1, by omega, by go_num, BW.out.trans (B4.out.mono BW.out.size), NX.out⟩
                    case measure => simp [intOf]; omega
                  | true =>
                    rw [hr] at CR
                    have hx := mayB_iff.1 hm
                    have ha5 := (refB_iff.1 hr).2
                    have SR : Hid (slotB g (a, x) = thereB g (a, x)) := slotB_ref (v := (a, x)) hr
                    obtain ⟨j, rfl⟩ : ∃ j : Nat, x = (j : Int) + 1 := ⟨(x - 1).toNat, by omega⟩
                    have hj : j ≤ 2147483647 := by omega
                    have f5 : decide ((j : Int) < 0) = false := by simp
                    clear hm hr hx ha5 a0
                    by_cases hjn : j < ng
                    · obtain ⟨o, ho⟩ := GT.out j hjn
                      obtain ⟨a', sA', sc', e, hal', hcs, -⟩ := (G.out.below (BV.out.trans (BW.out.mono BV.out.size))) j o ho
                      subst e
                      have k0 := hcs.1
                      have hl3 : (a'.add (j * 5)).block < wr.heap.size := by rw [Go.ChangeShapes.block_add]; exact hal'
                      have TH : Hid (slotB g (a, (j : Int) + 1) = (o.kind == a)) := SR.out.trans (there_in ho a)
                      have e1 : decide ((ng : Int) < (j : Int) + 1) = false := by simp; omega
                      have e3 : decide ((ng : Int) ≤ (j : Int)) = false := by simp; omega
                      clear hcs ho SR
                      cases hk : (o.kind == a) with
                      | true =>
                        have NX := Lib.hid (NEXT.out (by rw [TH.out, hk]))
                        have hk2 : (o.kind != a) = false := by simp [bne, hk]
                        clear NEXT
                        go_upto_region 13 with (first | (go_at_call 136; (with_reducible refine (CM.out _).mono ?_); rintro e w1 ⟨rfl, hb⟩; have v0 := boxed hb (j := 0) rfl; have v1 := boxed hb (j := 1) rfl; have B1 := Lib.hid (below_box hb); have g0 := ((below_box hb).cell (p := ⟨bg, 0, none⟩) (show bg < _ by omega)).trans x0; have rk := ((below_box hb).cell hl3).trans k0; clear hb))
                        have r0 := fun d os => cell_regrown v0 d os
                        have r1 := fun d os => cell_regrown v1 d os
                        have rg := fun d os => cell_regrown g0 d os
                        have cr := fun d os => Calls.regrown_of (CR.out (Go.Sort.grow (redrawn w1 d) os))
                        have rkk := fun d os => cell_regrown rk d os
                        refine wp_region_quiet_below (by kernel_rfl) (by kernel_rfl) ?_
                        repeat (go_big_quiet_step (with_reducible exact cr _ _))
                        refine wpQuiet_nil ?_
                        intro w3 ⟨⟨dq, osq⟩, hw3⟩
                        have B3 : Hid (Below w1.heap.size w1 w3) := by rw [hw3]; exact below_regrown w1 dq osq
                        have B4 : Hid (Below wr.heap.size wr w3) := B1.out.trans (B3.out.mono B1.out.size)
                        clear hw3
                        go_wp2_with fail
                        go_roundw
                        case rel => exact ⟨q + 1, by omega, by go_num, BW.out.trans (B4.out.mono BW.out.size), NX.out⟩
                        case measure => simp [intOf]; omega
                      | false =>
                        have Y := Lib.hid (ALL.out q _ HV.out (by rw [TH.out, hk]))
                        have hk2 : (o.kind != a) = true := by simp [bne, hk]
                        clear NEXT
                        go_upto_region 13 with (first | (go_at_call 136; (with_reducible refine (CM.out _).mono ?_); rintro e w1 ⟨rfl, hb⟩; have v0 := boxed hb (j := 0) rfl; have v1 := boxed hb (j := 1) rfl; have B1 := Lib.hid (below_box hb); have g0 := ((below_box hb).cell (p := ⟨bg, 0, none⟩) (show bg < _ by omega)).trans x0; have rk := ((below_box hb).cell hl3).trans k0; clear hb))
                        have r0 := fun d os => cell_regrown v0 d os
                        have r1 := fun d os => cell_regrown v1 d os
                        have rg := fun d os => cell_regrown g0 d os
                        have cr := fun d os => Calls.regrown_of (CR.out (Go.Sort.grow (redrawn w1 d) os))
                        have rkk := fun d os => cell_regrown rk d os
                        refine wp_region_quiet_below (by kernel_rfl) (by kernel_rfl) ?_
                        repeat (go_big_quiet_step (with_reducible exact cr _ _))
                        refine wpQuiet_nil ?_
                        intro w3 ⟨⟨dq, osq⟩, hw3⟩
                        have B3 : Hid (Below w1.heap.size w1 w3) := by rw [hw3]; exact below_regrown w1 dq osq
                        have B4 : Hid (Below wr.heap.size wr w3) := B1.out.trans (B3.out.mono B1.out.size)
                        clear hw3
                        go_wp2_with fail
                        go_ret
                        exact ⟨by rw [Y.out]; rfl, BV.out.trans ((BW.out.trans (B4.out.mono BW.out.size)).mono BV.out.size)⟩
                    · have Y := Lib.hid (ALL.out q _ HV.out (SR.out.trans (there_out (by have := HGN.out; omega) a)))
                      have e1 : decide ((ng : Int) < (j : Int) + 1) = true := by simp; omega
                      clear NEXT SR
                      go_upto_region 13 with (go_at_call 136; (with_reducible refine (CM.out _).mono ?_); rintro e w1 ⟨rfl, hb⟩; have v0 := boxed hb (j := 0) rfl; have v1 := boxed hb (j := 1) rfl; have B1 := Lib.hid (below_box hb); have g0 := ((below_box hb).cell (p := ⟨bg, 0, none⟩) (show bg < _ by omega)).trans x0; clear hb)
                      have r0 := fun d os => cell_regrown v0 d os
                      have r1 := fun d os => cell_regrown v1 d os
                      have rg := fun d os => cell_regrown g0 d os
                      have cr := fun d os => Calls.regrown_of (CR.out (Go.Sort.grow (redrawn w1 d) os))
                      refine wp_region_quiet_below (by kernel_rfl) (by kernel_rfl) ?_
                      repeat (go_big_quiet_step (with_reducible exact cr _ _))
                      refine wpQuiet_nil ?_
                      intro w3 ⟨⟨dq, osq⟩, hw3⟩
                      have B3 : Hid (Below w1.heap.size w1 w3) := by rw [hw3]; exact below_regrown w1 dq osq
                      have B4 : Hid (Below wr.heap.size wr w3) := B1.out.trans (B3.out.mono B1.out.size)
                      clear hw3
                      go_wp2_with fail
                      go_ret
                      exact ⟨by rw [Y.out]; rfl, BV.out.trans ((BW.out.trans (B4.out.mono BW.out.size)).mono BV.out.size)⟩
            · have hqn : q = n := by omega
              have Y := Lib.hid (ALLT.out (fun i v hi hv => I.out i v (by omega) hv))
              go_wp2_with fail
              go_ret
              exact ⟨by rw [Y.out]; rfl, BV.out.trans (BW.out.mono BV.out.size)⟩
      · by_cases k5 : k = 5
        · subst k5
          have hs0 : s.length ≠ 0 := fun h => hgo (.inl ⟨rfl, List.length_eq_zero_iff.1 h⟩)
          have hd : decide (0 < (s.length : Int)) = true := by simp; omega
          have hp : 0 < s.length := by omega
          rw [show ((5 : Int) == 5 || t.toList.isEmpty) = true from rfl, if_pos rfl, decide_eq_false hs0]
          clear hgo EL hs0
          go_enter Try.func88, Try.ntmps88
          go_wp2_with fail
          go_ret
          exact ⟨rfl, ahead_two _ _ _⟩
        · have e5 := not_eq k5
          have n5 : (k != 5) = true := by simp [k5]
          have ht : t.toList.isEmpty = false := by
            rw [Bool.eq_false_iff]; exact fun h => hgo (.inr ⟨k5, h⟩)
          rw [e5, ht]
          clear hgo EL k5
          go_enter Try.func88, Try.ntmps88
          go_wp2_with fail
          all_goals
            go_ret
            exact ⟨rfl, ahead_two _ _ _⟩
end Go.Proofs.Ytjlobjgemhapaaa
namespace Go.Proofs.Ytjlobjgemhapaaa
set_option maxRecDepth 20000
set_option maxRecDepth 20000
open Go.RowKit Go.Maps

set_option maxHeartbeats 4000000 in
theorem RCheck_any {w : World} {A : Option Addr} {c : Nat} {g : List OB} (hg : GAt w A g) (hn : g.length * 64 ≤ 140737488355328) :
    Calls Try.prog 36 #[gV A g.length c] w fun e w' => e = .returned (.bool (checkB g)) ∧ Below w.heap.size w w' := by
  have G := Lib.hid hg
  have RO : Hid (∀ W o sA sc, Below w.heap.size w W → SlotsAt W o sA → Calls Try.prog 88 #[gV A g.length c, oV o sA sc] W fun e w' => e = .returned (.bool (objOk g o)) ∧ Below W.heap.size W w') := fun W o sA sc hW hs => robj_any (hg.below hW) o sA sc hs
  have ALL : Hid (∀ i v, g[i]? = some v → objOk g v = false → checkB g = false) := fun i v hv hf => by
    unfold checkB; rw [List.all_eq_false]; exact ⟨v, List.mem_of_getElem? hv, by simp [hf]⟩
  have ALLT : Hid ((∀ i v, i < g.length → g[i]? = some v → objOk g v = true) → checkB g = true) := fun hh => List.all_eq_true.2 (fun v hv => by
    obtain ⟨i, hi⟩ := List.getElem?_of_mem hv
    exact hh i v (List.getElem?_eq_some_iff.1 hi).1 hi)
  have GET : Hid (∀ i, i < g.length → ∃ p, g[i]? = some p) := fun i hi => ⟨_, List.getElem?_eq_getElem hi⟩
  clear hg
  generalize checkB g = y at *
  generalize hgn : g.length = n at *
  clear hgn
  go_enter Try.func36, Try.ntmps36
  go_wp2_with fail
  refine at_world (S := fun W => Below w.heap.size w W ∧ W.cell? ⟨w.heap.size, 0, none⟩ = some (.slice A n c) ∧ w.heap.size < W.heap.size) ⟨(Below.refl _ _).alloc (Nat.le_refl _) _, by simp [go_sem], by simp⟩ (fun V HV => ?_)
  obtain ⟨hV, c0, zV⟩ := HV
  have BV := Lib.hid hV
  clear hV
  obtain ⟨bg, hbg⟩ : ∃ bg, bg = w.heap.size := ⟨_, rfl⟩
  rw [← hbg] at c0 zV ⊢
  clear hbg
  go_loopw [3] (fun i wr => ∃ q : Nat, q ≤ n ∧ i = .int .i64 q ∧ Hid (Below V.heap.size V wr) ∧ Hid (∀ i v, i < q → g[i]? = some v → objOk g v = true)) (fun i _ => n - (intOf i).toNat)
  case atStart => exact ⟨0, Nat.zero_le _, rfl, Below.refl _ _, fun i v hi => absurd hi (Nat.not_lt_zero _)⟩
  case round =>
    obtain ⟨q, hq, rfl, BW, I⟩ := hrel
    have x0 := (BW.out.cell (p := ⟨bg, 0, none⟩) (show bg < _ by omega)).trans c0
    by_cases hlt : q < n
    · obtain ⟨o, ho⟩ := GET.out q hlt
      have BT : Hid (Below w.heap.size w wr) := BV.out.trans (BW.out.mono BV.out.size)
      obtain ⟨a, sA, sc, e, hal, ⟨o0, o1, o2, o3, o4⟩, hs⟩ := (G.out.below BT.out) q o ho
      subst e
      have HO := Lib.hid ho
      have HS := Lib.hid hs
      have r0 := fun d os => cell_regrown o0 d os
      have r1 := fun d os => cell_regrown o1 d os
      have r2 := fun d os => cell_regrown o2 d os
      have r3 := fun d os => cell_regrown o3 d os
      have r4 := fun d os => cell_regrown o4 d os
      have rx := fun d os => cell_regrown x0 d os
      have cr := fun d os => Calls.regrown_of (RO.out (Go.Sort.grow (redrawn wr d) os) o sA sc (BT.out.trans ((below_regrown wr d os).mono BT.out.size)) (HS.out.below (below_regrown wr d os)))
      clear ho hs o0 o1 o2 o3 o4
      cases hq2 : objOk g o with
      | false =>
        have Y := Lib.hid (ALL.out q _ HO.out hq2)
        rw [hq2] at cr
        go_upto_region 4 with fail
        refine wp_region_quiet_below (by kernel_rfl) (by kernel_rfl) ?_
        repeat (go_big_quiet_step (with_reducible exact cr _ _))
        refine wpQuiet_nil ?_
        intro w3 ⟨⟨dq, osq⟩, hw3⟩
        have B3 : Hid (Below wr.heap.size wr w3) := by rw [hw3]; exact below_regrown wr dq osq
        clear hw3
        go_wp2_with fail
        go_ret
        exact ⟨by rw [Y.out]; rfl, BT.out.trans (B3.out.mono BT.out.size)⟩
      | true =>
        have I2 : Hid (∀ i v, i < q + 1 → g[i]? = some v → objOk g v = true) := fun i v hi hv => by
          by_cases e : i = q
          · subst e; rw [HO.out] at hv; injection hv with hv; subst hv; exact hq2
          · exact I.out i v (by omega) hv
        rw [hq2] at cr
        clear hq2
        go_upto_region 4 with fail
        refine wp_region_quiet_below (by kernel_rfl) (by kernel_rfl) ?_
        repeat (go_big_quiet_step (with_reducible exact cr _ _))
        refine wpQuiet_nil ?_
        intro w3 ⟨⟨dq, osq⟩, hw3⟩
        have B3 : Hid (Below wr.heap.size wr w3) := by rw [hw3]; exact below_regrown wr dq osq
        clear hw3
        go_wp2_with fail
        go_roundw
        case rel => exact ⟨q + 1, by omega, by go_num, BW.out.trans (B3.out.mono BW.out.size), I2.out⟩
        case measure => simp [intOf]; omega
    · have hqn : q = n := by omega
      have Y := Lib.hid (ALLT.out (fun i v hi hv => I.out i v (by omega) hv))
      go_wp2_with fail
      go_ret
      exact ⟨by rw [Y.out]; rfl, BV.out.trans (BW.out.mono BV.out.size)⟩
theorem count_snoc_of {l : List (Int × Int)} {q : Nat} {v : Int × Int} (h : l[q]? = some v) (n : Int) : (refsL (l.take (q + 1))).count n = (refsL (l.take q)).count n + (if refB v.1 v.2 && v.2 == n then 1 else 0) := by
  cases hr : refB v.1 v.2 with
  | true =>
    rw [refsL_snoc_yes h hr, List.count_append]
    by_cases e : v.2 = n <;> simp [e]
  | false => rw [refsL_snoc_no h hr]; simp
set_option maxHeartbeats 4000000 in
theorem RTimes_any {w : World} {A : Option Addr} {c : Nat} {l : List (Int × Int)} (hl : l.length * 16 ≤ 140737488355328) (h : PairsAt w A l) (m : Int) :
    Calls Try.prog 92 #[.slice A l.length c, iV m] w fun e w' => e = .returned (iV ((refsL l).count m : Nat)) ∧ Below w.heap.size w w' := by
  have P := Lib.hid h
  have GET : Hid (∀ i, i < l.length → ∃ p, l[i]? = some p) := fun i hi => ⟨_, List.getElem?_eq_getElem hi⟩
  have FULL : Hid (l.take l.length = l) := List.take_of_length_le (Nat.le_refl _)
  clear h
  generalize hln : l.length = n at *
  clear hln
  go_enter Try.func92, Try.ntmps92
  go_wp2_with fail
  go_loopw [5, 6] (fun s5 i wr => ∃ q r : Nat, q ≤ n ∧ r ≤ q ∧ i = .int .i64 q ∧ s5 = .int .i64 r ∧ Hid (r = (refsL (l.take q)).count m) ∧ Hid (Below w.heap.size w wr)) (fun _ i _ => n - (intOf i).toNat)
  case atStart => exact ⟨0, 0, Nat.zero_le _, Nat.le_refl _, rfl, rfl, rfl, Below.refl _ _⟩
  case round =>
    obtain ⟨q, r, hq, hrq, rfl, rfl, R, BW⟩ := hrel
    by_cases hlt : q < n
    · obtain ⟨⟨a, x⟩, hv⟩ := GET.out q hlt
      obtain ⟨ad, e, hal, hc0, hc1⟩ := (pairs_below P.out BW.out) q _ hv
      subst e
      rw [add_one] at hc1
      simp only at hc0 hc1
      have E := Lib.hid (count_snoc_of hv m)
      have CR := Lib.hid (RRef_any a x)
      have hl2 : (ad.add (q * 2)).block < wr.heap.size := by rw [Go.ChangeShapes.block_add]; exact hal
      clear hv
      cases hr : refB a x with
      | false =>
        have E2 : Hid (r = (refsL (l.take (q + 1))).count m) := (show _ = _ by rw [E.out, hr, ← R.out]; rfl)
        rw [hr] at CR
        clear hr
        go_wp2_with (go_at_call 89; (with_reducible refine (CR.out _).mono ?_); rintro e w1 ⟨rfl, hb⟩; have v1 := (hb.cell (p := ⟨(ad.add (q * 2)).block, (ad.add (q * 2)).off + 1, none⟩) hl2).trans hc1; have B1 := Lib.hid hb; clear hb)
        go_roundw
        case rel => exact ⟨q + 1, r, by omega, by omega, by go_num, rfl, E2, BW.out.trans (B1.out.mono BW.out.size)⟩
        case measure => simp [intOf]; omega
      | true =>
        cases hx : (x == m) with
        | false =>
          have E2 : Hid (r = (refsL (l.take (q + 1))).count m) := (show _ = _ by rw [E.out, hr, hx, ← R.out]; rfl)
          rw [hr] at CR
          clear hr
          go_wp2_with (go_at_call 89; (with_reducible refine (CR.out _).mono ?_); rintro e w1 ⟨rfl, hb⟩; have v1 := (hb.cell (p := ⟨(ad.add (q * 2)).block, (ad.add (q * 2)).off + 1, none⟩) hl2).trans hc1; have B1 := Lib.hid hb; clear hb)
          go_roundw
          case rel => exact ⟨q + 1, r, by omega, by omega, by go_num, rfl, E2, BW.out.trans (B1.out.mono BW.out.size)⟩
          case measure => simp [intOf]; omega
        | true =>
          have E2 : Hid (r + 1 = (refsL (l.take (q + 1))).count m) := (show _ = _ by rw [E.out, hr, hx, ← R.out]; rfl)
          rw [hr] at CR
          clear hr
          go_wp2_with (go_at_call 89; (with_reducible refine (CR.out _).mono ?_); rintro e w1 ⟨rfl, hb⟩; have v1 := (hb.cell (p := ⟨(ad.add (q * 2)).block, (ad.add (q * 2)).off + 1, none⟩) hl2).trans hc1; have B1 := Lib.hid hb; clear hb)
          go_roundw
          case rel => exact ⟨q + 1, r + 1, by omega, by omega, by go_num, by go_num, E2, BW.out.trans (B1.out.mono BW.out.size)⟩
          case measure => simp [intOf]; omega
    · have hqn : q = n := by omega
      rw [hqn, FULL.out] at R
      go_wp2_with fail
      go_ret
      exact ⟨by rw [← R.out]; rfl, BW.out⟩
end Go.Proofs.Ytjlobjgemhapaaa
namespace Go.Proofs.Ytjlobjgemhapaaa
set_option maxRecDepth 20000
set_option maxRecDepth 20000
open Go.RowKit Go.Maps

def upL (g : List OB) (q : Nat) : List Int := (List.range q).map (fun (i : Nat) => cntF (allRefs g) ((i : Int) + 1))
theorem upL_snoc (g : List OB) (q : Nat) : upL g (q + 1) = upL g q ++ [cntF (allRefs g) ((q : Int) + 1)] := by unfold upL; rw [List.range_succ, List.map_append]; rfl
theorem cnt_step {g : List OB} {i : Nat} {o : OB} (h : g[i]? = some o) (x : Int) : cntF (allRefs (g.take (i + 1))) x = wrap64 (cntF (allRefs (g.take i)) x + ((refsL o.slots).count x : Nat)) := by
  unfold cntF
  rw [allRefs_snoc h, List.count_append, w64_add]
  simp
end Go.Proofs.Ytjlobjgemhapaaa
namespace Go.Proofs.Ytjlobjgemhapaaa
set_option maxRecDepth 20000
set_option maxRecDepth 20000
open Go.RowKit Go.Maps

theorem cnt_more (L M : List Int) (x : Int) : wrap64 (cntF L x + (M.count x : Nat)) = cntF (L ++ M) x := by
  unfold cntF
  rw [List.count_append, w64_add]
  simp
theorem holds_count (n : Int) (o : OB) : holdsB n o = decide (0 < (refsL o.slots).count n) := by
  rw [Bool.eq_iff_iff, decide_eq_true_iff, List.count_pos_iff]
  unfold holdsB refsL
  rw [List.any_eq_true, List.mem_map]
  constructor
  · rintro ⟨v, hv, h⟩
    rw [Bool.and_eq_true, beq_iff_eq] at h
    exact ⟨v, List.mem_filter.2 ⟨hv, h.1⟩, h.2⟩
  · rintro ⟨v, hv, rfl⟩
    obtain ⟨h1, h2⟩ := List.mem_filter.1 hv
    exact ⟨v, h1, by rw [Bool.and_eq_true]; exact ⟨h2, by simp⟩⟩
end Go.Proofs.Ytjlobjgemhapaaa
