/- The document's own: Into, Exact, Holders. -/
import Derived.Test.YtkkdgacdajojiaaGrRefB
namespace Go.Proofs.Ytkkdgacdajojiaa
set_option maxRecDepth 20000
open Go.RowKit Go.Maps

def upL (g : List OB) (q : Nat) : List Int := (List.range q).map (fun (i : Nat) => cntF (allRefs g) ((i : Int) + 1))
theorem upL_snoc (g : List OB) (q : Nat) : upL g (q + 1) = upL g q ++ [cntF (allRefs g) ((q : Int) + 1)] := by unfold upL; rw [List.range_succ, List.map_append]; rfl
theorem cnt_step {g : List OB} {i : Nat} {o : OB} (h : g[i]? = some o) (x : Int) : cntF (allRefs (g.take (i + 1))) x = wrap64 (cntF (allRefs (g.take i)) x + ((refsL o.slots).count x : Nat)) := by
  unfold cntF
  rw [allRefs_snoc h, List.count_append, w64_add]
  simp
set_option maxHeartbeats 8000000 in
theorem RInto_any {w : World} {A : Option Addr} {c : Nat} {g : List OB} (hg : GAt w A g) (hn : g.length * 64 ≤ 140737488355328) :
    Calls Try.prog 37 #[gV A g.length c] w (GivesI (intoL g) w) := by
  obtain ⟨i0, hi, hz0, hz1, hz2⟩ := info_parts int_info
  have G := Lib.hid hg
  have CH : Hid (∀ W, Below w.heap.size w W → Calls Try.prog 32 #[gV A g.length c] W fun e w' => e = .returned (.bool (checkB g)) ∧ Below W.heap.size W w') := fun W hW => RCheck_any (hg.below hW) hn
  cases hc : checkB g with
  | false =>
    rw [show intoL g = [] by simp [intoL, hc]]
    rw [hc] at CH
    clear hg hc
    generalize g.length = n at *
    go_enter Try.func37, Try.ntmps37
    go_wp2_with (go_at_call 32; (with_reducible refine (CH.out _ ((Below.refl _ _).alloc (Nat.le_refl _) _)).mono ?_); rintro e w1 ⟨rfl, hb⟩; have B1 := Lib.hid (below_box hb); clear hb)
    go_ret
    exact ⟨none, 0, rfl, fun i x hx => by simp at hx, B1.out⟩
  | true =>
    rw [show intoL g = upL g g.length by simp [intoL, hc, upL]]
    rw [hc] at CH
    clear hg hc
    have GET : Hid (∀ i, i < g.length → ∃ p, g[i]? = some p) := fun i hi => ⟨_, List.getElem?_eq_getElem hi⟩
    have FULL : Hid (g.take g.length = g) := List.take_of_length_le (Nat.le_refl _)
    generalize hgn : g.length = n at *
    clear hgn
    go_enter Try.func37, Try.ntmps37
    go_wp2_with (go_at_call 32; (with_reducible refine (CH.out _ ((Below.refl _ _).alloc (Nat.le_refl _) _)).mono ?_); rintro e V ⟨rfl, hb⟩; have BV := Lib.hid (below_box hb); have c0 := boxed hb (j := 0) rfl; have zV : w.heap.size < V.heap.size := (by have := hb.size; simp at this; omega); clear hb)
    have c0' : V.cell? ⟨w.heap.size, 0, none⟩ = some (.slice A n c) := c0
    clear c0
    go_loopg [3, 4] n (fun gg v s4 wr => ∃ q : Nat, q ≤ n ∧ n - q ≤ gg ∧ s4 = .int .i64 ((q : Int) + 1) ∧ Hid (wr.ownsRow V.heap.size 3 1 v (upL g q).length ((upL g q).map (Value.int .i64))) ∧ Hid (Below V.heap.size V wr))
    case atStart => exact ⟨0, Nat.zero_le _, by omega, rfl, (show World.ownsRow _ _ _ _ _ _ _ from World.ownsRow_nil _ _ _ _), Below.refl _ _⟩
    case round =>
      obtain ⟨q, hq, hgg, rfl, O, BW⟩ := hrel
      have x0 := (BW.out.cell (p := ⟨w.heap.size, 0, none⟩) zV).trans c0'
      by_cases hlt : q < n
      · obtain ⟨W1, rfl⟩ : ∃ W1, W1 = wr := ⟨_, rfl⟩
        obtain ⟨G1, rfl⟩ : ∃ G1, G1 = gk := ⟨_, rfl⟩
        have HL := Lib.hid (show (upL g q).length = q by simp [upL])
        have hle : (q : Int) + 1 ≤ (n : Int) := by omega
        go_wp2_with fail
        go_loopg [5, 6] n (fun g2 s5 s6 wx => ∃ i : Nat, i ≤ n ∧ n - i ≤ g2 ∧ s6 = .int .i64 i ∧ s5 = .int .i64 (cntF (allRefs (g.take i)) ((q : Int) + 1)) ∧ Hid (Below W1.heap.size W1 wx))
        case atStart => exact ⟨0, Nat.zero_le _, by omega, rfl, by simp [cntF, allRefs, wrap64], Below.refl _ _⟩
        case round =>
          obtain ⟨i, hi2, hg2, rfl, rfl, BX⟩ := hrel
          have y0 := (BX.out.cell (p := ⟨w.heap.size, 0, none⟩) (Nat.lt_of_lt_of_le zV BW.out.size)).trans x0
          by_cases hil : i < n
          · obtain ⟨o, ho⟩ := GET.out i hil
            have BT : Hid (Below w.heap.size w wr) := BV.out.trans ((BW.out.trans (BX.out.mono BW.out.size)).mono BV.out.size)
            obtain ⟨a, sA, sc, e, hal, ⟨o0, o1, o2, o3, o4⟩, hs⟩ := (G.out.below BT.out) i o ho
            subst e
            have hl2 : (a.add (i * 5)).block < wr.heap.size := by rw [Go.ChangeShapes.block_add]; exact hal
            have CT := Lib.hid (RTimes_any (c := sc) hs.2 hs.1 ((q : Int) + 1))
            have E := Lib.hid (cnt_step ho ((q : Int) + 1))
            generalize (refsL o.slots).count ((q : Int) + 1) = r at *
            clear ho hs o0 o1 o3 o4
            go_wp2_with (go_at_call 72; (with_reducible refine CT.out.mono ?_); rintro e w1 ⟨rfl, hb⟩; have B1 := Lib.hid hb; clear hb)
            go_roundg (n - (i + 1))
            case measure => omega
            case rel => exact ⟨i + 1, by omega, by omega, by go_num, by rw [E.out], BX.out.trans (B1.out.mono BX.out.size)⟩
          · have hin : i = n := by omega
            subst hin
            rw [FULL.out]
            have E1 := Lib.hid (upL_snoc g q)
            generalize cntF (allRefs g) ((q : Int) + 1) = y at *
            have O1 := Lib.hid (own_below O.out BX.out)
            go_wp2_with (at_builtin; refine wpList_append_own _ rfl (.tmp 34) (.tmp 36) _ rfl V.heap.size 3 i0 _ 1 8 Try.underlying49 hi hz0 hz1 hz2 rfl (by decide) _ _ _ rfl (O1.out.alloc _) ⟨wr.heap.size, 0, none⟩ 1 1 [.int .i64 y] rfl rfl one_cell (by simp [Value.oneCell']) (by unfold maxLen; have := HL.out; omega) (by have := HL.out; omega) (by have := BW.out.size; have := BX.out.size; simp; omega) ?_; intro v' w2 hown2 hg2 _)
            have R := refs_step O1.out (BW.out.trans (BX.out.mono BW.out.size)) hown2 hg2 E1.out
            clear hown2 hg2
            go_roundg (G1 - 1)
            case measure => omega
            case rel => exact ⟨q + 1, by omega, by omega, by go_num, R.1, R.2⟩
      · have hqn : q = n := by omega
        subst hqn
        go_wp2_with fail
        go_ret
        obtain ⟨A', c', ev, hI⟩ := ints_of_own O.out
        exact ⟨A', c', by rw [← ev]; rfl, hI, BV.out.trans (BW.out.mono BV.out.size)⟩
end Go.Proofs.Ytkkdgacdajojiaa
