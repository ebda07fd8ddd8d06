/- trial.heldBy: what objects hold, slot by slot, but strings. -/
import Derived.Test.YtghnjmodnhnmfaaTrSmall
import Derived.Test.YtghnjmodnhnmfaaRcSmall
namespace Go.Proofs.Ytghnjmodnhnmfaa
set_option maxRecDepth 20000
open Go.RowKit Go.Maps

def heldJ (g : List OB) (xs : List Int) (k : Nat) (sl : List (Int × Int)) (j : Nat) : List Int := (xs.take k).flatMap (heldG g) ++ heldS (sl.take j)
theorem heldJ_yes {g : List OB} {xs : List Int} {k j : Nat} {sl : List (Int × Int)} {p : Int × Int} (h : sl[j]? = some p) (h5 : 5 < p.1) : heldJ g xs k sl (j + 1) = heldJ g xs k sl j ++ [p.2] := by
  unfold heldJ; rw [heldS_take h, if_pos h5, List.append_assoc]
theorem heldJ_no {g : List OB} {xs : List Int} {k j : Nat} {sl : List (Int × Int)} {p : Int × Int} (h : sl[j]? = some p) (h5 : ¬ 5 < p.1) : heldJ g xs k sl (j + 1) = heldJ g xs k sl j := by
  unfold heldJ; rw [heldS_take h, if_neg h5, List.append_nil]
theorem heldJ_end {g : List OB} {xs : List Int} {k q : Nat} {o : OB} {x : Int} (h : xs[k]? = some x) (hx : x = (q : Int) + 1) (ho : g[q]? = some o) : heldJ g xs k o.slots o.slots.length = (xs.take (k + 1)).flatMap (heldG g) := by
  unfold heldJ
  rw [List.take_add_one, h, List.flatMap_append, List.take_of_length_le (Nat.le_refl _)]
  subst hx
  simp [heldG_at ho]
theorem held_total {g : List OB} (hs : ∀ o ∈ g, o.slots.length ≤ 1048576) : ∀ (xs : List Int), (xs.flatMap (heldG g)).length ≤ xs.length * 1048576
  | [] => Nat.le_refl _
  | x :: r => by
    rw [List.flatMap_cons, List.length_append, List.length_cons]
    have := held_total hs r
    have h1 : (heldG g x).length ≤ 1048576 := by
      unfold heldG
      cases ho : g[(x - 1).toNat]? with
      | none => exact Nat.zero_le _
      | some o => exact Nat.le_trans (heldS_len _) (hs o (List.mem_of_getElem? ho))
    omega
theorem heldJ_len {g : List OB} (hs : ∀ o ∈ g, o.slots.length ≤ 1048576) (xs : List Int) (k : Nat) (sl : List (Int × Int)) (j : Nat) : (heldJ g xs k sl j).length ≤ k * 1048576 + j := by
  unfold heldJ
  rw [List.length_append]
  have h1 := held_total hs (xs.take k)
  have h2 : (xs.take k).length ≤ k := by simp; omega
  have h3 := heldS_len (sl.take j)
  have h4 : (sl.take j).length ≤ j := by simp; omega
  have : (xs.take k).length * 1048576 ≤ k * 1048576 := Nat.mul_le_mul_right _ h2
  omega
theorem two_boxes {w : World} {o : Obj} (x : Value) (E : TypeId) : ∀ j u, [x][j]? = some u → ((w.alloc o).alloc (.cells #[x] E)).cell? ((⟨w.heap.size + 1, 0, none⟩ : Addr).add j) = some u := fun j u hu => by
  have := one_cell (w := w.alloc o) (E := E) j u hu
  simpa using this
set_option maxHeartbeats 4000000 in
theorem heldBy_any {w : World} {A : Option Addr} {c : Nat} {g : List OB} (hg : GAt w A g) (hn : g.length ≤ 900) (hs : ∀ o ∈ g, o.slots.length ≤ 1048576) {B : Option Addr} {d : Nat} {xs : List Int} (hl : xs.length ≤ 1048576) (h : IntsAt w B xs) (hx : ∀ x ∈ xs, 1 ≤ x ∧ x ≤ g.length) :
    Calls Try.prog 60 #[gV A g.length c, .slice B xs.length d] w (GivesInts (xs.flatMap (heldG g)) w) := by
  obtain ⟨i0, hi, hz0, hz1, hz2⟩ := info_parts int_info
  have G := Lib.hid hg
  have H := Lib.hid h
  have XR := Lib.hid hx
  have GET : Hid (∀ i, i < xs.length → ∃ p, xs[i]? = some p) := fun i hi => ⟨_, List.getElem?_eq_getElem hi⟩
  have GG : Hid (∀ x ∈ xs, ∃ (q : Nat) (o : OB), x = (q : Int) + 1 ∧ g[q]? = some o ∧ q < g.length ∧ o.slots.length ≤ 1048576) := fun x hm => by
    have := hx x hm
    have hq : (x - 1).toNat < g.length := by omega
    exact ⟨(x - 1).toNat, _, by omega, List.getElem?_eq_getElem hq, hq, hs _ (List.getElem_mem hq)⟩
  have JL : Hid (∀ k sl j, (heldJ g xs k sl j).length ≤ k * 1048576 + j) := heldJ_len hs xs
  have FULL : Hid (xs.flatMap (heldG g) = (xs.take xs.length).flatMap (heldG g)) := show _ = _ by rw [List.take_of_length_le (Nat.le_refl _)]
  have J0 : Hid (∀ k sl, heldJ g xs k sl 0 = (xs.take k).flatMap (heldG g)) := fun k sl => by unfold heldJ; simp [heldS]
  have Z0 : Hid ((xs.take 0).flatMap (heldG g) = []) := (rfl : (xs.take 0).flatMap (heldG g) = [])
  clear hg h hx hs
  rw [FULL.out]
  generalize hN : xs.length = n at *
  generalize hM : g.length = m at *
  clear hN hM FULL
  go_enter Try.func60, Try.ntmps60
  go_wp2_with fail
  refine at_world (fun V => Below w.heap.size w V ∧ V.cell? ⟨w.heap.size, 0, none⟩ = some (.slice A m c) ∧ w.heap.size < V.heap.size) ⟨(Below.refl _ _).alloc (Nat.le_refl _) _, by simp [go_sem], by simp⟩ (fun V HV => ?_)
  obtain ⟨hb, c0, zV⟩ := HV
  have BV := Lib.hid hb
  clear hb
  obtain ⟨bg, hbg⟩ : ∃ bg, bg = w.heap.size := ⟨_, rfl⟩
  have EBG := Lib.hid hbg
  rw [← hbg] at c0 zV ⊢
  clear hbg
  go_loopg [5, 12] n (fun gg v s12 wr => ∃ k : Nat, k ≤ n ∧ n - k ≤ gg ∧ s12 = .int .i64 k ∧ Hid (wr.ownsRow V.heap.size 3 1 v ((xs.take k).flatMap (heldG g)).length (((xs.take k).flatMap (heldG g)).map (Value.int .i64))) ∧ Hid (Below V.heap.size V wr))
  case atStart => exact ⟨0, Nat.zero_le _, by omega, rfl, (show World.ownsRow _ _ _ _ _ _ _ by rw [Z0.out]; exact World.ownsRow_nil _ _ _ _), Below.refl _ _⟩
  case round =>
    obtain ⟨k, hk, hgg, rfl, O, BB⟩ := hrel
    obtain ⟨G1, rfl⟩ : ∃ G1, G1 = gk := ⟨_, rfl⟩
    by_cases hlt : k < n
    · obtain ⟨x, hx⟩ := GET.out k hlt
      obtain ⟨a, e, hal, hc⟩ := (H.out.below (BV.out.trans (BB.out.mono BV.out.size))) k x hx
      subst e
      obtain ⟨q, o, rfl, ho, hqm, hsl⟩ := GG.out x (List.mem_of_getElem? hx)
      obtain ⟨ga, sA, sc, e, hal2, hcel, hss⟩ := G.out q o ho
      subst e
      have BW0 : Hid (Below w.heap.size w wr) := BV.out.trans (BB.out.mono BV.out.size)
      obtain ⟨o0, o1, o2, o3, o4⟩ := hcel.below (by rw [Go.ChangeShapes.block_add]; exact hal2) BW0.out
      replace hal2 := Nat.lt_of_lt_of_le hal2 BW0.out.size
      have x0 : wr.cell? ⟨bg, 0, none⟩ = some (.slice (some ga) m c) := (BB.out.cell (p := ⟨bg, 0, none⟩) zV).trans c0
      have z0 : bg < wr.heap.size := Nat.lt_of_lt_of_le zV BB.out.size
      have hl2 : (a.add k).block < wr.heap.size := by rw [Go.ChangeShapes.block_add]; exact hal
      have hl3 : (ga.add (q * 5)).block < wr.heap.size := by rw [Go.ChangeShapes.block_add]; exact hal2
      have JE := Lib.hid (heldJ_end hx rfl ho)
      have JY : Hid (∀ (j : Nat) p, o.slots[j]? = some p → 5 < p.1 → heldJ g xs k o.slots (j + 1) = heldJ g xs k o.slots j ++ [p.2]) := fun j p hp h5 => heldJ_yes hp h5
      have JN : Hid (∀ (j : Nat) p, o.slots[j]? = some p → ¬ 5 < p.1 → heldJ g xs k o.slots (j + 1) = heldJ g xs k o.slots j) := fun j p hp h5 => heldJ_no hp h5
      have SS := Lib.hid hss.1
      have GET2 : Hid (∀ i, i < o.slots.length → ∃ p, o.slots[i]? = some p) := fun i hi => ⟨_, List.getElem?_eq_getElem hi⟩
      have J1 := JL.out k o.slots
      have J1 := Lib.hid J1
      have JZ := Lib.hid (J0.out k o.slots)
      clear hx ho hss o0 o1 o3 o4 hcel
      generalize o.slots.length = ns at *
      generalize o.slots = sl at *
      go_wp2_with fail
      go_loopg [5, 24] ns (fun g2 v s24 w2 => ∃ j : Nat, j ≤ ns ∧ ns - j ≤ g2 ∧ s24 = .int .i64 j ∧ Hid (w2.ownsRow V.heap.size 3 1 v (heldJ g xs k sl j).length ((heldJ g xs k sl j).map (Value.int .i64))) ∧ Hid (Below V.heap.size V w2))
      case atStart => exact ⟨0, Nat.zero_le _, by omega, rfl, (show World.ownsRow _ _ _ _ _ _ _ by rw [JZ.out]; exact O.out), BB⟩
      case round =>
        obtain ⟨j, hj, hg2, rfl, OJ, BJ⟩ := hrel
        by_cases hlt2 : j < ns
        · obtain ⟨p, hp⟩ := GET2.out j hlt2
          have BW : Hid (Below w.heap.size w wr) := BV.out.trans (BJ.out.mono BV.out.size)
          have SAT : Hid (PairsAt wr sA sl) := pairs_below SS.out BW.out
          obtain ⟨sa, e, hsl3, p0, p1⟩ := SAT.out j p hp
          subst e
          have hl4 : (sa.add (j * 2)).block < wr.heap.size := by rw [Go.ChangeShapes.block_add]; exact hsl3
          have HP := Lib.hid hp
          have L1 := J1.out j
          clear hp
          rw [add_one] at p1
          cases h5 : decide (5 < p.1) with
          | true =>
            have E1 := Lib.hid (JY.out j p HP.out (of_decide_eq_true h5))
            have h5' : (5 : Int) < p.1 := of_decide_eq_true h5
            clear h5
            go_wp2_with (at_builtin; refine wpList_append_own _ rfl (.tmp 31) (.tmp 34) _ rfl V.heap.size 3 i0 _ 1 8 Try.underlying25 hi hz0 hz1 hz2 rfl (by decide) _ _ _ rfl ((own_below OJ.out ((Below.refl _ _).alloc (Nat.le_refl _) _)).alloc _) ⟨wr.heap.size + 1, 0, none⟩ 1 1 [.int .i64 p.2] rfl rfl (two_boxes _ _) (by simp [Value.oneCell']) (by unfold maxLen; omega) (by omega) (by have := BJ.out.size; simp; omega) ?_; intro v' w2 hown2 hg2 _)
            have R := refs_step (own_below OJ.out ((Below.refl _ _).alloc (Nat.le_refl _) _)) (BJ.out.alloc BJ.out.size _) hown2 hg2 E1.out
            have R1 := Lib.hid R.1
            have R2 := Lib.hid R.2
            clear hown2 hg2 R
            go_roundg (ns - (j + 1))
            case measure => omega
            case rel => exact ⟨j + 1, by omega, by omega, by go_num, R1, R2⟩
          | false =>
            have h5' : ¬ (5 : Int) < p.1 := of_decide_eq_false h5
            have E1 := Lib.hid (JN.out j p HP.out (Int.not_lt.1 h5'))
            clear h5
            go_wp2_with fail
            go_roundg (ns - (j + 1))
            case measure => omega
            case rel => exact ⟨j + 1, by omega, by omega, by go_num, (by rw [E1.out]; exact own_below OJ.out ((Below.refl _ _).alloc (Nat.le_refl _) _)), BJ.out.alloc BJ.out.size _⟩
        · have hjn : j = ns := by omega
          subst hjn
          go_wp2_with fail
          go_roundg (n - (k + 1))
          case measure => omega
          case rel => exact ⟨k + 1, by omega, by omega, by go_num, (by rw [← JE.out]; exact OJ.out), BJ⟩
    · have hkn : k = n := by omega
      subst hkn
      go_wp2_with fail
      go_ret
      exact ⟨_, rfl, own_less O.out (by have := BV.out.size; omega), BV.out.trans (BB.out.mono BV.out.size)⟩
end Go.Proofs.Ytghnjmodnhnmfaa
