/- ScopeFollows: functions within one another (six at most), each with up to four locals, and all names used in the innermost: each use is found through the functions' names from outside, down to the owner's register; each function's locals and names from outside are as many as they should be. Conditions: none but the form's own reach. -/
import Derived.Test.YtlbbbfmnghcdnaaScChainC
import Derived.Test.YtlbbbfmnghcdnaaLawPost
import Derived.ProofKit
import Derived.BigQuiet
namespace Go.Proofs.Ytlbbbfmnghcdnaa.scopeFollows
set_option maxRecDepth 20000
open Go.ChangeShapes Go.WideShapes Go.ChangeAt Go.RowKit

/-- A list of bytes that comes in. -/
theorem open_by {H : Type} {enc : TypeId × Value → H} {w : World} {base : Nat} {spare : Nat → Bool} {held : Bool} {r : Reach} {b0 : Nat} {v : Value} {d : DataW H} {p : List MemPlace} (hv : Value.okWide Try.prog w r b0 22 v) (h : DataW.Trod enc Try.prog w base spare held 22 v d p) :
    ∃ (A : Option Addr) (c : Nat) (l : List Nat), v = .slice A l.length c ∧ BySl w (.slice A l.length c) l := by
  obtain ⟨a, len, cap, rfl⟩ := okWide_slice Try.underlying22 hv
  obtain ⟨fuel, hf⟩ := h
  rcases Go.ChangeShapes.open_ints Try.underlying22 Try.underlying5 (by kernel_rfl) hf with ⟨hcs, _⟩ | ⟨a', len', cap', zs, hcs, _, hl, hm, hz, _, hcell, hwz⟩
  · simp [Value.cells] at hcs
    obtain ⟨rfl, rfl, rfl⟩ := hcs
    exact ⟨none, 0, [], rfl, none, 0, rfl, Nat.le_refl _, by decide, fun h => absurd rfl h⟩
  · simp [Value.cells] at hcs
    obtain ⟨rfl, rfl, rfl⟩ := hcs
    have hlen : len ≤ zs.length := by rw [hz]; split <;> omega
    have hll : ((zs.take len).map Int.toNat).length = len := by rw [List.length_map, List.length_take]; omega
    refine ⟨some a', cap, (zs.take len).map Int.toNat, by rw [hll], some a', cap, rfl, by rw [hll]; exact hl, by unfold maxLen at hm; omega, fun hne => ?_⟩
    have h0 : 0 < len := by rw [← hll]; exact List.length_pos_iff.2 hne
    refine ⟨a', rfl, ?_, fun i x hx => ?_⟩
    · have := World.block_lt_of_cell? w _ (hcell 0 (by omega))
      rwa [Go.ChangeShapes.block_add] at this
    · rw [List.getElem?_map] at hx
      obtain ⟨z, hz1, hz2⟩ := Option.map_eq_some_iff.1 hx
      have hi : i < len := by
        have := (List.getElem?_eq_some_iff.1 hz1).1
        rw [List.length_take] at this; omega
      rw [List.getElem?_take_of_lt hi] at hz1
      have hc := hcell i (by omega)
      have e : zs.getD i 0 = z := by rw [List.getD_eq_getElem?_getD, hz1]; rfl
      rw [e] at hc
      obtain ⟨b1, b2⟩ := of_wf_u8 (hwz z (List.mem_of_getElem? hz1))
      subst hz2
      have ez : ((z.toNat : Nat) : Int) = z := by omega
      exact ⟨by rw [hc, ez], by omega⟩
theorem walk0 (w : World) (c : Nat → Nat) (A : Option Addr) (cap : Nat) (hc : Calls Try.prog 8 #[.slice A 0 cap] w (ChainS c 0 w)) :
    Calls Try.prog 3 #[.slice A 0 cap] w fun e w' => e = .returned (.bool true) ∧ Below w.heap.size w w' := by
  have CH := Lib.hid hc
  clear hc
  go_enter Try.func3, Try.ntmps3
  go_wp2_with (first
    | (go_at_call 8; (with_reducible refine CH.out.mono ?_); rintro e w1 ⟨b1, vi, vN, vO, vR, xs, rfl, hX, hT⟩; have HT := Lib.hid hT; have B1 := Lib.hid b1; clear hX hT b1)
    | (go_at_call 9; (with_reducible refine (resolve_nil _ HT.out.slB).mono ?_); rintro e w2 ⟨b2, A2, c2, rfl⟩; have B2 := Lib.hid (below_then B1.out b2); clear b2)
    | (go_at_call 10; (with_reducible refine (works_true _).mono ?_); rintro e w4 ⟨rfl, hb4⟩; have B := Lib.hid (below_then B2.out hb4); clear hb4))
  go_ret
  exact ⟨rfl, B.out⟩
theorem regs_cell {lo : Nat} {w : World} {vN vO vR : Value} {c : Nat → Nat} {d a b e q g cap : Nat} (h : NamesX lo w vN vO vR c d a b e) (hv : vR = .slice (some ⟨g, 0, none⟩) e cap) (hq : q < e) : w.cell? ⟨g, q, none⟩ = some (iV ((nameC c d q).2 : Nat)) := by
  subst hv
  exact row_cell h.rr (by simp [regsV, hq])
theorem own_lt {c : Nat → Nat} {d i k : Nat} (hd : d ≤ 6) (hi : i < posC c d) : (nameC c d i).1 < k ↔ i < posC c k := by
  obtain ⟨h1, h2, h3⟩ := name_at hd hi
  constructor
  · intro h
    have := posC_le c (show (nameC c d i).1 + 1 ≤ k by omega)
    rw [posC] at this; omega
  · intro h
    rcases Nat.lt_or_ge (nameC c d i).1 k with h4 | h4
    · exact h4
    · have := posC_le c h4; omega
set_option maxHeartbeats 8000000 in
theorem walk1 (w : World) (c : Nat → Nat) (n d m : Nat) (A : Option Addr) (cap : Nat) (hd : d = if 6 < n then 6 else n) (hdm : m + 1 = d) (hc4 : ∀ n, c n ≤ 4) (hc : Calls Try.prog 8 #[.slice A n cap] w (ChainS c d w)) :
    Calls Try.prog 3 #[.slice A n cap] w fun e w' => e = .returned (.bool true) ∧ Below w.heap.size w w' := by
  have hd6 : d ≤ 6 := by rw [hd]; split <;> omega
  have hmin : (if (6 : Int) < (n : Int) then (6 : Int) else (n : Int)) = (d : Int) := by rw [hd]; split <;> split <;> omega
  have h0 : 0 < d := by omega
  have hinn : innC c d 0 = lvC c d (d - 1) := by rw [innC, if_neg (by omega), Nat.sub_zero]
  have CH := Lib.hid hc
  have HC4 := Lib.hid hc4
  replace hinn := Lib.hid hinn
  have HPS : Hid (∀ n, posC c n ≤ 4 * n) := posC_small hc4
  have hd1 : (d : Int) - 1 = (m : Int) := by omega
  have hmax : (if (1 : Int) < (d : Int) then (d : Int) else 1) = (d : Int) := by split <;> omega
  have q0 : ¬ (d : Int) = 0 := by omega
  clear hc hc4 hd
  go_enter Try.func3, Try.ntmps3
  go_wp2_with (first
    | (go_at_call 8; (with_reducible refine CH.out.mono ?_); rintro e w1 ⟨b1, vi, vN, vO, vR, xs, rfl, hX, hT⟩; rw [hinn.out] at hT; have HT := Lib.hid hT; have B1 := Lib.hid b1; obtain ⟨AN, cN, rfl⟩ := own_slice hX.rn; obtain ⟨AO, cO, rfl⟩ := own_slice hX.ro; obtain ⟨AR, cR, rfl⟩ := own_slice hX.rr; have HX := Lib.hid hX; clear hX hT b1)
    | (go_at_call 9; go_loud (with_reducible refine (resolve_chain HC4.out hd6 h0 _ HT.out.slB).mono ?_); rintro e w2 ⟨b2, v, rfl, hs⟩; obtain ⟨b, cc, rfl, hF⟩ := chain_cells h0 hs; have B2 := Lib.hid (below_then B1.out b2); have HX2 := Lib.hid (HX.out.below b2); obtain ⟨U, cu, hU, hu⟩ := (hF m (by omega)).us hdm; have HU := Lib.hid hu; have HF := Lib.hid hF; clear b2 hs hF hu HX))
  have hJ : posC c d ≤ 24 := by have := HPS.out d; omega
  generalize hJp : posC c d = J at *
  go_loopg [11, 12, 13, 14] J (fun g i pu at_ ix wr => ∃ j : Nat, i = iV j ∧ j + g = J ∧ Hid (Below w2.heap.size w2 wr))
  case atStart => exact ⟨0, rfl, by simp, Lib.hid (Below.refl _ _)⟩
  case round =>
    obtain ⟨j, rfl, hjJ, HB⟩ := hrel
    cases gk with
    | zero =>
      have hj : j = J := by omega
      subst hj
      go_wp2_with fail
      go_loopg [15, 16, 17, 18] d (fun g s15 s16 s17 s18 wr3 => ∃ k : Nat, s15 = iV k ∧ k + g = d ∧ wr3 = wr)
      case atStart => exact ⟨0, rfl, by simp, rfl⟩
      case round =>
        obtain ⟨k, rfl, hkd, rfl⟩ := hrel
        cases gk with
        | zero =>
          have hk : k = d := by omega
          subst hk
          go_wp2_with (first
            | (go_at_call 10; (with_reducible refine (works_true _).mono ?_); rintro e w4 ⟨rfl, hb4⟩; have B := Lib.hid (below_then (below_then B2.out HB.out) hb4); clear hb4))
          go_ret
          exact ⟨rfl, B.out⟩
        | succ g3 =>
          have k1 : k < d := by omega
          have HFk := Lib.hid ((HF.out k k1).below HB.out)
          obtain ⟨D, cd, hD, hds⟩ := HFk.out.ds
          obtain ⟨P, cp, hP, _⟩ := HFk.out.ps
          have HDS := Lib.hid hds
          clear hds
          have hpk : posC c k ≤ j := by rw [← hJp]; exact posC_le c (by omega)
          go_wp2_with fail
          go_loopg [16, 17] j (fun g s16 s17 wr4 => ∃ i u : Nat, s16 = iV u ∧ s17 = iV i ∧ i + g = j ∧ Hid (u = min i (posC c k)) ∧ wr4 = wr)
          case atStart => exact ⟨0, 0, rfl, rfl, by simp, Lib.hid (by omega), rfl⟩
          case round =>
            obtain ⟨i, u, rfl, rfl, hij, Hu, rfl⟩ := hrel
            cases gk with
            | zero =>
              have hu : u = posC c k := by have := Hu.out; omega
              subst hu
              generalize posC c k = pk at *
              go_wp2_with fail
              go_loopg [18] (c k) (fun g s18 wr5 => ∃ x : Nat, s18 = iV x ∧ x + g = c k ∧ wr5 = wr)
              case atStart => exact ⟨0, rfl, by simp, rfl⟩
              case round =>
                obtain ⟨x, rfl, hxc, rfl⟩ := hrel
                cases gk with
                | zero =>
                  have hx : ¬ x < c k := by omega
                  go_wp2_with fail
                  go_roundg g3
                  case measure => omega
                  case rel => exact ⟨k + 1, by simp, by omega, rfl⟩
                | succ g5 =>
                  have hx : x < c k := by omega
                  have hx2 : x ≤ 4 := by have := HC4.out k; omega
                  obtain ⟨gD, rfl, d0, d1⟩ := HDS.out x hx
                  by_cases hkm : k < m
                  · have e1 : decide (k + 1 < d) = true := by simp; omega
                    rw [e1] at d1
                    clear e1
                    go_wp2_with fail
                    go_roundg g5
                    case measure => omega
                    case rel => exact ⟨x + 1, by simp, by omega, rfl⟩
                  · have e1 : decide (k + 1 < d) = false := by simp; omega
                    rw [e1] at d1
                    clear e1
                    go_wp2_with fail
                    go_roundg g5
                    case measure => omega
                    case rel => exact ⟨x + 1, by simp, by omega, rfl⟩
            | succ g4 =>
              have i1 : i < j := by omega
              have hu2 : u ≤ 24 := by have := Hu.out; omega
              have i2 : i < posC c d := by omega
              obtain ⟨gO, capO, hvO, _⟩ := HX2.out.ro.form (by omega)
              injection hvO with hv1 hv2 hv3
              subst hv1 hv3
              clear hv2
              have hOc := owners_cell (HX2.out.below HB.out) rfl i1
              have hiff := own_lt (k := k) hd6 i2
              by_cases ho : (nameC c d i).1 < k
              · have hip := Lib.hid (hiff.1 ho)
                clear hiff
                generalize (nameC c d i).1 = o at *
                go_wp2_with fail
                go_roundg g4
                case measure => omega
                case rel => exact ⟨i + 1, u + 1, by simp, by simp, by omega, Lib.hid (by have := hip.out; have := Hu.out; omega), rfl⟩
              · have hip : Hid (¬ i < posC c k) := fun h => ho (hiff.2 h)
                clear hiff
                generalize (nameC c d i).1 = o at *
                go_wp2_with fail
                go_roundg g4
                case measure => omega
                case rel => exact ⟨i + 1, u, by simp, by simp, by omega, Lib.hid (by have := hip.out; have := Hu.out; omega), rfl⟩
    | succ g =>
      have q1 : j < J := by omega
      have q2 : j < posC c d := by omega
      obtain ⟨gU, rfl, u0, u1, u2⟩ := HU.out j q1
      replace u0 := below_cell HB.out u0
      replace u1 := below_cell HB.out u1
      replace u2 := below_cell HB.out u2
      obtain ⟨gO, capO, hvO, _⟩ := HX2.out.ro.form (by omega)
      injection hvO with hv1 hv2 hv3
      subst hv1 hv3
      clear hv2
      obtain ⟨gR, capR, hvR, _⟩ := HX2.out.rr.form (by omega)
      injection hvR with hv1 hv2 hv3
      subst hv1 hv3
      clear hv2
      have hOc := owners_cell (HX2.out.below HB.out) rfl q1
      have hRc := regs_cell (HX2.out.below HB.out) rfl q1
      obtain ⟨hn1, hn2, hn3⟩ := name_at hd6 q2
      by_cases ho : (nameC c d j).1 = m
      · have hue : useE c d j = ⟨1, (nameC c d j).2, some (nameC c d j).2⟩ := by rw [useE, if_pos (by omega)]
        rw [hue] at u0 u1
        rw [ho] at hOc
        simp only [] at u0 u1
        generalize (nameC c d j).2 = r at *
        have hOc2 := below_cell (below_alloc wr (.cells #[.int .i64 1, .int .i64 r, .bool false] 40)) hOc
        have hRc2 := below_cell (below_alloc wr (.cells #[.int .i64 1, .int .i64 r, .bool false] 40)) hRc
        go_wp2_with fail
        go_quiet (fail)
        go_wp2_with fail
        go_roundg g
        case measure => omega
        case rel => exact ⟨j + 1, by simp, by omega, Lib.hid (below_drewN (below_then HB.out (below_alloc _ _)) _)⟩
      · have hue : useE c d j = ⟨2, j, none⟩ := by rw [useE, if_neg (by omega)]
        rw [hue] at u0 u1
        simp only [] at u0 u1
        have ho2 : ¬ ((nameC c d j).1 : Int) = (m : Int) := by omega
        generalize hon : (nameC c d j).1 = o at *
        generalize hrn : (nameC c d j).2 = r at *
        have hOc2 := below_cell (below_alloc wr (.cells #[.int .i64 2, .int .i64 j, .bool false] 40)) hOc
        have hRc2 := below_cell (below_alloc wr (.cells #[.int .i64 2, .int .i64 j, .bool false] 40)) hRc
        have HFW : Hid (∀ n, n < d → FnCells (wr.alloc (.cells #[.int .i64 2, .int .i64 j, .bool false] 40)) b c d n) := fun n hn => ((HF.out n hn).below HB.out).below (below_alloc _ _)
        replace hon := Lib.hid hon
        replace hrn := Lib.hid hrn
        replace ho := Lib.hid ho
        go_wp2_with fail
        go_loopg [13, 14] (m - o - 1) (fun g2 at_ ix wr2 => ∃ a : Nat, at_ = iV a ∧ Hid (a = o + 1 + g2 ∧ a < d) ∧ ix = iV j ∧ wr2 = wr.alloc (.cells #[.int .i64 2, .int .i64 j, .bool false] 40))
        case atStart => exact ⟨m, rfl, Lib.hid (by have := ho.out; omega), rfl, rfl⟩
        case round =>
          obtain ⟨a, rfl, Ha, rfl, rfl⟩ := hrel
          have hao : o < a := by have := Ha.out; omega
          have had : a < d := Ha.out.2
          obtain ⟨P, cp, hP, hps⟩ := (HFW.out a had).ps
          have hja : j < posC c a := by
            have := posC_le c (show o + 1 ≤ a by omega)
            rw [posC] at this; omega
          obtain ⟨gP, rfl, p0, p1⟩ := hps j hja
          have hup : upE c d a j = ⟨decide (o + 1 = a), if o + 1 = a then r else j, textC c d j⟩ := by rw [upE, hon.out, hrn.out]
          rw [hup] at p0 p1
          simp only [] at p0 p1
          clear hps hup
          generalize posC c a = pa at *
          cases gk with
          | zero =>
            have e1 : o + 1 = a := by have := Ha.out; omega
            have e2 : decide (o + 1 = a) = true := by simp [e1]
            rw [e2] at p0
            rw [if_pos e1] at p1
            have e3 : (a : Int) - 1 = (o : Int) := by omega
            have ew : IntKind.i64.wrap (o : Int) = (o : Int) := by rw [IntKind.wrap_i64]; omega
            have ew2 : (IntKind.i64.wrap (o : Int) != (o : Int)) = false := by rw [ew]; simp
            have ej : decide ((j : Int) < 0) = false := by simp
            have ep : decide (pa ≤ j) = false := by simp; omega
            have er : ((r : Int) != (r : Int)) = false := by simp
            clear e1 e2
            go_wp2_with fail
            go_quiet (fail)
            go_wp2_with fail
            go_roundg g
            case measure => omega
            case rel => exact ⟨j + 1, by simp, by omega, Lib.hid (below_drewN (below_then HB.out (below_alloc _ _)) _)⟩
          | succ g2 =>
            have e1 : ¬ o + 1 = a := by have := Ha.out; omega
            have e2 : decide (o + 1 = a) = false := by simp [e1]
            rw [e2] at p0
            rw [if_neg e1] at p1
            have e4 : 0 < a := by omega
            clear e1 e2
            go_wp2_with fail
            go_roundg g2
            case measure => omega
            case rel =>
              have e5 : ((a - 1 : Nat) : Int) = (a : Int) - 1 := by omega
              exact ⟨a - 1, by rw [e5], Lib.hid (by have := Ha.out; omega), rfl, rfl⟩
theorem walk (A : Option Addr) (c : Nat) (l : List Nat) (w : World) (hb : BySl w (.slice A l.length c) l) :
    Calls Try.prog 3 #[.slice A l.length c] w fun e w' => e = .returned (.bool true) ∧ Below w.heap.size w w' := by
  have hl : l.length ≤ maxLen := by
    obtain ⟨A', c', e, h1, h2, _⟩ := hb
    unfold maxLen; omega
  obtain ⟨d, hd⟩ : ∃ d, d = if 6 < l.length then 6 else l.length := ⟨_, rfl⟩
  have hdl : d ≤ l.length := by rw [hd]; split <;> omega
  have hch := chain_by w (cL l) l.length d A c hl hd (cL_le l) (bytes_of hb hdl)
  have h4 := cL_le l
  generalize cL l = C at *
  generalize l.length = n at *
  rcases Nat.eq_zero_or_pos n with rfl | hn
  · have h0 : d = 0 := by omega
    subst h0
    exact walk0 w C A c hch
  · have h0 : d ≠ 0 := by rw [hd]; split <;> omega
    obtain ⟨m, rfl⟩ := Nat.exists_eq_succ_of_ne_zero h0
    exact walk1 w C n (m + 1) m A c hd rfl h4 hch
theorem own : ownKnob Try.prog.godebug = none := by kernel_rfl
theorem laidOut : laidOutB Try.prog = true := by kernel_rfl
set_option maxRecDepth 100000 in
theorem contract (H : Type) (enc : TypeId × Value → H) (W : World) (base : Nat) (args : Array Value) (ds gs : List (DataW H)) (before : List MemPlace)
    (hval : ∀ (j : Nat) t v, Try.f3.params[j]? = some t → args[j]? = some v → Value.okWide Try.prog W .any base t v)
    (hW : DataW.Whole enc Try.prog Try.f3.params.toList Rows.scopeFollowsSpec.vars false W args.toList ds gs before)
    (hsz0 : (DataW.weightsEach Try.prog (Try.f3.params.toList ++ Rows.scopeFollowsSpec.plain.varTypes Try.prog) (ds ++ gs)).all (· ≤ reachBytes) = true) :
    Calls Try.prog 3 args W fun e W' => ∃ v, e = .returned v ∧ Rows.scopeFollowsSpec.post enc Try.prog Try.f3 false true false false W args v W' := by
  have hW' := hW
  obtain ⟨p, q, hA0, hV, rfl, hfz, hnd⟩ := hW
  have hA : DataW.TrodAll enc Try.prog W 0 (fun _ => true) true Try.f3.params.toList args.toList ds p := hA0
  have hsz := hsz0
  rw [Try.params3] at hA hval hsz
  obtain ⟨v0, vs0, d0, ds0, p0, q0, hargs, rfl, rfl, h0, r0⟩ := trodAll_cons hA
  obtain ⟨rfl, rfl, rfl⟩ := trodAll_nil r0
  obtain rfl : args = #[v0] := by cases args; simp_all
  obtain ⟨rfl, rfl⟩ := trodVars_none hV
  obtain ⟨A0, c0, l0, rfl, w0⟩ := open_by (hval 0 22 v0 rfl rfl) h0
  clear hA0 hsz hsz0
  simp only [List.append_nil] at hW'
  refine (walk A0 c0 l0 W w0).mono fun e W' ⟨he, hb⟩ => ?_
  subst he
  exact ⟨_, rfl, law_post laidOut (by kernel_rfl) (by kernel_rfl) Try.underlying4 hW' hb rfl⟩

set_option maxRecDepth 100000 in
theorem lifted (os : Os) (started : os.Started) (H : Type) (enc : TypeId × Value → H) :
    ReturnsInHanded {} Try.checked os 3 .any (Rows.scopeFollowsSpec.pre6 enc Try.prog Try.f3 Rows.scopeFollowsRow.domain false) (Rows.scopeFollowsSpec.post enc Try.prog Try.f3 false true false false) := by
  refine returnsInHanded_of_change_sized (C := Try.checked) own started (by kernel_rfl) Try.func3
    (ChangeSpec.witness6 (enc := enc) (C := Try.checked) false ⟨#[], #[.slice none 0 0], []⟩ 8 (by kernel_rfl) (by kernel_rfl) (by kernel_rfl) (by kernel_rfl)) ?_
  intro W base args ds gs before hval hW _ hsz _
  exact contract H enc W base args ds gs before hval hW hsz
/-- The row. -/
theorem holds : Rows.ScopeFollowsSaid :=
  OpenClaim.holds_of_wide 3 Try.f3 rfl rfl rfl rfl rfl rfl rfl ⟨rfl, rfl, rfl, rfl, rfl⟩ rfl rfl rfl rfl rfl (by kernel_rfl) Try.func3 (by kernel_rfl)
    (of_decide_eq_true (by kernel_rfl)) (by unfold Func.isWrapper; first | (rw [if_pos (by decide +kernel)]; kernel_rfl) | (rw [if_neg (by decide +kernel)]; exact ⟨rfl, rfl⟩))
    (fun os started H enc _ => lifted os started H enc)
end Go.Proofs.Ytlbbbfmnghcdnaa.scopeFollows
