/- GraphHolders: who is among an object's holders has it in a slot, and nobody else has, rising, each once: for any graph and number. Conditions: none but the form's own reach. -/
import Derived.Test.YtkkdgacdajojiaaGrWorks
import Derived.Test.YtkkdgacdajojiaaGrOpen
import Derived.Test.YtkkdgacdajojiaaLawPost
import Derived.ProofKit
import Derived.BigQuiet
import Derived.Deep.LoopGhost
import Derived.Deep.DeepCutAuto
namespace Go.Proofs.Ytkkdgacdajojiaa.graphHolders
set_option maxRecDepth 20000
open Go.ChangeShapes Go.WideShapes Go.ChangeAt Go.RowKit Go.Maps Go.Sort

theorem which_prefix (p : Nat → OB → Bool) (g : List OB) (k : Nat) : ∃ rest, whichL p g = whichL p (g.take k) ++ rest := by
  have e := List.take_append_drop k g
  refine ⟨((g.drop k).zipIdx (g.take k).length |>.filter fun x => p (x.2 + 1) x.1).map fun x => x.2 + 1, ?_⟩
  conv => lhs; rw [← e]
  unfold whichL
  rw [List.zipIdx_append, List.filter_append, List.map_append]
  simp
theorem which_at {p : Nat → OB → Bool} {g : List OB} {q : Nat} {o : OB} (ho : g[q]? = some o) (hp : p (q + 1) o = true) : (whichL p g)[(whichL p (g.take q)).length]? = some (q + 1) := by
  obtain ⟨rest, hr⟩ := which_prefix p g (q + 1)
  rw [hr, which_snoc_yes ho hp]
  simp
set_option maxHeartbeats 8000000 in
theorem walk (A : Option Addr) (c : Nat) (g : List OB) (m : Int) (hz : g.length * 64 ≤ 140737488351232) (_hl : -9223372036854775808 ≤ m) (_hu : m ≤ 9223372036854775807) (w : World) (hg : GAt w A g) :
    Calls Try.prog 10 #[.agg #[.slice A g.length c], .int .i64 m] w fun e w' => e = .returned (.bool true) ∧ Below w.heap.size w w' := by
  have G := Lib.hid hg
  have CA : Hid (∀ W, Below w.heap.size w W → Calls Try.prog 31 #[gV A g.length c] W fun e w' => e = .returned (.bool (checkB g)) ∧ Below W.heap.size W w') := fun W hW => Check_any (hg.below hW) (by omega)
  have CH : Hid (∀ W, Below w.heap.size w W → Calls Try.prog 40 #[gV A g.length c, .int .i64 m] W (GivesI (holdersL g m) W)) := fun W hW => Holders_any (hg.below hW) (by omega) m
  clear hg
  cases hc : checkB g with
  | false =>
    rw [show holdersL g m = [] by simp [holdersL, hc]] at CH
    rw [hc] at CA
    clear hc
    generalize g.length = n at *
    go_enter Try.func10, Try.ntmps10
    go_wp2_with (first
      | (go_at_call 33; (with_reducible refine (works_true _).mono ?_); rintro e w1 ⟨rfl, hb⟩; have B1 := Lib.hid (below_box hb); have c1 := boxed hb (j := 0) rfl; have z1 : w.heap.size < w1.heap.size := (by have := hb.size; simp at this; omega); clear hb)
      | (go_at_call 40; (with_reducible refine (CH.out _ B1.out).mono ?_); rintro e w2 ⟨A1, c1', rfl, i1, hb⟩; have B2 : Hid (Below w.heap.size w w2) := B1.out.trans (hb.mono B1.out.size); have c2 := (hb.cell (p := ⟨w.heap.size, 0, none⟩) z1).trans c1; clear hb)
      | (go_at_call 31; (with_reducible refine (CA.out _ B2.out).mono ?_); rintro e w3 ⟨rfl, hb⟩; have B3 : Hid (Below w.heap.size w w3) := B2.out.trans (hb.mono B2.out.size); clear hb))
    go_ret
    exact ⟨rfl, B3.out⟩
  | true =>
    have XE : holdersL g m = intsOf (whichL (fun _ o => holdsB m o) g) := by simp [holdersL, hc]
    rw [XE] at CH
    rw [hc] at CA
    clear hc XE
    have AT : Hid (∀ q o, g[q]? = some o → holdsB m o = true → (intsOf (whichL (fun _ o => holdsB m o) g))[(whichL (fun _ o => holdsB m o) (g.take q)).length]? = some ((q : Int) + 1)) := fun q o ho hp => by
      unfold intsOf; rw [List.getElem?_map, which_at ho hp]; rfl
    have SN : Hid (∀ q o, g[q]? = some o → (whichL (fun _ o => holdsB m o) (g.take (q + 1))).length = (whichL (fun _ o => holdsB m o) (g.take q)).length + if holdsB m o then 1 else 0) := fun q o ho => by
      rw [which_snoc ho]; split <;> simp
    have LE : Hid (∀ q, (whichL (fun _ o => holdsB m o) (g.take q)).length ≤ q) := fun q => Nat.le_trans (which_len _ _) (List.length_take_le _ _)
    have FULL : Hid ((whichL (fun _ o => holdsB m o) (g.take g.length)).length = (intsOf (whichL (fun _ o => holdsB m o) g)).length) := (show _ = _ by rw [List.take_of_length_le (Nat.le_refl _), intsOf_len])
    have GET : Hid (∀ i, i < g.length → ∃ p, g[i]? = some p) := fun i hi => ⟨_, List.getElem?_eq_getElem hi⟩
    obtain ⟨cn, hcn⟩ : ∃ cn : Nat → Nat, cn = fun q => (whichL (fun _ o => holdsB m o) (g.take q)).length := ⟨_, rfl⟩
    have C0 : cn 0 = 0 := by rw [hcn]; rfl
    replace AT : Hid (∀ q o, g[q]? = some o → holdsB m o = true → (intsOf (whichL (fun _ o => holdsB m o) g))[cn q]? = some ((q : Int) + 1)) := (show _ by rw [hcn]; exact AT.out)
    replace SN : Hid (∀ q o, g[q]? = some o → cn (q + 1) = cn q + if holdsB m o then 1 else 0) := (show _ by rw [hcn]; exact SN.out)
    replace LE : Hid (∀ q, cn q ≤ q) := (show _ by rw [hcn]; exact LE.out)
    replace FULL : Hid (cn g.length = (intsOf (whichL (fun _ o => holdsB m o) g)).length) := (show _ by rw [hcn]; exact FULL.out)
    clear hcn
    generalize intsOf (whichL (fun _ o => holdsB m o) g) = X at *
    generalize hgn : g.length = n at *
    generalize hxn : X.length = nx at *
    have HXN := Lib.hid hxn
    clear hgn
    go_enter Try.func10, Try.ntmps10
    go_wp2_with (first
      | (go_at_call 33; (with_reducible refine (works_true _).mono ?_); rintro e w1 ⟨rfl, hb⟩; have B1 := Lib.hid (below_box hb); have c1 := boxed hb (j := 0) rfl; have z1 : w.heap.size < w1.heap.size := (by have := hb.size; simp at this; omega); clear hb)
      | (go_at_call 40; (with_reducible refine (CH.out _ B1.out).mono ?_); rintro e w2 ⟨A1, c1', rfl, i1, hb⟩; rw [hxn]; have I1 := Lib.hid i1; have B2 : Hid (Below w.heap.size w w2) := B1.out.trans (hb.mono B1.out.size); have c2 := (hb.cell (p := ⟨w.heap.size, 0, none⟩) z1).trans c1; have z2 : w.heap.size < w2.heap.size := Nat.lt_of_lt_of_le z1 hb.size; clear hb)
      | (go_at_call 31; (with_reducible refine (CA.out _ B2.out).mono ?_); rintro e V ⟨rfl, hb⟩; have BV : Hid (Below w.heap.size w V) := B2.out.trans (hb.mono B2.out.size); have I2 : Hid (IntsAt V A1 X) := I1.out.below hb; have c3 := (hb.cell (p := ⟨w.heap.size, 0, none⟩) z2).trans c2; have zV : w.heap.size < V.heap.size := Nat.lt_of_lt_of_le z2 hb.size; clear hb))
    have c0' : V.cell? ⟨w.heap.size, 0, none⟩ = some (.slice A n c) := c3
    clear c1 c2 c3 hxn
    obtain ⟨bg, hbg⟩ : ∃ bg, bg = w.heap.size := ⟨_, rfl⟩
    rw [← hbg] at c0' zV ⊢
    clear hbg
    go_loopg [6, 7] n (fun gg s6 s7 wr => ∃ q : Nat, q ≤ n ∧ n - q ≤ gg ∧ s7 = .int .i64 q ∧ s6 = .int .i64 (cn q) ∧ Hid (Below V.heap.size V wr))
    case atStart => exact ⟨0, Nat.zero_le _, by omega, rfl, by rw [C0]; rfl, Below.refl _ _⟩
    case round =>
      obtain ⟨q, hq, hgg, rfl, rfl, BW⟩ := hrel
      have x0 := (BW.out.cell (p := ⟨bg, 0, none⟩) zV).trans c0'
      have hcq := LE.out q
      by_cases hlt : q < n
      · obtain ⟨o, ho⟩ := GET.out q hlt
        obtain ⟨W1, rfl⟩ : ∃ W1, W1 = wr := ⟨_, rfl⟩
        obtain ⟨G1, rfl⟩ : ∃ G1, G1 = gk := ⟨_, rfl⟩
        have BT : Hid (Below w.heap.size w W1) := BV.out.trans (BW.out.mono BV.out.size)
        obtain ⟨a, sA, sc, e, hal, ⟨o0, o1, o2, o3, o4⟩, hs⟩ := (G.out.below BT.out) q o ho
        subst e
        have hl2 : (a.add (q * 5)).block < W1.heap.size := by rw [Go.ChangeShapes.block_add]; exact hal
        have HR := Lib.hid (refs_values (c := sc) hs.2 hs.1)
        have HC := Lib.hid (holds_count m o)
        have HA := Lib.hid (AT.out q o ho)
        have HN := Lib.hid (SN.out q o ho)
        have LR := Lib.hid (Nat.le_trans (refsL_len o.slots) (by have := hs.2; omega : o.slots.length ≤ 8796093022208))
        have hle : (q : Int) + 1 ≤ (n : Int) := by omega
        clear ho hs o0 o1 o3 o4
        generalize holdsB m o = hh at *
        generalize refsL o.slots = R at *
        generalize hrn : R.length = nr at *
        have HRN := Lib.hid hrn
        clear hrn
        have hnr := LR.out
        go_wp2_with (go_at_call 42; (with_reducible refine HR.out.mono ?_); rintro e w4 ⟨A2, c2', rfl, hI, hb⟩; have I4 := Lib.hid hI; have B4 := Lib.hid hb; clear hb hI)
        go_loopg [8, 10] nr (fun g2 s8 s10 wx => ∃ k : Nat, k ≤ nr ∧ nr - k ≤ g2 ∧ s10 = .int .i64 k ∧ s8 = .bool ((R.take k).any (· == m)) ∧ wx = w4)
        case atStart => exact ⟨0, Nat.zero_le _, by omega, rfl, rfl, rfl⟩
        case round =>
          obtain ⟨k, hk, hg2, rfl, rfl, hw4⟩ := hrel
          subst hw4
          by_cases hkl : k < nr
          · obtain ⟨x, hx⟩ : ∃ x, R[k]? = some x := ⟨_, List.getElem?_eq_getElem (by have := HRN.out; omega)⟩
            obtain ⟨ad, e, _, hal2, hcx⟩ := I4.out k x hx
            subst e
            have TK : Hid ((R.take (k + 1)).any (· == m) = ((R.take k).any (· == m) || x == m)) := (show _ = _ by rw [List.take_add_one, hx]; simp)
            clear hx
            cases hb : (R.take k).any (· == m) with
            | true =>
              rw [hb] at TK
              go_wp2_with fail
              go_roundg (nr - (k + 1))
              case measure => omega
              case rel => exact ⟨k + 1, by omega, by omega, by go_num, by rw [TK.out]; rfl, rfl⟩
            | false =>
              rw [hb] at TK
              go_wp2_with fail
              go_roundg (nr - (k + 1))
              case measure => omega
              case rel => exact ⟨k + 1, by omega, by omega, by go_num, by rw [TK.out]; rfl, rfl⟩
          · have hkn : k = nr := by omega
            have HT : Hid ((R.take k).any (· == m) = hh) := (show _ = _ by
              rw [List.take_of_length_le (by have := HRN.out; omega), HC.out, Bool.eq_iff_iff, List.any_eq_true, decide_eq_true_iff, List.count_pos_iff]
              constructor
              · rintro ⟨x, hx, e⟩; rw [beq_iff_eq] at e; exact e ▸ hx
              · intro hx; exact ⟨m, hx, by simp⟩)
            rw [HT.out]
            cases hhv : hh with
            | true =>
              rw [hhv] at HA HN
              obtain ⟨ad, e, hal3, hcx⟩ := (I2.out.below (BW.out.trans (B4.out.mono BW.out.size))) (cn q) _ (HA.out rfl)
              subst e
              have hlx : cn q < nx := by have := (List.getElem?_eq_some_iff.1 (HA.out rfl)).1; have := HXN.out; omega
              have hN2 : Hid (cn (q + 1) = cn q + 1) := HN.out
              clear HA
              go_wp2_with fail
              go_roundg (G1 - 1)
              case measure => omega
              case rel => exact ⟨q + 1, by omega, by omega, by go_num, by rw [hN2.out]; go_num, BW.out.trans (B4.out.mono BW.out.size)⟩
            | false =>
              rw [hhv] at HN
              have hN2 : Hid (cn (q + 1) = cn q) := HN.out
              go_wp2_with fail
              go_roundg (G1 - 1)
              case measure => omega
              case rel => exact ⟨q + 1, by omega, by omega, by go_num, by rw [hN2.out], BW.out.trans (B4.out.mono BW.out.size)⟩
      · have hqn : q = n := by omega
        have HF : Hid (cn q = nx) := (show _ = _ by rw [hqn]; exact FULL.out)
        rw [HF.out]
        clear hqn
        go_wp2_with fail
        go_ret
        exact ⟨by simp, BV.out.trans (BW.out.mono BV.out.size)⟩
theorem own : ownKnob Try.prog.godebug = none := by kernel_rfl
theorem laidOut : laidOutB Try.prog = true := by kernel_rfl
set_option maxRecDepth 100000 in
theorem contract (H : Type) (enc : TypeId × Value → H) (W : World) (base : Nat) (args : Array Value) (ds gs : List (DataW H)) (before : List MemPlace)
    (hval : ∀ (j : Nat) t v, Try.f10.params[j]? = some t → args[j]? = some v → Value.okWide Try.prog W .any base t v)
    (hW : DataW.Whole enc Try.prog Try.f10.params.toList Rows.graphHoldersSpec.vars false W args.toList ds gs before)
    (hsz0 : (DataW.weightsEach Try.prog (Try.f10.params.toList ++ Rows.graphHoldersSpec.plain.varTypes Try.prog) (ds ++ gs)).all (· ≤ reachBytes) = true) :
    Calls Try.prog 10 args W fun e W' => ∃ v, e = .returned v ∧ Rows.graphHoldersSpec.post enc Try.prog Try.f10 false true false false W args v W' := by
  have hW' := hW
  obtain ⟨p, q, hA0, hV, rfl, hfz, hnd⟩ := hW
  have hA : DataW.TrodAll enc Try.prog W 0 (fun _ => true) true Try.f10.params.toList args.toList ds p := hA0
  have hsz := hsz0
  rw [Try.params10] at hA hval hsz
  obtain ⟨v0, vs0, d0, ds0, p0, q0, hargs, rfl, rfl, h0, r0⟩ := trodAll_cons hA
  obtain ⟨v1, vs1, d1, ds1, p1, q1, rfl, rfl, rfl, h1, r1⟩ := trodAll_cons r0
  obtain ⟨rfl, rfl, rfl⟩ := trodAll_nil r1
  obtain rfl : args = #[v0, v1] := by cases args; simp_all
  obtain ⟨rfl, rfl⟩ := trodVars_none hV
  obtain ⟨A0, c0, l0, rfl, w0, z0⟩ := open_graph (hval 0 46 v0 rfl rfl) h0 (size_of hsz (j := 0) rfl rfl)
  obtain ⟨a1, rfl, rfl, rfl, w1⟩ := open_int Try.underlying3 (hval 1 3 v1 rfl rfl) h1
  obtain ⟨l1, u1⟩ := of_wf_i64 w1
  clear hA0 hsz hsz0
  simp only [List.append_nil] at hW'
  refine (walk A0 c0 l0 a1 z0 l1 u1 W w0).mono fun e W' ⟨he, hb⟩ => ?_
  subst he
  exact ⟨_, rfl, law_post laidOut (by kernel_rfl) (by kernel_rfl) Try.underlying4 hW' hb rfl⟩

set_option maxRecDepth 100000 in
theorem lifted (os : Os) (started : os.Started) (H : Type) (enc : TypeId × Value → H) :
    ReturnsInHanded {} Try.checked os 10 .any (Rows.graphHoldersSpec.pre6 enc Try.prog Try.f10 Rows.graphHoldersRow.domain false) (Rows.graphHoldersSpec.post enc Try.prog Try.f10 false true false false) := by
  refine returnsInHanded_of_change_sized (C := Try.checked) own started (by kernel_rfl) Try.func10
    (ChangeSpec.witness6 (enc := enc) (C := Try.checked) false ⟨#[], #[.agg #[.slice none 0 0], .int .i64 0], []⟩ 8 (by kernel_rfl) (by kernel_rfl) (by kernel_rfl) (by kernel_rfl)) ?_
  intro W base args ds gs before hval hW _ hsz _
  exact contract H enc W base args ds gs before hval hW hsz
/-- The row. -/
theorem holds : Rows.GraphHoldersSaid :=
  OpenClaim.holds_of_wide 10 Try.f10 rfl rfl rfl rfl rfl rfl rfl ⟨rfl, rfl, rfl, rfl, rfl⟩ rfl rfl rfl rfl rfl (by kernel_rfl) Try.func10 (by kernel_rfl)
    (of_decide_eq_true (by kernel_rfl)) (by unfold Func.isWrapper; first | (rw [if_pos (by decide +kernel)]; kernel_rfl) | (rw [if_neg (by decide +kernel)]; exact ⟨rfl, rfl⟩))
    (fun os started H enc _ => lifted os started H enc)
end Go.Proofs.Ytkkdgacdajojiaa.graphHolders
