/- GraphSums: how often objects are held is together how many slots hold objects; a number that is free is held by none: for any graph. Conditions: none but the form's own reach. -/
import Derived.Test.YtkkdgacdajojiaaGrWorks
import Derived.Test.YtkkdgacdajojiaaGrOpen
import Derived.Test.YtkkdgacdajojiaaLawPost
import Derived.ProofKit
import Derived.BigQuiet
import Derived.Deep.LoopGhost
import Derived.Deep.DeepCutAuto
namespace Go.Proofs.Ytkkdgacdajojiaa.graphSums
set_option maxRecDepth 20000
open Go.ChangeShapes Go.WideShapes Go.ChangeAt Go.RowKit Go.Maps Go.Sort

theorem free_none {g : List OB} (hg : checkB g = true) {q : Nat} {o : OB} (ho : g[q]? = some o) (hk : o.kind = 0) : cntF (allRefs g) ((q : Int) + 1) = 0 := by
  have h0 : (allRefs g).count ((q : Int) + 1) = 0 := by
    rw [List.count_eq_zero]
    intro hx
    obtain ⟨_, y, hy, h5⟩ := all_there hg hx
    rw [show ((q : Int) + 1 - 1).toNat = q by omega, ho] at hy
    injection hy with hy
    subst hy
    omega
  unfold cntF
  rw [h0]
  simp [wrap64]
theorem sums_same {g : List OB} (hg : checkB g = true) : (((List.range g.length).map fun (i : Nat) => (allRefs g).count ((i : Int) + 1)).sum) = (allRefs g).length := by
  refine sum_counts g.length (allRefs g) fun x hx => ?_
  obtain ⟨h1, y, hy, _⟩ := all_there hg hx
  have := (List.getElem?_eq_some_iff.1 hy).1
  omega
set_option maxHeartbeats 8000000 in
theorem walk (A : Option Addr) (c : Nat) (g : List OB) (hz : g.length * 64 ≤ 140737488351232) (w : World) (hg : GAt w A g) :
    Calls Try.prog 9 #[.agg #[.slice A g.length c]] w fun e w' => e = .returned (.bool true) ∧ Below w.heap.size w w' := by
  have G := Lib.hid hg
  have CA : Hid (∀ W, Below w.heap.size w W → Calls Try.prog 31 #[gV A g.length c] W fun e w' => e = .returned (.bool (checkB g)) ∧ Below W.heap.size W w') := fun W hW => Check_any (hg.below hW) (by omega)
  have CI : Hid (∀ W, Below w.heap.size w W → Calls Try.prog 36 #[gV A g.length c] W (GivesI (intoL g) W)) := fun W hW => Into_any (hg.below hW) (by omega)
  clear hg
  cases hc : checkB g with
  | false =>
    rw [show intoL g = [] by simp [intoL, hc]] at CI
    rw [hc] at CA
    clear hc
    generalize g.length = n at *
    go_enter Try.func9, Try.ntmps9
    go_wp2_with (first
      | (go_at_call 33; (with_reducible refine (works_true _).mono ?_); rintro e w1 ⟨rfl, hb⟩; have B1 := Lib.hid (below_box hb); have c1 := boxed hb (j := 0) rfl; have z1 : w.heap.size < w1.heap.size := (by have := hb.size; simp at this; omega); clear hb)
      | (go_at_call 36; (with_reducible refine (CI.out _ B1.out).mono ?_); rintro e w2 ⟨A1, c1', rfl, i1, hb⟩; have B2 : Hid (Below w.heap.size w w2) := B1.out.trans (hb.mono B1.out.size); have c2 := (hb.cell (p := ⟨w.heap.size, 0, none⟩) z1).trans c1; clear hb)
      | (go_at_call 31; (with_reducible refine (CA.out _ B2.out).mono ?_); rintro e w3 ⟨rfl, hb⟩; have B3 : Hid (Below w.heap.size w w3) := B2.out.trans (hb.mono B2.out.size); clear hb))
    go_ret
    exact ⟨rfl, B3.out⟩
  | true =>
    rw [show intoL g = upL g g.length by simp [intoL, hc, upL]] at CI
    rw [hc] at CA
    have FZ : Hid (∀ (q : Nat) (o : OB), g[q]? = some o → o.kind = 0 → cntF (allRefs g) ((q : Int) + 1) = 0) := fun q o ho hk => free_none hc ho hk
    obtain ⟨sc, hsc⟩ : ∃ sc : Nat → Int, sc = fun q => ((((List.range q).map fun (i : Nat) => (allRefs g).count ((i : Int) + 1)).sum : Nat) : Int) := ⟨_, rfl⟩
    obtain ⟨ln, hln⟩ : ∃ ln : Nat → Int, ln = fun q => (((allRefs (g.take q)).length : Nat) : Int) := ⟨_, rfl⟩
    have S0 : sc 0 = 0 := by rw [hsc]; rfl
    have L0 : ln 0 = 0 := by rw [hln]; rfl
    have SS : Hid (∀ q : Nat, wrap64 (wrap64 (sc q) + cntF (allRefs g) ((q : Int) + 1)) = wrap64 (sc (q + 1))) := fun q => by
      unfold cntF
      rw [w64_add2, hsc]
      simp only [List.range_succ, List.map_append, List.sum_append]
      simp
    have LS : Hid (∀ (q : Nat) (o : OB), g[q]? = some o → wrap64 (wrap64 (ln q) + ((refsL o.slots).length : Nat)) = wrap64 (ln (q + 1))) := fun q o ho => by
      rw [w64_add, hln]
      simp only [allRefs_snoc ho, List.length_append]
      simp
    have SL : Hid (sc g.length = ln g.length) := (show _ = _ by
      rw [hsc, hln]
      simp only [List.take_length]
      rw [sums_same hc])
    have UP : Hid (∀ k : Nat, k < g.length → (upL g g.length)[k]? = some (cntF (allRefs g) ((k : Int) + 1))) := fun k hk => by simp [upL, hk]
    have UL : Hid ((upL g g.length).length = g.length) := (show _ = _ by simp [upL])
    have GET : Hid (∀ i, i < g.length → ∃ p, g[i]? = some p) := fun i hi => ⟨_, List.getElem?_eq_getElem hi⟩
    clear hsc hln hc
    generalize cntF (allRefs g) = F at *
    generalize upL g g.length = U at *
    generalize hgn : g.length = n at *
    clear hgn
    go_enter Try.func9, Try.ntmps9
    go_wp2_with (first
      | (go_at_call 33; (with_reducible refine (works_true _).mono ?_); rintro e w1 ⟨rfl, hb⟩; have B1 := Lib.hid (below_box hb); have c1 := boxed hb (j := 0) rfl; have z1 : w.heap.size < w1.heap.size := (by have := hb.size; simp at this; omega); clear hb)
      | (go_at_call 36; (with_reducible refine (CI.out _ B1.out).mono ?_); rintro e w2 ⟨A1, c1', rfl, i1, hb⟩; rw [UL.out]; have I1 := Lib.hid i1; have B2 : Hid (Below w.heap.size w w2) := B1.out.trans (hb.mono B1.out.size); have c2 := (hb.cell (p := ⟨w.heap.size, 0, none⟩) z1).trans c1; have z2 : w.heap.size < w2.heap.size := Nat.lt_of_lt_of_le z1 hb.size; clear hb)
      | (go_at_call 31; (with_reducible refine (CA.out _ B2.out).mono ?_); rintro e V ⟨rfl, hb⟩; have BV : Hid (Below w.heap.size w V) := B2.out.trans (hb.mono B2.out.size); have I2 : Hid (IntsAt V A1 U) := I1.out.below hb; have c3 := (hb.cell (p := ⟨w.heap.size, 0, none⟩) z2).trans c2; have zV : w.heap.size < V.heap.size := Nat.lt_of_lt_of_le z2 hb.size; clear hb))
    have c0' : V.cell? ⟨w.heap.size, 0, none⟩ = some (.slice A n c) := c3
    clear c1 c2 c3
    obtain ⟨bg, hbg⟩ : ∃ bg, bg = w.heap.size := ⟨_, rfl⟩
    rw [← hbg] at c0' zV ⊢
    clear hbg
    go_loopg [4, 5, 6] n (fun gg s4 s5 s6 wr => ∃ q : Nat, q ≤ n ∧ n - q ≤ gg ∧ s6 = .int .i64 q ∧ s4 = .int .i64 (wrap64 (sc q)) ∧ s5 = .int .i64 (wrap64 (ln q)) ∧ Hid (Below V.heap.size V wr))
    case atStart => exact ⟨0, Nat.zero_le _, by omega, rfl, by rw [S0]; simp [wrap64], by rw [L0]; simp [wrap64], Below.refl _ _⟩
    case round =>
      obtain ⟨q, hq, hgg, rfl, rfl, rfl, BW⟩ := hrel
      have x0 := (BW.out.cell (p := ⟨bg, 0, none⟩) zV).trans c0'
      by_cases hlt : q < n
      · obtain ⟨o, ho⟩ := GET.out q hlt
        have BT : Hid (Below w.heap.size w wr) := BV.out.trans (BW.out.mono BV.out.size)
        obtain ⟨a, sA, sc', e, hal, ⟨o0, o1, o2, o3, o4⟩, hs⟩ := (G.out.below BT.out) q o ho
        subst e
        have hl2 : (a.add (q * 5)).block < wr.heap.size := by rw [Go.ChangeShapes.block_add]; exact hal
        obtain ⟨a1, e1, hal1, u0⟩ := (I2.out.below BW.out) q _ (UP.out q hlt)
        subst e1
        have hl3 : (a1.add q).block < wr.heap.size := by rw [Go.ChangeShapes.block_add]; exact hal1
        have HR := Lib.hid (refs_values (c := sc') hs.2 hs.1)
        have LR := Lib.hid (Nat.le_trans (refsL_len o.slots) (by have := hs.2; omega : o.slots.length ≤ 8796093022208))
        have LQ := Lib.hid (LS.out q o ho)
        have SQ := Lib.hid (SS.out q)
        have FQ := Lib.hid (FZ.out q o ho)
        clear ho hs o1 o3 o4
        generalize F ((q : Int) + 1) = y at *
        generalize (refsL o.slots).length = nr at *
        have hnr := LR.out
        cases hk : (o.kind == 0) with
        | true =>
          obtain rfl : y = 0 := FQ.out (by simpa using hk)
          go_wp2_with (go_at_call 42; (with_reducible refine HR.out.mono ?_); rintro e w4 ⟨A2, c2', rfl, -, hb⟩; have B4 := Lib.hid hb; have x4 := (hb.cell (p := ⟨bg, 0, none⟩) (show bg < _ from Nat.lt_of_lt_of_le zV BW.out.size)).trans x0; have u4 := (hb.cell hl3).trans u0; have k4 := (hb.cell hl2).trans o0; clear hb)
          go_roundg (n - (q + 1))
          case measure => omega
          case rel => exact ⟨q + 1, by omega, by omega, by go_num, by rw [← SQ.out, Int.add_zero], by rw [← LQ.out], BW.out.trans (B4.out.mono BW.out.size)⟩
        | false =>
          go_wp2_with (go_at_call 42; (with_reducible refine HR.out.mono ?_); rintro e w4 ⟨A2, c2', rfl, -, hb⟩; have B4 := Lib.hid hb; have x4 := (hb.cell (p := ⟨bg, 0, none⟩) (show bg < _ from Nat.lt_of_lt_of_le zV BW.out.size)).trans x0; have u4 := (hb.cell hl3).trans u0; have k4 := (hb.cell hl2).trans o0; clear hb)
          go_roundg (n - (q + 1))
          case measure => omega
          case rel => exact ⟨q + 1, by omega, by omega, by go_num, by rw [← SQ.out], by rw [← LQ.out], BW.out.trans (B4.out.mono BW.out.size)⟩
      · have hqn : q = n := by omega
        have HF : Hid (sc q = ln q) := (show _ = _ by rw [hqn]; exact SL.out)
        rw [HF.out]
        clear hqn
        go_wp2_with fail
        go_ret
        exact ⟨by simp, BV.out.trans (BW.out.mono BV.out.size)⟩
theorem own : ownKnob Try.prog.godebug = none := by kernel_rfl
theorem laidOut : laidOutB Try.prog = true := by kernel_rfl
set_option maxRecDepth 100000 in
theorem contract (H : Type) (enc : TypeId × Value → H) (W : World) (base : Nat) (args : Array Value) (ds gs : List (DataW H)) (before : List MemPlace)
    (hval : ∀ (j : Nat) t v, Try.f9.params[j]? = some t → args[j]? = some v → Value.okWide Try.prog W .any base t v)
    (hW : DataW.Whole enc Try.prog Try.f9.params.toList Rows.graphSumsSpec.vars false W args.toList ds gs before)
    (hsz0 : (DataW.weightsEach Try.prog (Try.f9.params.toList ++ Rows.graphSumsSpec.plain.varTypes Try.prog) (ds ++ gs)).all (· ≤ reachBytes) = true) :
    Calls Try.prog 9 args W fun e W' => ∃ v, e = .returned v ∧ Rows.graphSumsSpec.post enc Try.prog Try.f9 false true false false W args v W' := by
  have hW' := hW
  obtain ⟨p, q, hA0, hV, rfl, hfz, hnd⟩ := hW
  have hA : DataW.TrodAll enc Try.prog W 0 (fun _ => true) true Try.f9.params.toList args.toList ds p := hA0
  have hsz := hsz0
  rw [Try.params9] at hA hval hsz
  obtain ⟨v0, vs0, d0, ds0, p0, q0, hargs, rfl, rfl, h0, r0⟩ := trodAll_cons hA
  obtain ⟨rfl, rfl, rfl⟩ := trodAll_nil r0
  obtain rfl : args = #[v0] := by cases args; simp_all
  obtain ⟨rfl, rfl⟩ := trodVars_none hV
  obtain ⟨A0, c0, l0, rfl, w0, z0⟩ := open_graph (hval 0 46 v0 rfl rfl) h0 (size_of hsz (j := 0) rfl rfl)
  clear hA0 hsz hsz0
  simp only [List.append_nil] at hW'
  refine (walk A0 c0 l0 z0 W w0).mono fun e W' ⟨he, hb⟩ => ?_
  subst he
  exact ⟨_, rfl, law_post laidOut (by kernel_rfl) (by kernel_rfl) Try.underlying4 hW' hb rfl⟩

set_option maxRecDepth 100000 in
theorem lifted (os : Os) (started : os.Started) (H : Type) (enc : TypeId × Value → H) :
    ReturnsInHanded {} Try.checked os 9 .any (Rows.graphSumsSpec.pre6 enc Try.prog Try.f9 Rows.graphSumsRow.domain false) (Rows.graphSumsSpec.post enc Try.prog Try.f9 false true false false) := by
  refine returnsInHanded_of_change_sized (C := Try.checked) own started (by kernel_rfl) Try.func9
    (ChangeSpec.witness6 (enc := enc) (C := Try.checked) false ⟨#[], #[.agg #[.slice none 0 0]], []⟩ 8 (by kernel_rfl) (by kernel_rfl) (by kernel_rfl) (by kernel_rfl)) ?_
  intro W base args ds gs before hval hW _ hsz _
  exact contract H enc W base args ds gs before hval hW hsz
/-- The row. -/
theorem holds : Rows.GraphSumsSaid :=
  OpenClaim.holds_of_wide 9 Try.f9 rfl rfl rfl rfl rfl rfl rfl ⟨rfl, rfl, rfl, rfl, rfl⟩ rfl rfl rfl rfl rfl (by kernel_rfl) Try.func9 (by kernel_rfl)
    (of_decide_eq_true (by kernel_rfl)) (by unfold Func.isWrapper; first | (rw [if_pos (by decide +kernel)]; kernel_rfl) | (rw [if_neg (by decide +kernel)]; exact ⟨rfl, rfl⟩))
    (fun os started H enc _ => lifted os started H enc)
end Go.Proofs.Ytkkdgacdajojiaa.graphSums
