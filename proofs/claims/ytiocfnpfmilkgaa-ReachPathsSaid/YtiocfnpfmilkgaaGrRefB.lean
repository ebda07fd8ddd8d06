/- The document's own: Check, Times, Into. -/
import Derived.Test.YtiocfnpfmilkgaaBase
import Derived.Test.YtiocfnpfmilkgaaGrRef
namespace Go.Proofs.Ytiocfnpfmilkgaa
set_option maxRecDepth 20000
set_option maxRecDepth 20000
open Go.RowKit Go.Maps

set_option maxHeartbeats 4000000 in
theorem RCheck_any {w : World} {A : Option Addr} {c : Nat} {g : List OB} (hg : GAt w A g) (hn : g.length * 64 ≤ 140737488355328) :
    Calls Try.prog 68 #[gV A g.length c] w fun e w' => e = .returned (.bool (checkB g)) ∧ Below w.heap.size w w' := by
  have G := Lib.hid hg
  have RO : Hid (∀ W o sA sc, Below w.heap.size w W → SlotsAt W o sA → Calls Try.prog 102 #[gV A g.length c, oV o sA sc] W fun e w' => e = .returned (.bool (objOk g o)) ∧ Below W.heap.size W w') := fun W o sA sc hW hs => robj_any (hg.below hW) o sA sc hs
  have ALL : Hid (∀ i v, g[i]? = some v → objOk g v = false → checkB g = false) := fun i v hv hf => by
    unfold checkB; rw [List.all_eq_false]; exact ⟨v, List.mem_of_getElem? hv, by simp [hf]⟩
  have ALLT : Hid ((∀ i v, i < g.length → g[i]? = some v → objOk g v = true) → checkB g = true) := fun hh => List.all_eq_true.2 (fun v hv => by
    obtain ⟨i, hi⟩ := List.getElem?_of_mem hv
    exact hh i v (List.getElem?_eq_some_iff.1 hi).1 hi)
  have GET : Hid (∀ i, i < g.length → ∃ p, g[i]? = some p) := fun i hi => ⟨_, List.getElem?_eq_getElem hi⟩
  clear hg
  generalize checkB g = y at *
  generalize hgn : g.length = n at *
  clear hgn
  go_enter Try.func68, Try.ntmps68
  go_wp2_with fail
  refine at_world (S := fun W => Below w.heap.size w W ∧ W.cell? ⟨w.heap.size, 0, none⟩ = some (.slice A n c) ∧ w.heap.size < W.heap.size) ⟨(Below.refl _ _).alloc (Nat.le_refl _) _, by simp [go_sem], by simp⟩ (fun V HV => ?_)
  obtain ⟨hV, c0, zV⟩ := HV
  have BV := Lib.hid hV
  clear hV
  obtain ⟨bg, hbg⟩ : ∃ bg, bg = w.heap.size := ⟨_, rfl⟩
  rw [← hbg] at c0 zV ⊢
  clear hbg
  go_loopw [3] (fun i wr => ∃ q : Nat, q ≤ n ∧ i = .int .i64 q ∧ Hid (Below V.heap.size V wr) ∧ Hid (∀ i v, i < q → g[i]? = some v → objOk g v = true)) (fun i _ => n - (intOf i).toNat)
  case atStart => exact ⟨0, Nat.zero_le _, rfl, Below.refl _ _, fun i v hi => absurd hi (Nat.not_lt_zero _)⟩
  case round =>
    obtain ⟨q, hq, rfl, BW, I⟩ := hrel
    have x0 := (BW.out.cell (p := ⟨bg, 0, none⟩) (show bg < _ by omega)).trans c0
    by_cases hlt : q < n
    · obtain ⟨o, ho⟩ := GET.out q hlt
      have BT : Hid (Below w.heap.size w wr) := BV.out.trans (BW.out.mono BV.out.size)
      obtain ⟨a, sA, sc, e, hal, ⟨o0, o1, o2, o3, o4⟩, hs⟩ := (G.out.below BT.out) q o ho
      subst e
      have HO := Lib.hid ho
      have HS := Lib.hid hs
      have r0 := fun d os => cell_regrown o0 d os
      have r1 := fun d os => cell_regrown o1 d os
      have r2 := fun d os => cell_regrown o2 d os
      have r3 := fun d os => cell_regrown o3 d os
      have r4 := fun d os => cell_regrown o4 d os
      have rx := fun d os => cell_regrown x0 d os
      have cr := fun d os => Calls.regrown_of (RO.out (Go.Sort.grow (redrawn wr d) os) o sA sc (BT.out.trans ((below_regrown wr d os).mono BT.out.size)) (HS.out.below (below_regrown wr d os)))
      clear ho hs o0 o1 o2 o3 o4
      cases hq2 : objOk g o with
      | false =>
        have Y := Lib.hid (ALL.out q _ HO.out hq2)
        rw [hq2] at cr
        go_upto_region 4 with fail
        refine wp_region_quiet_below (by kernel_rfl) (by kernel_rfl) ?_
        repeat (go_big_quiet_step (with_reducible exact cr _ _))
        refine wpQuiet_nil ?_
        intro w3 ⟨⟨dq, osq⟩, hw3⟩
        have B3 : Hid (Below wr.heap.size wr w3) := by rw [hw3]; exact below_regrown wr dq osq
        clear hw3
        go_wp2_with fail
        go_ret
        exact ⟨by rw [Y.out]; rfl, BT.out.trans (B3.out.mono BT.out.size)⟩
      | true =>
        have I2 : Hid (∀ i v, i < q + 1 → g[i]? = some v → objOk g v = true) := fun i v hi hv => by
          by_cases e : i = q
          · subst e; rw [HO.out] at hv; injection hv with hv; subst hv; exact hq2
          · exact I.out i v (by omega) hv
        rw [hq2] at cr
        clear hq2
        go_upto_region 4 with fail
        refine wp_region_quiet_below (by kernel_rfl) (by kernel_rfl) ?_
        repeat (go_big_quiet_step (with_reducible exact cr _ _))
        refine wpQuiet_nil ?_
        intro w3 ⟨⟨dq, osq⟩, hw3⟩
        have B3 : Hid (Below wr.heap.size wr w3) := by rw [hw3]; exact below_regrown wr dq osq
        clear hw3
        go_wp2_with fail
        go_roundw
        case rel => exact ⟨q + 1, by omega, by go_num, BW.out.trans (B3.out.mono BW.out.size), I2.out⟩
        case measure => simp [intOf]; omega
    · have hqn : q = n := by omega
      have Y := Lib.hid (ALLT.out (fun i v hi hv => I.out i v (by omega) hv))
      go_wp2_with fail
      go_ret
      exact ⟨by rw [Y.out]; rfl, BV.out.trans (BW.out.mono BV.out.size)⟩
theorem count_snoc_of {l : List (Int × Int)} {q : Nat} {v : Int × Int} (h : l[q]? = some v) (n : Int) : (refsL (l.take (q + 1))).count n = (refsL (l.take q)).count n + (if refB v.1 v.2 && v.2 == n then 1 else 0) := by
  cases hr : refB v.1 v.2 with
  | true =>
    rw [refsL_snoc_yes h hr, List.count_append]
    by_cases e : v.2 = n <;> simp [e]
  | false => rw [refsL_snoc_no h hr]; simp
end Go.Proofs.Ytiocfnpfmilkgaa
