/- slices.ContainsFunc, at values and at functions that ask. -/
import Derived.Test.YtghnjmodnhnmfaaBase
import Derived.Test.YtghnjmodnhnmfaaGrState
import Derived.Deep.LoopGhost
import Derived.Shelf.Abstract
namespace Go.Proofs.Ytghnjmodnhnmfaa
set_option maxRecDepth 20000
set_option maxRecDepth 20000
open Go.RowKit Go.Maps

set_option maxHeartbeats 1000000 in
theorem IndexV_any {w : World} {A : Option Addr} {c : Nat} {l : List (Int × Int)} (hl : l.length ≤ 140737488355328) (h : PairsAt w A l) {f : Value} {p : Int × Int → Bool} (hf : ValAsk w f p) :
    Calls Try.prog 128 #[.slice A l.length c, f] w fun e w' => (∃ z : Int, e = .returned (iV z) ∧ decide (0 ≤ z) = l.any p) ∧ Below w.heap.size w w' := by
  obtain ⟨g, lb, rfl, eg, hf⟩ := hf
  have H := Lib.hid h
  have HF := Lib.hid hf
  have hN : Hid (∀ k v, l[k]? = some v → p v = true → l.any p = true) := fun k v hv hp => List.any_eq_true.2 ⟨v, List.mem_of_getElem? hv, hp⟩
  have hM : Hid ((∀ k v, k < l.length → l[k]? = some v → p v = false) → l.any p = false) := fun hh => List.any_eq_false.2 (fun v hv => by
    obtain ⟨k, hk⟩ := List.getElem?_of_mem hv
    have := hh k v (List.getElem?_eq_some_iff.1 hk).1 hk
    simp [this])
  have GET : Hid (∀ i, i < l.length → ∃ p, l[i]? = some p) := fun i hi => ⟨_, List.getElem?_eq_getElem hi⟩
  clear h hf
  generalize hn : l.length = n at *
  clear hn
  go_enter Try.func128, Try.ntmps128
  go_wp2
  go_loopg [5, 8] n (fun gg _ s8 wr => ∃ k : Nat, k ≤ n ∧ n - k ≤ gg ∧ s8 = .int .i64 k ∧ Hid (Below w.heap.size w wr) ∧ Hid (∀ j v, j < k → l[j]? = some v → p v = false))
  case atStart => exact ⟨0, Nat.zero_le _, by omega, rfl, Below.refl _ w, fun j v hj => absurd hj (Nat.not_lt_zero _)⟩
  case round =>
    obtain ⟨k, hk, hg, rfl, B, I⟩ := hrel
    by_cases hlt : k < n
    · obtain ⟨v, hv⟩ := GET.out k hlt
      obtain ⟨a, e, hal, hc0, hc1⟩ := H.out k v hv
      subst e
      have d0 := (B.out.cell (by rw [Go.ChangeShapes.block_add]; exact hal)).trans hc0
      have d1 := (B.out.cell (by rw [Go.ChangeShapes.block_add, Go.ChangeShapes.block_add]; exact hal)).trans hc1
      rw [add_one] at d1
      have hcall := HF.out wr v B.out
      have HV := Lib.hid hv
      clear hc0 hc1 hv
      cases hq : p v with
      | true =>
        rw [hq] at hcall
        have HQ := Lib.hid hq
        clear hq
        go_wp2_with (go_at_fn g; refine hcall.mono ?_; rintro e w' ⟨rfl, hb'⟩; have B1 := Lib.hid hb'; clear hb')
        go_ret
        exact ⟨⟨_, rfl, by rw [hN.out k v HV.out HQ.out]; simp⟩, B.out.trans (B1.out.mono B.out.size)⟩
      | false =>
        rw [hq] at hcall
        have HQ := Lib.hid hq
        clear hq
        go_wp2_with (go_at_fn g; refine hcall.mono ?_; rintro e w' ⟨rfl, hb'⟩; have B1 := Lib.hid hb'; clear hb')
        go_roundg (n - (k + 1))
        case measure => omega
        case rel =>
          have I2 : Hid (∀ j u, j < k + 1 → l[j]? = some u → p u = false) := fun j u hj hu => by
            by_cases e : j = k
            · subst e
              rw [HV.out] at hu; injection hu with hu; subst hu; exact HQ.out
            · exact I.out j u (by omega) hu
          exact ⟨k + 1, by omega, by omega, by go_num, B.out.trans (B1.out.mono B.out.size), I2⟩
    · have hkn : k = n := by omega
      subst hkn
      go_wp2
      go_ret
      exact ⟨⟨_, rfl, by rw [hM.out (fun j v hj => I.out j v hj)]; rfl⟩, B.out⟩
theorem ContainsV_any {w : World} {A : Option Addr} {c : Nat} {l : List (Int × Int)} (hl : l.length ≤ 140737488355328) (h : PairsAt w A l) {f : Value} {p : Int × Int → Bool} (hf : ValAsk w f p) :
    Calls Try.prog 85 #[.slice A l.length c, f] w fun e w' => e = .returned (.bool (l.any p)) ∧ Below w.heap.size w w' := by
  have C := Lib.hid (IndexV_any (c := c) hl h hf)
  clear h hf hl
  generalize l.any p = y at *
  generalize l.length = n at *
  go_enter Try.func85, Try.ntmps85
  go_wp2_with (go_at_call 128; (with_reducible refine C.out.mono ?_); rintro e w1 ⟨⟨z, rfl, hz⟩, hb⟩)
  go_ret
  exact ⟨by subst hz; rfl, hb⟩

/-! which's own closure, and what asks it. -/
set_option maxHeartbeats 1000000 in
theorem no_any {w : World} {f : Value} {p : Nat → OB → Bool} (hf : AskAt w f p) (bi bo : Nat) (i : Nat) (hi : i < 4611686018427387904) (o : OB) (A : Option Addr) (c : Nat) (h0 : w.cell? ⟨bi, 0, none⟩ = some (iV i)) (h1 : CellsAt w ⟨bo, 0, none⟩ o A c) (h2 : SlotsAt w o A) :
    Calls Try.prog 121 #[f, bV bi, bV bo] w fun e w' => e = .returned (.bool (!p (i + 1) o)) ∧ Below w.heap.size w w' := by
  obtain ⟨g, lb, rfl, eg, hf⟩ := hf
  have hcall := hf w (i + 1) o A c (Below.refl _ _) h2 (by omega)
  obtain ⟨c0, c1, c2, c3, c4⟩ := h1
  simp only [Nat.zero_add] at c1 c2 c3 c4
  have hi2 : ((i + 1 : Nat) : Int) = (i : Int) + 1 := by omega
  unfold iV at hcall
  rw [hi2] at hcall
  clear hf h2 hi2
  go_enter Try.func121, Try.ntmps121
  go_wp2_with (go_at_fn g; refine hcall.mono ?_; rintro e w' ⟨rfl, hb'⟩)
  go_ret
  exact ⟨rfl, hb'⟩
set_option maxHeartbeats 1000000 in
theorem IndexA_any {w : World} {B : Option Addr} {d : Nat} {ps : List (Nat → OB → Bool)} (hl : ps.length ≤ 140737488355328) (h : AsksAt w B ps) (bi bo : Nat) (hbi : bi < w.heap.size) (hbo : bo < w.heap.size) (i : Nat) (hi : i < 4611686018427387904) (o : OB) (A : Option Addr) (c : Nat)
    (h0 : w.cell? ⟨bi, 0, none⟩ = some (iV i)) (h1 : CellsAt w ⟨bo, 0, none⟩ o A c) (h2 : SlotsAt w o A) :
    Calls Try.prog 163 #[.slice B ps.length d, .func (.func 121) #[] #[bV bi, bV bo]] w fun e w' => (∃ z : Int, e = .returned (iV z) ∧ decide (0 ≤ z) = !askAll ps (i + 1) o) ∧ Below w.heap.size w w' := by
  have H := Lib.hid h
  have C : Hid (∀ W f p, Below w.heap.size w W → AskAt W f p → Calls Try.prog 121 #[f, bV bi, bV bo] W fun e w' => e = .returned (.bool (!p (i + 1) o)) ∧ Below W.heap.size W w') := fun W f p hW hf =>
    no_any hf bi bo i hi o A c ((hW.cell (p := ⟨bi, 0, none⟩) hbi).trans h0) (h1.below (a := ⟨bo, 0, none⟩) hbo hW) (h2.below hW)
  have hN : Hid (∀ (k : Nat) p, ps[k]? = some p → p (i + 1) o = false → askAll ps (i + 1) o = false) := fun k p hv hp => by
    unfold askAll
    rw [List.all_eq_false]
    exact ⟨p, List.mem_of_getElem? hv, by simp [hp]⟩
  have hM : Hid ((∀ k p, k < ps.length → ps[k]? = some p → p (i + 1) o = true) → askAll ps (i + 1) o = true) := fun hh => List.all_eq_true.2 (fun v hv => by
    obtain ⟨k, hk⟩ := List.getElem?_of_mem hv
    exact hh k v (List.getElem?_eq_some_iff.1 hk).1 hk)
  have GET : Hid (∀ i, i < ps.length → ∃ p, ps[i]? = some p) := fun i hi => ⟨_, List.getElem?_eq_getElem hi⟩
  clear h h0 h1 h2 hi hbi hbo
  generalize askAll ps (i + 1) o = y at *
  generalize hn : ps.length = n at *
  clear hn
  go_enter Try.func163, Try.ntmps163
  go_wp2
  go_loopg [5, 8] n (fun gg _ s8 wr => ∃ k : Nat, k ≤ n ∧ n - k ≤ gg ∧ s8 = .int .i64 k ∧ Hid (Below w.heap.size w wr) ∧ Hid (∀ j v, j < k → ps[j]? = some v → v (i + 1) o = true))
  case atStart => exact ⟨0, Nat.zero_le _, by omega, rfl, Below.refl _ w, fun j v hj => absurd hj (Nat.not_lt_zero _)⟩
  case round =>
    obtain ⟨k, hk, hg, rfl, B, I⟩ := hrel
    by_cases hlt : k < n
    · obtain ⟨v, hv⟩ := GET.out k hlt
      obtain ⟨a, f, e, hal, hc0, hask⟩ := H.out k v hv
      subst e
      have d0 := (B.out.cell (by rw [Go.ChangeShapes.block_add]; exact hal)).trans hc0
      have hcall := C.out wr f v B.out (hask.below B.out)
      have HV := Lib.hid hv
      clear hc0 hv hask
      cases hq : v (i + 1) o with
      | false =>
        rw [hq] at hcall
        have HQ := Lib.hid hq
        clear hq
        go_wp2_with (go_at_call 121; (with_reducible refine hcall.mono ?_); rintro e w' ⟨rfl, hb'⟩; have B1 := Lib.hid hb'; clear hb')
        go_ret
        exact ⟨⟨_, rfl, by rw [hN.out k v HV.out HQ.out]; simp⟩, B.out.trans (B1.out.mono B.out.size)⟩
      | true =>
        rw [hq] at hcall
        have HQ := Lib.hid hq
        clear hq
        go_wp2_with (go_at_call 121; (with_reducible refine hcall.mono ?_); rintro e w' ⟨rfl, hb'⟩; have B1 := Lib.hid hb'; clear hb')
        go_roundg (n - (k + 1))
        case measure => omega
        case rel =>
          have I2 : Hid (∀ j u, j < k + 1 → ps[j]? = some u → u (i + 1) o = true) := fun j u hj hu => by
            by_cases e : j = k
            · subst e
              rw [HV.out] at hu; injection hu with hu; subst hu; exact HQ.out
            · exact I.out j u (by omega) hu
          exact ⟨k + 1, by omega, by omega, by go_num, B.out.trans (B1.out.mono B.out.size), I2⟩
    · have hkn : k = n := by omega
      subst hkn
      go_wp2
      go_ret
      exact ⟨⟨_, rfl, by rw [hM.out (fun j v hj => I.out j v hj)]; rfl⟩, B.out⟩
theorem ContainsA_any {w : World} {B : Option Addr} {d : Nat} {ps : List (Nat → OB → Bool)} (hl : ps.length ≤ 140737488355328) (h : AsksAt w B ps) (bi bo : Nat) (hbi : bi < w.heap.size) (hbo : bo < w.heap.size) (i : Nat) (hi : i < 4611686018427387904) (o : OB) (A : Option Addr) (c : Nat)
    (h0 : w.cell? ⟨bi, 0, none⟩ = some (iV i)) (h1 : CellsAt w ⟨bo, 0, none⟩ o A c) (h2 : SlotsAt w o A) :
    Calls Try.prog 122 #[.slice B ps.length d, .func (.func 121) #[] #[bV bi, bV bo]] w fun e w' => e = .returned (.bool (!askAll ps (i + 1) o)) ∧ Below w.heap.size w w' := by
  have C := Lib.hid (IndexA_any (d := d) hl h bi bo hbi hbo i hi o A c h0 h1 h2)
  clear h hl h0 h1 h2 hbi hbo hi
  generalize (!askAll ps (i + 1) o) = y at *
  generalize ps.length = n at *
  go_enter Try.func122, Try.ntmps122
  go_wp2_with (go_at_call 163; (with_reducible refine C.out.mono ?_); rintro e w1 ⟨⟨z, rfl, hz⟩, hb⟩)
  go_ret
  exact ⟨by subst hz; rfl, hb⟩
end Go.Proofs.Ytghnjmodnhnmfaa
