/- A law's list cut; times. -/
import Derived.Test.YtjlakolgaableaaRDiOpen
namespace Go.Proofs.YtjlakolgaableaaR
set_option maxRecDepth 20000
open Go.RowKit Go.Maps Go.Sort Go.BigFrame

theorem size_chg : (Try.prog.info? 43).map (·.size) = some 4 := by kernel_rfl
theorem run_cut (w : World) (A : Option Addr) (n c m : Nat) (h1 : m ≤ c) (h3 : A = none → c = 0) : (Instr.slice 39 (.slice A n c) none (some (iV m)) none).run Try.prog w = .ok (.slice A m c) w := by
  have hs := size_chg
  cases hq : Try.prog.info? 43 with
  | none => simp [hq] at hs
  | some i =>
    have e1 : ∀ (x y : Nat) (code : BoundsCode), x ≤ y → (Instr.sliceBound (iV x) y code).run Try.prog w = .ok x w := fun x y code h => by
      simp [Instr.sliceBound, asIntOf, h]
    cases A with
    | none =>
      have hc := h3 rfl
      subst hc
      obtain rfl : m = 0 := by omega
      have e0 : ∀ code : BoundsCode, (Instr.sliceBound (iV 0) 0 code).run Try.prog w = .ok 0 w := fun code => by simp [Instr.sliceBound, asIntOf]
      simp [Instr.slice, Instr.sliceBounds, run_underlying Try.underlying39, e0, sizeOf, typeInfo, hq, Result.andThen]
    | some ad =>
      simp [Instr.slice, Instr.sliceBounds, run_underlying Try.underlying39, e1, h1, sizeOf, typeInfo, hq, Result.andThen, Addr.add]

def IntsAt (w : World) (A : Option Addr) (xs : List Int) : Prop :=
  ∀ (i : Nat) x, xs[i]? = some x → ∃ ad, A = some ad ∧ ad.block < w.heap.size ∧ w.cell? (ad.add i) = some (.int .i64 x)
theorem IntsAt.below {w w' : World} {A : Option Addr} {xs : List Int} (h : IntsAt w A xs) (hb : Below w.heap.size w w') : IntsAt w' A xs := by
  intro i x hx
  obtain ⟨ad, e, hl, hc⟩ := h i x hx
  exact ⟨ad, e, Nat.lt_of_lt_of_le hl hb.size, (hb.cell (by rw [Go.ChangeShapes.block_add]; exact hl)).trans hc⟩
theorem ints_of_own {w : World} {base : Nat} {v : Value} {xs : List Int} (h : w.ownsRow base 3 1 v xs.length (xs.map (Value.int .i64))) : ∃ A c, v = .slice A xs.length c ∧ IntsAt w A xs := by
  have h0 := h
  rcases h.2 with ⟨rfl, h1⟩ | ⟨g, cap, cur, rfl, _, hg, _⟩
  · have : xs = [] := List.length_eq_zero_iff.1 h1
    subst this
    exact ⟨none, 0, rfl, fun i x hx => by simp at hx⟩
  · refine ⟨some ⟨g, 0, none⟩, cap, rfl, fun i x hx => ⟨_, rfl, (Array.getElem?_eq_some_iff.1 hg).1, ?_⟩⟩
    exact h0.cells rfl i _ (by simp [hx])
/-- Refs, of a slice of values. -/
theorem refs_sl {w : World} {v : Value} {l : List VV} (h : SlV w v l) (hl : l.length ≤ 1073741824) : Calls Try.prog 25 #[v] w fun e w' => ∃ A c, e = .returned (.slice A (refsL l).length c) ∧ IntsAt w' A (refsL l) ∧ Below w.heap.size w w' := by
  obtain ⟨A, c, rfl, hp⟩ := h.pairs
  refine (Refs_any A c l w (by omega) hp).mono ?_
  rintro e w' ⟨v, rfl, ho, hb⟩
  obtain ⟨A1, c1, rfl, hi⟩ := ints_of_own ho
  exact ⟨A1, c1, rfl, hi, hb⟩
set_option maxHeartbeats 2000000 in
theorem times_any {w : World} {v : Value} {l : List VV} (h : SlV w v l) (hl : l.length ≤ 1073741824) (x : Int) : Calls Try.prog 26 #[v, .int .i64 x] w fun e w' => e = .returned (.int .i64 ((refsL l).count x : Nat)) ∧ Below w.heap.size w w' := by
  have HR := Lib.hid (refs_sl h hl)
  have hn2 : (refsL l).length ≤ 1073741824 := Nat.le_trans (refsL_len l) hl
  obtain ⟨A, c, e, -⟩ := h.pairs
  subst e
  generalize refsL l = X at *
  obtain ⟨n, hn⟩ : ∃ n, n = X.length := ⟨_, rfl⟩
  rw [← hn] at HR hn2
  have HN := Lib.hid hn
  clear h hn
  go_enter Try.func26, Try.ntmps26
  go_wp2_with (go_at_call 25; refine HR.out.mono ?_; rintro e w1 ⟨A1, c1, rfl, hi, hb⟩; have I1 := Lib.hid hi; have B1 := Lib.hid hb; clear hi hb)
  go_loopw [5, 7] (fun q i wr => ∃ j r : Nat, j ≤ n ∧ r ≤ j ∧ i = .int .i64 j ∧ q = .int .i64 r ∧ Hid (r = (X.take j).count x) ∧ wr = w1) (fun _ i _ => n - (intOf i).toNat)
  case atStart => exact ⟨0, 0, Nat.zero_le _, Nat.le_refl _, rfl, rfl, rfl, rfl⟩
  case round =>
    obtain ⟨j, r, hj, hrj, rfl, rfl, HX, rfl⟩ := hrel
    by_cases hlt : j < n
    · obtain ⟨y, hy⟩ : ∃ y, X[j]? = some y := ⟨_, List.getElem?_eq_getElem (by rw [← HN.out]; exact hlt)⟩
      obtain ⟨ad, e, -, h0⟩ := I1.out j y hy
      subst e
      have E := Lib.hid (show (X.take (j + 1)).count x = (X.take j).count x + if y = x then 1 else 0 by rw [List.take_add_one, hy, List.count_append]; simp [List.count_cons])
      clear hy
      by_cases hz : y = x
      · have z1 : (y == x) = true := by simp [hz]
        go_wp2_with fail
        go_roundw
        case rel => exact ⟨j + 1, r + 1, by omega, by omega, by go_num, by go_num, Lib.hid (by rw [E.out, if_pos hz, ← HX.out]), by trivial⟩
        case measure => simp [intOf]; omega
      · have z1 : (y == x) = false := not_eq hz
        go_wp2_with fail
        go_roundw
        case rel => exact ⟨j + 1, r, by omega, by omega, by go_num, rfl, Lib.hid (by rw [E.out, if_neg hz, ← HX.out]; rfl), by trivial⟩
        case measure => simp [intOf]; omega
    · have hjn : j = n := by omega
      have EL : Hid (X.take j = X) := List.take_of_length_le (by rw [← HN.out]; omega)
      go_wp2_with fail
      go_ret
      rw [EL.out] at HX
      exact ⟨by rw [← HX.out]; rfl, B1.out⟩
end Go.Proofs.YtjlakolgaableaaR
