/- The law's own small functions: ints at lists that are alike, has, rising, seven. -/
import Derived.Test.YtiocfnpfmilkgaaRcTables
import Derived.BigQuiet
namespace Go.Proofs.Ytiocfnpfmilkgaa
set_option maxRecDepth 20000
open Go.RowKit Go.Maps

set_option maxHeartbeats 1000000 in
theorem lints_some (a b : Addr) (c d : Nat) (xs : List Int) (w : World) (hl : xs.length ≤ 140737488355328) (ha : IntsAt w (some a) xs) (hb : IntsAt w (some b) xs) :
    Calls Try.prog 41 #[.slice (some a) xs.length c, .slice (some b) xs.length d] w fun e w' => e = .returned (.bool true) ∧ Below w.heap.size w w' := by
  have HA := Lib.hid ha
  have HB := Lib.hid hb
  clear ha hb
  go_enter Try.func41, Try.ntmps41
  go_wp2_with fail
  go_loopw [5] (fun i wr => ∃ k : Nat, k ≤ xs.length ∧ i = .int .i64 k ∧ ∃ n, wr = w.drewN n) (fun i _ => xs.length - (RowKit.intOf i).toNat)
  case atStart => exact ⟨0, Nat.zero_le _, rfl, 0, rfl⟩
  case round =>
    obtain ⟨k, hk, rfl, n, rfl⟩ := hrel
    by_cases hlt : k < xs.length
    · obtain ⟨x, hx⟩ : ∃ x, xs[k]? = some x := ⟨_, List.getElem?_eq_getElem hlt⟩
      obtain ⟨a', e, _, h1⟩ := HA.out k x hx
      obtain rfl : a = a' := by injection e
      obtain ⟨b', e, _, h2⟩ := HB.out k x hx
      obtain rfl : b = b' := by injection e
      clear hx
      go_wp2_with fail
      go_quiet (fail)
      go_wp2_with fail
      go_roundw
      case rel => exact ⟨k + 1, by omega, by go_num, _, rfl⟩
      case measure => simp [RowKit.intOf]; omega
    · go_wp2_with fail
      go_ret
      exact ⟨rfl, below_drewN (Below.refl _ _) _⟩
theorem lints_none (A B : Option Addr) (c d : Nat) (w : World) :
    Calls Try.prog 41 #[.slice A 0 c, .slice B 0 d] w fun e w' => e = .returned (.bool true) ∧ Below w.heap.size w w' := by
  go_enter Try.func41, Try.ntmps41
  go_wp2_with fail
  go_loopw [5] (fun i wr => i = .int .i64 0 ∧ wr = w) (fun i _ => 0)
  case atStart => exact ⟨rfl, rfl⟩
  case round =>
    obtain ⟨rfl, hq⟩ := hrel
    obtain rfl := hq.symm
    go_wp2_with fail
    go_ret
    exact ⟨rfl, Below.refl _ _⟩
/-- tallowlaw11.ints, at two lists that are alike. -/
theorem lints_any (A B : Option Addr) (c d : Nat) (xs : List Int) (w : World) (hl : xs.length ≤ 140737488355328) (ha : IntsAt w A xs) (hb : IntsAt w B xs) :
    Calls Try.prog 41 #[.slice A xs.length c, .slice B xs.length d] w fun e w' => e = .returned (.bool true) ∧ Below w.heap.size w w' := by
  match xs, ha, hb with
  | [], ha, hb => exact lints_none A B c d w
  | x :: r, ha, hb =>
    obtain ⟨a, rfl, _⟩ := ha 0 x rfl
    obtain ⟨b, rfl, _⟩ := hb 0 x rfl
    exact lints_some a b c d _ w hl ha hb
/-- has, at any list and any number. -/
theorem has_any {A : Option Addr} {c : Nat} {xs : List Int} {w : World} (hl : xs.length ≤ 140737488355328) (ha : IntsAt w A xs) (n : Int) :
    Calls Try.prog 38 #[.slice A xs.length c, iV n] w fun e w' => e = .returned (.bool (decide (n ∈ xs))) ∧ w' = w := by
  have HA := Lib.hid ha
  have GET : Hid (∀ i, i < xs.length → ∃ p, xs[i]? = some p) := fun i hi => ⟨_, List.getElem?_eq_getElem hi⟩
  have YES : Hid (∀ k, xs[k]? = some n → decide (n ∈ xs) = true) := fun k hk => decide_eq_true (List.mem_of_getElem? hk)
  have NO : Hid ((∀ i x, i < xs.length → xs[i]? = some x → x ≠ n) → decide (n ∈ xs) = false) := fun h => decide_eq_false fun hm => by
    obtain ⟨i, hi⟩ := List.getElem?_of_mem hm
    exact h i n (List.getElem?_eq_some_iff.1 hi).1 hi rfl
  clear ha
  generalize decide (n ∈ xs) = y at *
  generalize hm : xs.length = m at *
  clear hm
  go_enter Try.func38, Try.ntmps38
  go_wp2_with fail
  go_loopg [5] m (fun gg s5 wr => ∃ k : Nat, k ≤ m ∧ m - k ≤ gg ∧ s5 = .int .i64 k ∧ wr = w ∧ Hid (∀ i x, i < k → xs[i]? = some x → x ≠ n))
  case atStart => exact ⟨0, Nat.zero_le _, by omega, rfl, rfl, fun i x hi => absurd hi (Nat.not_lt_zero _)⟩
  case round =>
    obtain ⟨k, hk, hgg, rfl, hw, I⟩ := hrel
    obtain rfl := hw.symm
    by_cases hlt : k < m
    · obtain ⟨x, hx⟩ := GET.out k hlt
      obtain ⟨a, e, _, hc⟩ := HA.out k x hx
      subst e
      cases hq : (x == n) with
      | true =>
        have hxn : x = n := by simpa using hq
        have Y := Lib.hid (YES.out k (by rw [hx, hxn]))
        clear hx hxn
        go_wp2_with fail
        go_ret
        exact ⟨by rw [Y.out]; rfl, rfl⟩
      | false =>
        have hxn : x ≠ n := by simpa using hq
        have I2 : Hid (∀ i y, i < k + 1 → xs[i]? = some y → y ≠ n) := fun i y hi hy => by
          by_cases e : i = k
          · subst e; rw [hx] at hy; injection hy with hy; subst hy; exact hxn
          · exact I.out i y (by omega) hy
        clear hx hxn
        go_wp2_with fail
        go_roundg (m - (k + 1))
        case measure => omega
        case rel => exact ⟨k + 1, by omega, by omega, by go_num, rfl, I2.out⟩
    · have hkm : k = m := by omega
      have N := Lib.hid (NO.out (by rw [← hkm]; exact I.out))
      clear hkm
      go_wp2_with fail
      go_ret
      exact ⟨by rw [N.out]; rfl, rfl⟩
/-- rising, at a list that does. -/
theorem rising_any {A : Option Addr} {c : Nat} {xs : List Int} {w : World} (hl : xs.length ≤ 1099511627776) (ha : IntsAt w A xs) (hr : xs.Pairwise (· < ·)) :
    Calls Try.prog 37 #[.slice A xs.length c] w fun e w' => e = .returned (.bool true) ∧ Below w.heap.size w w' := by
  have HA := Lib.hid ha
  have ST : Hid (∀ k, 1 ≤ k → k < xs.length → ∃ x y, xs[k - 1]? = some x ∧ xs[k]? = some y ∧ x < y) := fun k h1 h2 =>
    ⟨xs[k - 1], xs[k], List.getElem?_eq_getElem (by omega), List.getElem?_eq_getElem h2, List.pairwise_iff_getElem.1 hr _ _ (by omega) h2 (by omega)⟩
  clear ha hr
  generalize hm : xs.length = m at *
  clear hm
  go_enter Try.func37, Try.ntmps37
  go_wp2_with fail
  go_loopg [3] (m + 1) (fun gg s3 wr => ∃ k : Nat, 1 ≤ k ∧ k ≤ m + 1 ∧ m + 1 - k ≤ gg ∧ s3 = .int .i64 k ∧ Hid (Below w.heap.size w wr))
  case atStart => exact ⟨1, Nat.le_refl _, by omega, by omega, rfl, Below.refl _ _⟩
  case round =>
    obtain ⟨k, h1, hk, hgg, rfl, B⟩ := hrel
    by_cases hlt : k < m
    · obtain ⟨x, y, hx, hy, hxy⟩ := ST.out k h1 hlt
      obtain ⟨a, e, hal, hc⟩ := (HA.out.below B.out) (k - 1) x hx
      obtain ⟨a', e', _, hc'⟩ := (HA.out.below B.out) k y hy
      subst e
      injection e' with e'
      subst e'
      obtain ⟨j, hj⟩ : ∃ j, j = k - 1 := ⟨k - 1, rfl⟩
      rw [← hj] at hc
      have hge : decide (x ≥ y) = false := by simp; omega
      have hjm : j < m := by omega
      have hcast : (k : Int) - 1 = (j : Int) := by omega
      have hwr : IntKind.i64.wrap (j : Int) = (j : Int) := IntWalk.i64_in _ (by omega)
      clear hx hy hxy hj
      go_wp2_with fail
      go_quiet (fail)
      go_wp2_with fail
      go_roundg (m + 1 - (k + 1))
      case measure => omega
      case rel => exact ⟨k + 1, by omega, by omega, by omega, by go_num, (show Below _ _ _ from below_drewN B.out _)⟩
    · go_wp2_with fail
      go_ret
      exact ⟨rfl, B.out⟩
end Go.Proofs.Ytiocfnpfmilkgaa
