/- tallowlaw12's own small functions: ints, has, slots, tab. -/
import Derived.Test.YtjlobjgemhapaaaTrGone
import Derived.Deep.AppendLies
import Derived.BigQuiet
namespace Go.Proofs.Ytjlobjgemhapaaa
set_option maxRecDepth 20000
open Go.RowKit Go.Maps Go.Sort Go.Shelf

set_option maxHeartbeats 1000000 in
theorem lints_some (a b : Addr) (c d : Nat) (xs : List Int) (w : World) (hl : xs.length ≤ 140737488355328) (ha : IntsAt w (some a) xs) (hb : IntsAt w (some b) xs) :
    Calls Try.prog 23 #[.slice (some a) xs.length c, .slice (some b) xs.length d] w fun e w' => e = .returned (.bool true) ∧ Below w.heap.size w w' := by
  have HA := Lib.hid ha
  have HB := Lib.hid hb
  clear ha hb
  go_enter Try.func23, Try.ntmps23
  go_wp2_with fail
  go_loopw [5] (fun i wr => ∃ k : Nat, k ≤ xs.length ∧ i = .int .i64 k ∧ ∃ n, wr = w.drewN n) (fun i _ => xs.length - (RowKit.intOf i).toNat)
  case atStart => exact ⟨0, Nat.zero_le _, rfl, 0, rfl⟩
  case round =>
    obtain ⟨k, hk, rfl, n, rfl⟩ := hrel
    by_cases hlt : k < xs.length
    · obtain ⟨x, hx⟩ : ∃ x, xs[k]? = some x := ⟨_, List.getElem?_eq_getElem hlt⟩
      obtain ⟨a', e, _, h1⟩ := HA.out k x hx
      obtain rfl : a = a' := by injection e
      obtain ⟨b', e, _, h2⟩ := HB.out k x hx
      obtain rfl : b = b' := by injection e
      clear hx
      go_wp2_with fail
      go_quiet (fail)
      go_wp2_with fail
      go_roundw
      case rel => exact ⟨k + 1, by omega, by go_num, _, rfl⟩
      case measure => simp [RowKit.intOf]; omega
    · go_wp2_with fail
      go_ret
      exact ⟨rfl, below_drewN (Below.refl _ _) _⟩
theorem lints_none (A B : Option Addr) (c d : Nat) (w : World) :
    Calls Try.prog 23 #[.slice A 0 c, .slice B 0 d] w fun e w' => e = .returned (.bool true) ∧ Below w.heap.size w w' := by
  go_enter Try.func23, Try.ntmps23
  go_wp2_with fail
  go_loopw [5] (fun i wr => i = .int .i64 0 ∧ wr = w) (fun i _ => 0)
  case atStart => exact ⟨rfl, rfl⟩
  case round =>
    obtain ⟨rfl, hq⟩ := hrel
    obtain rfl := hq.symm
    go_wp2_with fail
    go_ret
    exact ⟨rfl, Below.refl _ _⟩
theorem lints_any (A B : Option Addr) (c d : Nat) (xs : List Int) (w : World) (hl : xs.length ≤ 140737488355328) (ha : IntsAt w A xs) (hb : IntsAt w B xs) :
    Calls Try.prog 23 #[.slice A xs.length c, .slice B xs.length d] w fun e w' => e = .returned (.bool true) ∧ Below w.heap.size w w' := by
  match xs, ha, hb with
  | [], ha, hb => exact lints_none A B c d w
  | x :: r, ha, hb =>
    obtain ⟨a, rfl, _⟩ := ha 0 x rfl
    obtain ⟨b, rfl, _⟩ := hb 0 x rfl
    exact lints_some a b c d _ w hl ha hb
theorem has_any {A : Option Addr} {c : Nat} {xs : List Int} {w : World} (hl : xs.length ≤ 140737488355328) (ha : IntsAt w A xs) (n : Int) :
    Calls Try.prog 21 #[.slice A xs.length c, iV n] w fun e w' => e = .returned (.bool (decide (n ∈ xs))) ∧ w' = w := by
  have HA := Lib.hid ha
  have GET : Hid (∀ i, i < xs.length → ∃ p, xs[i]? = some p) := fun i hi => ⟨_, List.getElem?_eq_getElem hi⟩
  have YES : Hid (∀ k, xs[k]? = some n → decide (n ∈ xs) = true) := fun k hk => decide_eq_true (List.mem_of_getElem? hk)
  have NO : Hid ((∀ i x, i < xs.length → xs[i]? = some x → x ≠ n) → decide (n ∈ xs) = false) := fun h => decide_eq_false fun hm => by
    obtain ⟨i, hi⟩ := List.getElem?_of_mem hm
    exact h i n (List.getElem?_eq_some_iff.1 hi).1 hi rfl
  clear ha
  generalize decide (n ∈ xs) = y at *
  generalize hm : xs.length = m at *
  clear hm
  go_enter Try.func21, Try.ntmps21
  go_wp2_with fail
  go_loopg [5] m (fun gg s5 wr => ∃ k : Nat, k ≤ m ∧ m - k ≤ gg ∧ s5 = .int .i64 k ∧ wr = w ∧ Hid (∀ i x, i < k → xs[i]? = some x → x ≠ n))
  case atStart => exact ⟨0, Nat.zero_le _, by omega, rfl, rfl, fun i x hi => absurd hi (Nat.not_lt_zero _)⟩
  case round =>
    obtain ⟨k, hk, hgg, rfl, hw, I⟩ := hrel
    obtain rfl := hw.symm
    by_cases hlt : k < m
    · obtain ⟨x, hx⟩ := GET.out k hlt
      obtain ⟨a, e, _, hc⟩ := HA.out k x hx
      subst e
      cases hq : (x == n) with
      | true =>
        have hxn : x = n := by simpa using hq
        have Y := Lib.hid (YES.out k (by rw [hx, hxn]))
        clear hx hxn
        go_wp2_with fail
        go_ret
        exact ⟨by rw [Y.out]; rfl, rfl⟩
      | false =>
        have hxn : x ≠ n := by simpa using hq
        have I2 : Hid (∀ i y, i < k + 1 → xs[i]? = some y → y ≠ n) := fun i y hi hy => by
          by_cases e : i = k
          · subst e; rw [hx] at hy; injection hy with hy; subst hy; exact hxn
          · exact I.out i y (by omega) hy
        clear hx hxn
        go_wp2_with fail
        go_roundg (m - (k + 1))
        case measure => omega
        case rel => exact ⟨k + 1, by omega, by omega, by go_num, rfl, I2.out⟩
    · have hkm : k = m := by omega
      have N := Lib.hid (NO.out (by rw [← hkm]; exact I.out))
      clear hkm
      go_wp2_with fail
      go_ret
      exact ⟨by rw [N.out]; rfl, rfl⟩
set_option maxHeartbeats 2000000 in
theorem slots_any {w : World} {A : Option Addr} {c : Nat} {g : List OB} (hg : GAt w A g) (hn : g.length ≤ 1099511627776) :
    Calls Try.prog 9 #[gV A g.length c] w fun e w' => (∃ z : Int, e = .returned (iV z) ∧ (¬ 2000 < z → ∀ o ∈ g, o.slots.length ≤ 2000)) ∧ Below w.heap.size w w' := by
  have G := Lib.hid hg
  have GET : Hid (∀ i, i < g.length → ∃ p, g[i]? = some p) := fun i hi => ⟨_, List.getElem?_eq_getElem hi⟩
  have ALL : Hid ((∀ (i : Nat) o, i < g.length → g[i]? = some o → o.slots.length ≤ 2000) → ∀ o ∈ g, o.slots.length ≤ 2000) := fun h o ho => by
    obtain ⟨i, hi⟩ := List.getElem?_of_mem ho
    exact h i o (List.getElem?_eq_some_iff.1 hi).1 hi
  clear hg
  generalize hm : g.length = m at *
  clear hm
  go_enter Try.func9, Try.ntmps9
  go_wp2_with fail
  refine at_world (fun V => Below w.heap.size w V ∧ V.cell? ⟨w.heap.size, 0, none⟩ = some (.slice A m c) ∧ w.heap.size < V.heap.size) ⟨(Below.refl _ _).alloc (Nat.le_refl _) _, by simp [go_sem], by simp⟩ (fun V HV => ?_)
  obtain ⟨hb, c0, zV⟩ := HV
  have BV := Lib.hid hb
  clear hb
  obtain ⟨bg, hbg⟩ : ∃ bg, bg = w.heap.size := ⟨_, rfl⟩
  rw [← hbg] at c0 zV ⊢
  clear hbg
  go_loopg [3, 4] m (fun gg s3 s4 wr => ∃ k t : Nat, k ≤ m ∧ m - k ≤ gg ∧ s4 = .int .i64 k ∧ s3 = .int .i64 t ∧ t ≤ 2000 ∧ Hid (wr = V) ∧ Hid (∀ (i : Nat) o, i < k → g[i]? = some o → o.slots.length ≤ 2000))
  case atStart => exact ⟨0, 0, Nat.zero_le _, by omega, rfl, rfl, by omega, rfl, fun i o h => absurd h (Nat.not_lt_zero _)⟩
  case round =>
    obtain ⟨k, t, hk, hgg, rfl, rfl, ht, HW, I⟩ := hrel
    obtain rfl := HW.out
    by_cases hlt : k < m
    · obtain ⟨o, ho⟩ := GET.out k hlt
      obtain ⟨a, sA, sc, e, hal, hcel, hss⟩ := G.out k o ho
      subst e
      obtain ⟨o0, o1, o2, o3, o4⟩ := hcel.below (by rw [Go.ChangeShapes.block_add]; exact hal) BV.out
      have hl2 : (a.add (k * 5)).block < wr.heap.size := by rw [Go.ChangeShapes.block_add]; exact Nat.lt_of_lt_of_le hal BV.out.size
      have HO := Lib.hid ho
      clear ho hcel hss o0 o1 o3 o4
      by_cases hs : o.slots.length > 2000 - t
      · have z1 : (2000 : Int) - (t : Int) < (o.slots.length : Int) := by omega
        generalize o.slots.length = ns at *
        go_wp2_with fail
        go_ret
        exact ⟨⟨2001, rfl, fun h => by exfalso; omega⟩, BV.out⟩
      · have z1 : ¬ (2000 : Int) - (t : Int) < (o.slots.length : Int) := by omega
        have hs2 : t + o.slots.length ≤ 2000 := by omega
        have I2 : Hid (∀ (i : Nat) p, i < k + 1 → g[i]? = some p → p.slots.length ≤ 2000) := fun i p hi hp => by
          by_cases e : i = k
          · subst e; rw [HO.out] at hp; injection hp with hp; subst hp; omega
          · exact I.out i p (by omega) hp
        clear hs
        generalize o.slots.length = ns at *
        go_wp2_with fail
        go_roundg (m - (k + 1))
        case measure => omega
        case rel => exact ⟨k + 1, t + ns, by omega, by omega, by go_num, by first | rfl | go_num, hs2, rfl, I2.out⟩
    · have hkm : k = m := by omega
      subst hkm
      have AL := Lib.hid (ALL.out I.out)
      go_wp2_with fail
      go_ret
      exact ⟨⟨_, rfl, fun _ => AL.out⟩, BV.out⟩
end Go.Proofs.Ytjlobjgemhapaaa
