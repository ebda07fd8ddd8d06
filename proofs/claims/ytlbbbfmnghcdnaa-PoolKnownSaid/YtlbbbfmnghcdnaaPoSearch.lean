/- cmp.Compare, the closure that compares a span, slices.BinarySearchFunc over spans. -/
import Derived.Test.YtlbbbfmnghcdnaaPoTake2
import Derived.Deep.LoopGhost
namespace Go.Proofs.Ytlbbbfmnghcdnaa
set_option maxRecDepth 20000
open Go.RowKit Go.Maps

def cmpI (x y : Int) : Int := if x < y then -1 else if y < x then 1 else 0
theorem isNaN_any (x : Int) (w : World) : Calls Try.prog 54 #[nV x] w fun e w' => e = .returned (.bool false) ∧ w = w' := by
  go_enter Try.func54, Try.ntmps54
  go_wp2
  go_ret
  exact ⟨rfl, rfl⟩
theorem Compare_any (x y : Int) (w : World) : Calls Try.prog 45 #[nV x, nV y] w fun e w' => e = .returned (nV (cmpI x y)) ∧ w = w' := by
  by_cases h : x < y
  · have e : cmpI x y = -1 := if_pos h
    rw [e]
    go_enter Try.func45, Try.ntmps45
    go_wp2_with (go_at_call 54; (with_reducible refine (isNaN_any _ _).mono ?_); rintro e w1 ⟨rfl, rfl⟩)
    go_ret
    exact ⟨rfl, rfl⟩
  · by_cases h2 : y < x
    · have e : cmpI x y = 1 := by unfold cmpI; rw [if_neg h, if_pos h2]
      rw [e]
      go_enter Try.func45, Try.ntmps45
      go_wp2_with (go_at_call 54; (with_reducible refine (isNaN_any _ _).mono ?_); rintro e w1 ⟨rfl, rfl⟩)
      go_ret
      exact ⟨rfl, rfl⟩
    · have e : cmpI x y = 0 := by unfold cmpI; rw [if_neg h, if_neg h2]
      rw [e]
      go_enter Try.func45, Try.ntmps45
      go_wp2_with (go_at_call 54; (with_reducible refine (isNaN_any _ _).mono ?_); rintro e w1 ⟨rfl, rfl⟩)
      go_ret
      exact ⟨rfl, rfl⟩
theorem cmp_any (a b n : Int) (w : World) : Calls Try.prog 44 #[.agg #[nV a, nV b], nV n] w fun e w' => e = .returned (nV (cmpI a n)) ∧ Below w.heap.size w w' := by
  go_enter Try.func44, Try.ntmps44
  go_wp2_with (go_at_call 45; (with_reducible refine (Compare_any _ _ _).mono ?_); rintro e w1 ⟨rfl, rfl⟩)
  go_ret
  exact ⟨rfl, (Below.refl _ _).alloc (Nat.le_refl _) _⟩
theorem place_at {F : List (Nat × Nat)} {m lo : Nat} (hlo : lo ≤ F.length) (h1 : ∀ t p, t < lo → F[t]? = some p → p.1 < m) (h2 : ∀ t p, lo ≤ t → F[t]? = some p → m ≤ p.1) : placeF F m = lo := by
  have e := List.take_append_drop lo F
  have l : (F.take lo).length = lo := by rw [List.length_take]; omega
  rw [← e, place_of, l]
  · intro p hp
    obtain ⟨t, ht, rfl⟩ := List.getElem_of_mem hp
    rw [l] at ht
    exact h1 t _ ht (by rw [List.getElem_take]; exact List.getElem?_eq_getElem (by omega))
  · intro p hp
    obtain ⟨t, ht, rfl⟩ := List.getElem_of_mem hp
    rw [List.length_drop] at ht
    exact h2 (lo + t) _ (by omega) (by rw [List.getElem_drop]; exact List.getElem?_eq_getElem (by omega))
theorem rise_lt : ∀ {F : List (Nat × Nat)} {lo hi : Nat} (_ : RiseS lo F hi) {s t : Nat} {p q : Nat × Nat}, s ≤ t → F[s]? = some p → F[t]? = some q → p.1 ≤ q.1
  | [], _, _, _, s, t, p, q, _, h, _ => by simp at h
  | x :: r, lo, hi, ⟨h1, h2, h3⟩, 0, 0, p, q, _, hp, hq => by simp at hp hq; subst hp; subst hq; exact Nat.le_refl _
  | x :: r, lo, hi, ⟨h1, h2, h3⟩, 0, t + 1, p, q, _, hp, hq => by
    simp at hp hq; subst hp
    have := h3.mem q (List.mem_of_getElem? hq)
    omega
  | x :: r, lo, hi, ⟨h1, h2, h3⟩, s + 1, 0, p, q, hst, _, _ => by omega
  | x :: r, lo, hi, ⟨h1, h2, h3⟩, s + 1, t + 1, p, q, hst, hp, hq => rise_lt h3 (s := s) (t := t) (by omega) (by rwa [List.getElem?_cons_succ] at hp) (by rwa [List.getElem?_cons_succ] at hq)
theorem ret_pl {x y : Nat} {b : Bool} (h : x = y) : Ending.returned (.tuple #[nV x, .bool b]) = .returned (.tuple #[nV y, .bool b]) := by rw [h]
theorem Search_any {F : List (Nat × Nat)} {top : Nat} (hr : Rise F top) (hF : F.length ≤ 1099511627776) (m : Nat) (w : World) (g off c : Nat) (hrow : RowF w g off F.length c (flatF F)) :
    Calls Try.prog 43 #[.slice (some ⟨g, off, none⟩) F.length c, nV m, .func (.func 44) #[] #[]] w fun e w' => (∃ b, e = .returned (.tuple #[nV (placeF F m), .bool b])) ∧ Below w.heap.size w w' := by
  have hgl : g < w.heap.size := by obtain ⟨cur, r1, _⟩ := hrow; exact mem_block_lt r1
  have ROW := Lib.hid hrow
  have RR := Lib.hid hr
  clear hrow hr
  have CELL : Hid (∀ (W : World), Below w.heap.size w W → ∀ i p, F[i]? = some p → W.cell? ⟨g, off + i * 2, none⟩ = some (nV p.1) ∧ W.cell? ⟨g, off + i * 2 + 1, none⟩ = some (nV p.2)) := fun W hW i p hp => by
    have hk := ROW.out.keep (hW.block g hgl)
    have := flat_at F i p hp
    rw [Nat.mul_comm] at this
    exact ⟨hk.cell this.1, hk.cell this.2⟩
  have GET : Hid (∀ i, i < F.length → ∃ p, F[i]? = some p) := fun i hi => ⟨_, List.getElem?_eq_getElem hi⟩
  have PL : Hid (∀ lo, lo ≤ F.length → (∀ t p, t < lo → F[t]? = some p → p.1 < m) → (∀ t p, lo ≤ t → F[t]? = some p → m ≤ p.1) → placeF F m = lo) := fun lo h h1 h2 => place_at h h1 h2
  generalize hn : F.length = n at *
  have HL : Hid (F.length ≤ n) := Nat.le_of_eq hn
  clear hn
  go_enter Try.func43, Try.ntmps43
  go_wp2
  go_loopg [9, 10] n (fun kx s9 s10 wr => ∃ lo hi : Nat, s9 = nV lo ∧ s10 = nV hi ∧ lo ≤ hi ∧ hi ≤ n ∧ hi - lo ≤ kx ∧ Hid (Below w.heap.size w wr) ∧
    Hid ((∀ t p, t < lo → F[t]? = some p → p.1 < m) ∧ (∀ t p, hi ≤ t → F[t]? = some p → m ≤ p.1)))
  case atStart => exact ⟨0, n, rfl, rfl, Nat.zero_le _, Nat.le_refl _, by omega, Below.refl _ _, (⟨fun t p ht => absurd ht (Nat.not_lt_zero _), fun t p h1 h2 => by have := HL.out; rw [List.getElem?_eq_none (by omega)] at h2; cases h2⟩ : (∀ t p, t < 0 → F[t]? = some p → p.1 < m) ∧ (∀ t p, n ≤ t → F[t]? = some p → m ≤ p.1))⟩
  case round =>
    obtain ⟨lo, hi, rfl, rfl, hlh, hin, hg, B, I⟩ := hrel
    by_cases hlt : lo < hi
    · obtain ⟨p, hp⟩ := GET.out ((lo + hi) / 2) (by omega)
      obtain ⟨c1, c2⟩ := CELL.out wr B.out _ p hp
      have HP := Lib.hid hp
      clear hp
      by_cases hpm : p.1 < m
      · have e : cmpI (p.1 : Int) (m : Int) = -1 := if_pos (by omega)
        go_wp2_with (go_at_call 44; (with_reducible refine (cmp_any _ _ _ _).mono ?_); rintro e w1 ⟨rfl, hb1⟩; have B1 := Lib.hid hb1; clear hb1)
        go_roundg (hi - ((lo + hi) / 2 + 1))
        case measure => omega
        case rel =>
          have hp := HP.out
          have I2 : Hid ((∀ t p, t < (lo + hi) / 2 + 1 → F[t]? = some p → p.1 < m) ∧ (∀ t p, hi ≤ t → F[t]? = some p → m ≤ p.1)) := ⟨fun t q ht hq => Nat.lt_of_le_of_lt (rise_lt RR.out.rise (by omega) hq hp) hpm, I.out.2⟩
          exact ⟨(lo + hi) / 2 + 1, hi, by rw [show ((lo : Int) + (hi : Int)) / 2 + 1 = (((lo + hi) / 2 + 1 : Nat) : Int) by omega], rfl, by omega, hin, Nat.le_refl _, B.out.trans (B1.out.mono B.out.size), I2⟩
      · have e : decide (cmpI (p.1 : Int) (m : Int) < 0) = false := by unfold cmpI; rw [if_neg (by omega)]; split <;> decide
        generalize hz : cmpI (p.1 : Int) (m : Int) = z at e
        have Z := Lib.hid hz
        clear hz
        go_wp2_with (go_at_call 44; (with_reducible refine (cmp_any _ _ _ _).mono ?_); rintro e w1 ⟨rfl, hb1⟩; rw [Z.out]; have B1 := Lib.hid hb1; clear hb1)
        go_roundg ((lo + hi) / 2 - lo)
        case measure => omega
        case rel =>
          have hp := HP.out
          have I2 : Hid ((∀ t p, t < lo → F[t]? = some p → p.1 < m) ∧ (∀ t p, (lo + hi) / 2 ≤ t → F[t]? = some p → m ≤ p.1)) := ⟨I.out.1, fun t q ht hq => Nat.le_trans (Nat.le_of_not_lt hpm) (rise_lt RR.out.rise (by omega) hp hq)⟩
          exact ⟨lo, (lo + hi) / 2, rfl, by rw [show ((lo : Int) + (hi : Int)) / 2 = (((lo + hi) / 2 : Nat) : Int) by omega], by omega, by omega, Nat.le_refl _, B.out.trans (B1.out.mono B.out.size), I2⟩
    · obtain rfl : lo = hi := by omega
      have P := Lib.hid (PL.out lo hin I.out.1 I.out.2)
      by_cases hln : lo < n
      · obtain ⟨p, hp⟩ := GET.out lo hln
        obtain ⟨c1, c2⟩ := CELL.out wr B.out _ p hp
        clear hp
        generalize hz : cmpI (p.1 : Int) (m : Int) = z
        have Z := Lib.hid hz
        clear hz
        go_wp2_with (go_at_call 44; (with_reducible refine (cmp_any _ _ _ _).mono ?_); rintro e w1 ⟨rfl, hb1⟩; rw [Z.out]; have B1 := Lib.hid hb1; clear hb1)
        all_goals
          go_ret2
          exact ⟨⟨_, ret_pl P.out.symm⟩, B.out.trans (B1.out.mono B.out.size)⟩
      · go_wp2_with fail
        all_goals
          go_ret2
          exact ⟨⟨_, ret_pl P.out.symm⟩, B.out⟩
end Go.Proofs.Ytlbbbfmnghcdnaa
