/- The laws' own small functions: in, str, is, works. -/
import Derived.Test.YtkkdgacdajojiaaBase
import Derived.Test.YtkkdgacdajojiaaDiKeys
import Derived.Test.YtkkdgacdajojiaaDiPut
import Derived.Test.YtkkdgacdajojiaaValRefs
namespace Go.Proofs.Ytkkdgacdajojiaa
set_option maxRecDepth 20000
set_option maxRecDepth 20000
open Go.RowKit Go.Maps Go.Sort Go.BigFrame

theorem in_any (n : Int) (w : World) : Calls Try.prog 28 #[.int .i64 n] w fun e w' => e = .returned (.agg #[.int .i64 3, .int .i64 n]) ∧ Below w.heap.size w w' := by
  go_enter Try.func28, Try.ntmps28
  go_wp2
  refine bodyPost_ret (v := .agg #[.int .i64 3, .int .i64 n]) (by simp [results, Try.results28, go_sem]) rfl ⟨rfl, ?_⟩
  exact (Below.refl _ _).alloc (Nat.le_refl _) _
theorem str_any (n : Int) (w : World) : Calls Try.prog 29 #[.int .i64 n] w fun e w' => e = .returned (.agg #[.int .i64 5, .int .i64 n]) ∧ Below w.heap.size w w' := by
  go_enter Try.func29, Try.ntmps29
  go_wp2
  refine bodyPost_ret (v := .agg #[.int .i64 5, .int .i64 n]) (by simp [results, Try.results29, go_sem]) rfl ⟨rfl, ?_⟩
  exact (Below.refl _ _).alloc (Nat.le_refl _) _
theorem SlV.pairs {w : World} {v : Value} {l : List VV} (h : SlV w v l) : ∃ A c, v = .slice A l.length c ∧ PairsAt w A l := by
  rcases h with ⟨rfl, rfl⟩ | ⟨g, off, c, rfl, h⟩
  · exact ⟨none, 0, rfl, fun i p hp => by simp at hp⟩
  · refine ⟨_, c, rfl, fun i p hp => ⟨_, rfl, h.lt, ?_⟩⟩
    obtain ⟨h0, h1⟩ := h.at hp
    rw [Addr.add_lit]
    exact ⟨h0, by rw [add_one]; exact h1⟩
set_option maxHeartbeats 2000000 in
theorem is_pairs {w : World} {A B : Option Addr} {c d : Nat} {la lb : List VV} (ha : PairsAt w A la) (hb : PairsAt w B lb) (hl : la.length ≤ 1099511627776) :
    Calls Try.prog 30 #[.slice A la.length c, .slice B lb.length d] w fun e w' => e = .returned (.bool (decide (la = lb))) ∧ Below w.heap.size w w' := by
  have HA := Lib.hid ha
  have HB := Lib.hid hb
  clear ha hb
  by_cases hn : la.length = lb.length
  · obtain ⟨n, hq⟩ : ∃ n, n = la.length := ⟨_, rfl⟩
    have HN := Lib.hid hq
    have HM := Lib.hid (hq.trans hn)
    rw [← hn, ← hq]
    rw [← hq] at hl
    clear hq hn
    go_enter Try.func30, Try.ntmps30
    go_wp2_with fail
    go_loopw [5] (fun i wr => ∃ k : Nat, k ≤ n ∧ i = .int .i64 k ∧ Hid (la.take k = lb.take k) ∧ ∃ m, wr = w.drewN m) (fun i _ => n - (intOf i).toNat)
    case atStart => exact ⟨0, Nat.zero_le _, rfl, rfl, 0, rfl⟩
    case round =>
      obtain ⟨k, hk, rfl, T, m, rfl⟩ := hrel
      by_cases hlt : k < n
      · obtain ⟨x, hx⟩ : ∃ x, la[k]? = some x := ⟨_, List.getElem?_eq_getElem (by rw [← HN.out]; exact hlt)⟩
        obtain ⟨y, hy⟩ : ∃ y, lb[k]? = some y := ⟨_, List.getElem?_eq_getElem (by rw [← HM.out]; exact hlt)⟩
        obtain ⟨ad, e, -, h0, h1⟩ := HA.out k x hx
        subst e
        obtain ⟨bd, e, -, h2, h3⟩ := HB.out k y hy
        subst e
        rw [add_one] at h1 h3
        obtain ⟨x1, x2⟩ := x
        obtain ⟨y1, y2⟩ := y
        have HX := Lib.hid hx
        have HY := Lib.hid hy
        clear hx hy
        by_cases he : (x1, x2) = (y1, y2)
        · injection he with e1 e2
          subst e1; subst e2
          have T2 : Hid (la.take (k + 1) = lb.take (k + 1)) := Lib.hid (by rw [List.take_add_one, List.take_add_one, T.out, HX.out, HY.out])
          go_wp2_with fail
          go_quiet (fail)
          go_wp2_with fail
          go_roundw
          case rel => exact ⟨k + 1, by omega, by go_num, T2, _, rfl⟩
          case measure => simp [intOf]; omega
        · have hd : decide (la = lb) = false := decide_eq_false (fun e => he (by have := HX.out; rw [e, HY.out] at this; injection this with this; exact this.symm))
          have HD := Lib.hid hd
          clear hd
          by_cases e1 : x1 = y1
          · have e2 : (x2 == y2) = false := not_eq (fun e => he (by rw [e1, e]))
            have e3 : (x1 == y1) = true := by simp [e1]
            clear he
            go_wp2_with fail
            go_quiet (fail)
            go_wp2_with fail
            go_ret
            exact ⟨by rw [HD.out]; rfl, below_drewN (below_drewN (Below.refl _ _) _) _⟩
          · have e3 : (x1 == y1) = false := not_eq e1
            clear he
            go_wp2_with fail
            go_quiet (fail)
            go_wp2_with fail
            go_ret
            exact ⟨by rw [HD.out]; rfl, below_drewN (below_drewN (Below.refl _ _) _) _⟩
      · have hkn : k = n := by omega
        have hd : decide (la = lb) = true := decide_eq_true (by have := T.out; rw [hkn, List.take_of_length_le (by rw [← HN.out]; exact Nat.le_refl _), List.take_of_length_le (by rw [← HM.out]; exact Nat.le_refl _)] at this; exact this)
        have HD := Lib.hid hd
        clear hkn hd
        go_wp2_with fail
        go_ret
        exact ⟨by rw [HD.out]; rfl, below_drewN (Below.refl _ _) _⟩
  · have hd : decide (la = lb) = false := decide_eq_false (fun e => hn (by rw [e]))
    have hz : ((la.length : Int) == (lb.length : Int)) = false := not_eq (by omega)
    rw [hd]
    go_enter Try.func30, Try.ntmps30
    go_wp2_with fail
    go_ret
    exact ⟨rfl, Below.refl _ _⟩
theorem is_any {w : World} {a b : Value} {la lb : List VV} (ha : SlV w a la) (hb : SlV w b lb) (hl : la.length ≤ 1099511627776) :
    Calls Try.prog 30 #[a, b] w fun e w' => e = .returned (.bool (decide (la = lb))) ∧ Below w.heap.size w w' := by
  obtain ⟨A, c, rfl, h1⟩ := ha.pairs
  obtain ⟨B, d, rfl, h2⟩ := hb.pairs
  exact is_pairs h1 h2 hl
end Go.Proofs.Ytkkdgacdajojiaa
