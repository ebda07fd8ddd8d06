/- The parser's small calls, second part: where a block ends, constants, words, names. -/
import Derived.Test.YtebkdegcifkigaaGreatDoorParSmall
import Derived.Test.YtebkdegcifkigaaGreatDoorParSpec
namespace Go.Proofs.YtebkdegcifkigaaGreatDoor.P5
set_option maxRecDepth 20000
open Go.RowKit Go.Maps

theorem ends_any {w : World} {p d : Nat} {ts : List Tok} (h : PAt w p d ts) : Calls Tryz.prog 38 #[pV p] w fun e w' => e = .returned (.bool (endsT ts)) ∧ w' = w := by
  have S := Lib.hid (sign_any h)
  obtain ⟨g, o, c, m, h'⟩ := h
  have c0 := h'.c0
  obtain ⟨hl, hh⟩ := h'.hd
  have h0 := hh.c0
  have hb : (0 : Int) < (ts.length : Int) := by omega
  have hk : (((hdT ts).kind : Int) == 5) = ((hdT ts).kind == 5) := by rw [Bool.eq_iff_iff]; simp; omega
  unfold endsT
  generalize (hdT ts).kind = kk at *
  generalize sgnT ts = s at *
  clear h' hh
  cases h1 : (s == [101, 110, 100]) with
  | true =>
    go_enter Tryz.func38, Tryz.ntmps38
    go_wp2_with (go_at_call 63; (with_reducible refine S.out.mono ?_); rintro e w1 ⟨rfl, hq⟩; obtain rfl := hq.symm)
    go_ret
    exact ⟨rfl, rfl⟩
  | false =>
    cases h2 : (s == [101, 108, 115, 101]) with
    | true =>
      go_enter Tryz.func38, Tryz.ntmps38
      go_wp2_with (go_at_call 63; (with_reducible refine S.out.mono ?_); rintro e w1 ⟨rfl, hq⟩; obtain rfl := hq.symm)
      go_ret
      exact ⟨rfl, rfl⟩
    | false =>
      cases h3 : (s == [101, 108, 115, 101, 105, 102]) with
      | true =>
        go_enter Tryz.func38, Tryz.ntmps38
        go_wp2_with (go_at_call 63; (with_reducible refine S.out.mono ?_); rintro e w1 ⟨rfl, hq⟩; obtain rfl := hq.symm)
        go_ret
        exact ⟨rfl, rfl⟩
      | false =>
        cases h4 : (s == [99, 97, 116, 99, 104]) with
        | true =>
          go_enter Tryz.func38, Tryz.ntmps38
          go_wp2_with (go_at_call 63; (with_reducible refine S.out.mono ?_); rintro e w1 ⟨rfl, hq⟩; obtain rfl := hq.symm)
          go_ret
          exact ⟨rfl, rfl⟩
        | false =>
          go_enter Tryz.func38, Tryz.ntmps38
          go_wp2_with (go_at_call 63; (with_reducible refine S.out.mono ?_); rintro e w1 ⟨rfl, hq⟩; obtain rfl := hq.symm)
          go_ret
          exact ⟨rfl, rfl⟩
theorem constant_any {w : World} {p d : Nat} {ts : List Tok} (h : PAt w p d ts) : Calls Tryz.prog 173 #[pV p] w (Ends p d [p] (if constT (sgnT ts) = 0 then .bad 4 (linT ts) else .ok .nil ts) (fun _ _ v => v = iV (constT (sgnT ts))) w) := by
  have S := Lib.hid (sign_any h)
  have F := Lib.hid (fault_any h)
  have B := Lib.hid (bad_new h [p] 4 (linT ts) 31)
  have P := Lib.hid h
  unfold constT
  generalize sgnT ts = s at *
  clear h
  by_cases h1 : s = [110, 105, 108]
  · rw [if_pos h1]
    rw [if_neg (by decide)]
    subst h1
    go_enter Tryz.func173, Tryz.ntmps173
    go_wp2_with (first
      | (go_at_call 63; (with_reducible refine S.out.mono ?_); rintro e w1 ⟨rfl, hq⟩; obtain rfl := hq.symm)
      | (go_at_call 24; (with_reducible refine (F.out _).mono ?_); rintro e w2 ⟨rfl, rfl⟩))
    go_ret
    exact ⟨_, rfl, rfl, P.out, Past.refl _ _⟩
  · rw [if_neg h1]
    have q1 := beq_no h1
    by_cases h2 : s = [116, 114, 117, 101]
    · rw [if_pos h2]
      rw [if_neg (by decide)]
      subst h2
      go_enter Tryz.func173, Tryz.ntmps173
      go_wp2_with (first
        | (go_at_call 63; (with_reducible refine S.out.mono ?_); rintro e w1 ⟨rfl, hq⟩; obtain rfl := hq.symm)
        | (go_at_call 24; (with_reducible refine (F.out _).mono ?_); rintro e w2 ⟨rfl, rfl⟩))
      go_ret
      exact ⟨_, rfl, rfl, P.out, Past.refl _ _⟩
    · rw [if_neg h2]
      have q2 := beq_no h2
      by_cases h3 : s = [102, 97, 108, 115, 101]
      · rw [if_pos h3]
        rw [if_neg (by decide)]
        subst h3
        go_enter Tryz.func173, Tryz.ntmps173
        go_wp2_with (first
          | (go_at_call 63; (with_reducible refine S.out.mono ?_); rintro e w1 ⟨rfl, hq⟩; obtain rfl := hq.symm)
          | (go_at_call 24; (with_reducible refine (F.out _).mono ?_); rintro e w2 ⟨rfl, rfl⟩))
        go_ret
        exact ⟨_, rfl, rfl, P.out, Past.refl _ _⟩
      · rw [if_neg h3]
        have q3 := beq_no h3
        rw [if_pos rfl]
        clear h1 h2 h3
        go_enter Tryz.func173, Tryz.ntmps173
        go_wp2_with (first
          | (go_at_call 63; (with_reducible refine S.out.mono ?_); rintro e w1 ⟨rfl, hq⟩; obtain rfl := hq.symm)
          | (go_at_call 24; (with_reducible refine (F.out _).mono ?_); rintro e w2 ⟨rfl, rfl⟩))
        exact ⟨rfl, B.out⟩
end Go.Proofs.YtebkdegcifkigaaGreatDoor.P5
