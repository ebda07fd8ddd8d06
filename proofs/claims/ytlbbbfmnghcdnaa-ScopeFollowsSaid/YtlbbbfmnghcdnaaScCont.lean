/- slices.Contains at ints and at strings; value. -/
import Derived.Test.YtlbbbfmnghcdnaaScEnter
import Derived.StillTailTactics
namespace Go.Proofs.Ytlbbbfmnghcdnaa
set_option maxRecDepth 20000
open Go.RowKit Go.Maps

theorem indexI_one {b : Nat} {w : World} (h : w.cell? ⟨b, 0, none⟩ = some (iV 8)) : Calls Try.prog 70 #[.slice (some ⟨b, 0, none⟩) 1 1, iV 8] w fun e w' => e = .returned (iV 0) ∧ w' = w := by
  go_enter Try.func70, Try.ntmps70
  go_wp2_with fail
  go_loopg [8] 1 (fun m v wr => m = 1 ∧ v = iV 0 ∧ wr = w)
  case atStart => exact ⟨rfl, rfl, rfl⟩
  case round =>
    obtain ⟨hm, rfl, rfl⟩ := hrel
    go_wp2_with fail
    go_ret
    exact ⟨rfl, rfl⟩
theorem containsI_one {b : Nat} {w : World} (h : w.cell? ⟨b, 0, none⟩ = some (iV 8)) : Calls Try.prog 59 #[.slice (some ⟨b, 0, none⟩) 1 1, iV 8] w fun e w' => e = .returned (.bool true) ∧ w' = w := by
  have I := Lib.hid (indexI_one h)
  go_enter Try.func59, Try.ntmps59
  go_wp2_with (first
    | (go_at_call 70; (with_reducible refine I.out.mono ?_); rintro e w1 ⟨rfl, hq⟩; obtain rfl := hq.symm))
  go_ret
  exact ⟨rfl, rfl⟩
/-- So many names stand in a row. -/
def NamesAt (w : World) (A : Option Addr) (l : List (List UInt8)) : Prop := ∀ j s, l[j]? = some s → ∃ g, A = some ⟨g, 0, none⟩ ∧ w.cell? ⟨g, j, none⟩ = some (sV s)
theorem beq_no {a b : List UInt8} (h : a ≠ b) : (a == b) = false := beq_eq_false_iff_ne.2 h
theorem beq_yes {a b : List UInt8} (h : a = b) : (a == b) = true := beq_iff_eq.2 h
theorem indexS_any {A : Option Addr} {c : Nat} {w : World} (l : List (List UInt8)) (s : List UInt8) (h : NamesAt w A l) (hl : l.length ≤ 1099511627776) : Calls Try.prog 77 #[.slice A l.length c, sV s] w fun e w' => ∃ k : Int, e = .returned (iV k) ∧ (decide (0 ≤ k) = l.contains s) ∧ w' = w := by
  have H := Lib.hid h
  clear h
  go_enter Try.func77, Try.ntmps77
  go_wp2_with fail
  go_loopg [8] l.length (fun m v wr => ∃ i : Nat, v = iV i ∧ i + m = l.length ∧ Hid ((l.take i).contains s = false) ∧ wr = w)
  case atStart => exact ⟨0, rfl, by simp, Lib.hid (by simp), rfl⟩
  case round =>
    obtain ⟨i, rfl, him, hc, rfl⟩ := hrel
    cases gk with
    | zero =>
      have hi : i = l.length := by omega
      subst hi
      go_wp2_with fail
      go_ret
      refine ⟨-1, rfl, ?_, rfl⟩
      have := hc.out
      rw [List.take_length] at this
      rw [this]; rfl
    | succ m =>
      have hil : i < l.length := by omega
      obtain ⟨x, hx⟩ : ∃ x, l[i]? = some x := ⟨_, List.getElem?_eq_getElem hil⟩
      obtain ⟨g, rfl, hcell⟩ := H.out i x hx
      have q1 : (i : Int) < (l.length : Int) := by omega
      have q0 : (0 : Int) ≤ (i : Int) := by omega
      have ht : l.take (i + 1) = l.take i ++ [x] := by
        rw [List.take_add_one, hx]; rfl
      have HT := Lib.hid ht
      have HX := Lib.hid hx
      clear ht hx
      by_cases e : s = x
      · have qe := beq_yes e
        have He := Lib.hid e
        clear e
        go_wp2_with fail
        go_ret
        refine ⟨i, rfl, ?_, rfl⟩
        have hm : x ∈ l := List.mem_of_getElem? HX.out
        rw [← He.out] at hm
        rw [List.contains_iff_mem.2 hm]
        simp
      · have qe := beq_no e
        have He := Lib.hid e
        clear e
        go_wp2_with fail
        go_roundg m
        case measure => omega
        case rel =>
          refine ⟨i + 1, by simp, by omega, Lib.hid ?_, rfl⟩
          rw [HT.out]
          have := hc.out
          simp only [List.contains_eq_mem, decide_eq_false_iff_not, List.mem_append, List.mem_singleton, not_or] at this ⊢
          exact ⟨this, He.out⟩
theorem containsS_any {A : Option Addr} {c : Nat} {w : World} (l : List (List UInt8)) (s : List UInt8) (h : NamesAt w A l) (hl : l.length ≤ 1099511627776) : Calls Try.prog 72 #[.slice A l.length c, sV s] w fun e w' => e = .returned (.bool (l.contains s)) ∧ w' = w := by
  have I := Lib.hid (indexS_any (c := c) l s h hl)
  clear h
  go_enter Try.func72, Try.ntmps72
  go_wp2_with (first
    | (go_at_call 77; (with_reducible refine I.out.mono ?_); rintro e w1 ⟨k, rfl, hk, hq⟩; obtain rfl := hq.symm))
  go_ret
  exact ⟨congrArg (fun b => Ending.returned (.bool b)) (by simp), rfl⟩
end Go.Proofs.Ytlbbbfmnghcdnaa
