/- What can be reached, and the ways, in graphs that are written out: by lists that are checked. No walk. -/
import Derived.Test.YtiocfnpfmilkgaaRcPath
import Derived.Test.YtiocfnpfmilkgaaRcObjs
namespace Go.Proofs.Ytiocfnpfmilkgaa
set_option maxRecDepth 20000

theorem held_past {g : List OB} {a : Nat} (h : g.length < a) : heldN g a = [] := by
  cases a with
  | zero => rfl
  | succ k => rw [held_succ, List.getElem?_eq_none (by omega)]
def distB (g : List OB) (b : Nat) (l : List Nat) : Bool :=
  l.getD b 0 == 1 && l.length == g.length + 1 && (List.range (g.length + 1)).all fun a =>
    (l.getD a 0 == 0 || a == b || (heldN g a).any fun x => l.getD x 0 + 1 == l.getD a 0 && l.getD x 0 != 0) && (heldN g a).all fun x => l.getD x 0 == 0 || (l.getD a 0 != 0 && decide (l.getD a 0 ≤ l.getD x 0 + 1))
theorem dist_list {g : List OB} {b : Nat} {l : List Nat} (h : distB g b l = true) : distF g b = fun a => l.getD a 0 := by
  unfold distB at h
  simp only [Bool.and_eq_true, beq_iff_eq, List.all_eq_true, List.mem_range] at h
  obtain ⟨⟨h0, hl⟩, ha⟩ := h
  have big : ∀ a, g.length < a → l.getD a 0 = 0 := fun a hlt => by rw [List.getD_eq_getElem?_getD, List.getElem?_eq_none (by omega)]; rfl
  refine (dist_is g b).unique (dist_of h0 (fun a h1 h2 => ?_) (fun a x hx h1 => ?_))
  · have hle : a < g.length + 1 := Nat.lt_of_not_le fun hge => h1 (big a (by omega))
    have := (ha a hle).1
    simp only [Bool.or_eq_true, beq_iff_eq, List.any_eq_true, Bool.and_eq_true, bne_iff_ne] at this
    rcases this with (h3 | h3) | ⟨x, hx, h3, h4⟩
    · exact absurd h3 h1
    · exact absurd h3 h2
    · exact ⟨x, hx, h3, h4⟩
  · have hle : a < g.length + 1 := Nat.lt_of_not_le fun hge => by
      rw [held_past (by omega)] at hx; cases hx
    have := (ha a hle).2 x hx
    simp only [Bool.or_eq_true, beq_iff_eq, Bool.and_eq_true, bne_iff_ne, decide_eq_true_eq] at this
    rcases this with h3 | h3
    · exact absurd h3 h1
    · exact h3
theorem path_list {g : List OB} {r : Int × Int} {b : Nat} {l : List Nat} (hb : 1 ≤ b) (h : distB g b l = true) :
    pathI g r b = if checkB g && thereN g b then (match objsN g [r] with
      | [] => []
      | a :: _ => if l.getD a 0 = 0 then [] else wayL g (fun a => l.getD a 0) (l.getD a 0 - 1) a) else [] := by
  unfold pathI pathL
  rw [if_pos (by omega), Int.toNat_natCast, dist_list h]
  rfl
theorem from_list {g : List OB} {rs : List (Int × Int)} {l : List Nat} (can : Bool) (h1 : chainB g (objsN g rs) [] l = true) (h2 : ((objsN g rs).all fun x => l.contains x) = true) (h3 : (l.all fun m => (heldN g m).all fun x => l.contains x) = true) :
    fromL g rs can = if checkB g then whichL (fun m o => o.kind != 0 && (l.contains m == can)) g else [] := by
  unfold fromL
  rw [reach_of h1 h2 h3]
def sevenL : List (List Int) := [[2, 3], [4], [4], [1], [4], [0], [7]]
def sevenG : List OB := tabG sevenL
theorem seven_from : fromL sevenG [(6, 2)] true = [1, 2, 3, 4] := by
  rw [from_list (l := [2, 4, 1, 3]) true (by kernel_rfl) (by kernel_rfl) (by kernel_rfl)]
  kernel_rfl
theorem seven_lost : fromL sevenG [(6, 2)] false = [5, 7] := by
  rw [from_list (l := [2, 4, 1, 3]) false (by kernel_rfl) (by kernel_rfl) (by kernel_rfl)]
  kernel_rfl
theorem seven_path : pathI sevenG (6, 1) 4 = [1, 2, 4] := by
  have := path_list (g := sevenG) (r := (6, 1)) (b := 4) (l := [0, 3, 2, 2, 1, 2, 0, 0]) (by decide) (by kernel_rfl)
  exact this.trans (by kernel_rfl)
end Go.Proofs.Ytiocfnpfmilkgaa
