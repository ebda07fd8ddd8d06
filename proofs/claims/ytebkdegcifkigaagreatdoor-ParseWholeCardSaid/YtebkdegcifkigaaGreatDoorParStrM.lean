/- ParseStrength's plain facts: for each two operators, and each sign, what the source is. No walk. -/
import Derived.Test.YtebkdegcifkigaaGreatDoorParExpr
namespace Go.Proofs.YtebkdegcifkigaaGreatDoor.P5
set_option maxRecDepth 20000

def opsL : List (List UInt8) := [[111, 114], [97, 110, 100], [60], [60, 61], [62], [62, 61], [61, 61], [126, 61], [124], [126], [38], [60, 60], [62, 62], [46, 46], [43], [45], [42], [47, 47], [37]]
def rankL : List Nat := [0, 1, 2, 2, 2, 2, 2, 2, 3, 4, 5, 6, 6, 7, 8, 8, 9, 9, 9]
def unL : List (List UInt8) := [[110, 111, 116], [45], [35], [126]]
def textS (o k : List UInt8) : List UInt8 := [97, 32] ++ o ++ [32, 98, 32] ++ k ++ [32, 99]
def leftS (o k : List UInt8) : List UInt8 := [40, 40, 97, 32] ++ o ++ [32, 98, 41, 32] ++ k ++ [32, 99, 41]
def rightS (o k : List UInt8) : List UInt8 := [40, 97, 32] ++ o ++ [32, 40, 98, 32] ++ k ++ [32, 99, 41, 41]
def textU (u o : List UInt8) : List UInt8 := u ++ [32, 97, 32] ++ o ++ [32] ++ u ++ [32, 98, 91, 99, 93, 32]
def shapeU (u o : List UInt8) : List UInt8 := [40, 40] ++ u ++ [32, 97, 41, 32] ++ o ++ [32, 40] ++ u ++ [32, 40, 98, 91, 99, 93, 41, 41, 41]
def textD (u : List UInt8) : List UInt8 := u ++ [32] ++ u ++ [32, 97, 40, 98, 41]
def shapeD (u : List UInt8) : List UInt8 := [40] ++ u ++ [32, 40] ++ u ++ [32, 40, 97, 40, 98, 44, 41, 41, 41, 41]
def isLeft (i k : Nat) : Bool := decide (rankL.getD k 0 < rankL.getD i 0) || (rankL.getD i 0 == rankL.getD k 0 && opsL.getD i [] != [46, 46])
theorem all_two : ((List.range 19).all fun i => (List.range 19).all fun k => shapesAs 300 (textS (opsL.getD i []) (opsL.getD k [])) (if isLeft i k = true then leftS (opsL.getD i []) (opsL.getD k []) else rightS (opsL.getD i []) (opsL.getD k []))) = true := by kernel_rfl
theorem all_un : ((List.range 4).all fun u => (List.range 19).all fun i => shapesAs 300 (textU (unL.getD u []) (opsL.getD i [])) (shapeU (unL.getD u []) (opsL.getD i []))) = true := by kernel_rfl
theorem all_deep : ((List.range 4).all fun u => shapesAs 300 (textD (unL.getD u [])) (shapeD (unL.getD u []))) = true := by kernel_rfl
theorem two_at {i k : Nat} (hi : i < 19) (hk : k < 19) : shapesAs 300 (textS (opsL.getD i []) (opsL.getD k [])) (if isLeft i k = true then leftS (opsL.getD i []) (opsL.getD k []) else rightS (opsL.getD i []) (opsL.getD k [])) = true :=
  List.all_eq_true.1 (List.all_eq_true.1 all_two i (List.mem_range.2 hi)) k (List.mem_range.2 hk)
theorem un_at {u i : Nat} (hu : u < 4) (hi : i < 19) : shapesAs 300 (textU (unL.getD u []) (opsL.getD i [])) (shapeU (unL.getD u []) (opsL.getD i [])) = true :=
  List.all_eq_true.1 (List.all_eq_true.1 all_un u (List.mem_range.2 hu)) i (List.mem_range.2 hi)
theorem deep_at {u : Nat} (hu : u < 4) : shapesAs 300 (textD (unL.getD u [])) (shapeD (unL.getD u [])) = true :=
  List.all_eq_true.1 all_deep u (List.mem_range.2 hu)
theorem op_short (i : Nat) : (opsL.getD i []).length ≤ 3 := by
  rcases Nat.lt_or_ge i 19 with h | h
  · have : ∀ x ∈ List.range 19, (opsL.getD x []).length ≤ 3 := by decide
    exact this i (List.mem_range.2 h)
  · rw [List.getD_eq_getElem?_getD, List.getElem?_eq_none (by exact h)]; simp
theorem un_short (i : Nat) : (unL.getD i []).length ≤ 3 := by
  rcases Nat.lt_or_ge i 4 with h | h
  · have : ∀ x ∈ List.range 4, (unL.getD x []).length ≤ 3 := by decide
    exact this i (List.mem_range.2 h)
  · rw [List.getD_eq_getElem?_getD, List.getElem?_eq_none (by exact h)]; simp
end Go.Proofs.YtebkdegcifkigaaGreatDoor.P5
