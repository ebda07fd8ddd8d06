/- What the statements say of a tree: its shape, the one expression of a source, as plain functions. -/
import Derived.Test.YtebkdegcifkigaaGreatDoorParTable2
namespace Go.Proofs.YtebkdegcifkigaaGreatDoor.P5
set_option maxRecDepth 20000

mutual
/-- An expression with all its parentheses. -/
def shapeT : Tree → List UInt8
  | .ex k _ _ s a b ks xs _ _ =>
    if k = 6 then s
    else if k = 11 then [40] ++ shapeT a ++ [32] ++ s ++ [32] ++ shapeT b ++ [41]
    else if k = 10 then [40] ++ s ++ [32] ++ shapeT b ++ [41]
    else if k = 7 then [40] ++ shapeT a ++ [91] ++ shapeT b ++ [93, 41]
    else if k = 8 then [40] ++ shapeT a ++ [40] ++ argsT (shapesT xs) ++ [41, 41]
    else if k = 5 then [39] ++ s
    else if k = 12 then [123] ++ itemsT (nilsT ks) (shapesT ks) (shapesT xs) ++ [125]
    else if k = 1 then [110, 105, 108]
    else [63]
  | _ => [63]
/-- The shapes of a list's elements. -/
def shapesT : Tree → List (List UInt8)
  | .cons x r => shapeT x :: shapesT r
  | _ => []
/-- Which of a list's elements are none. -/
def nilsT : Tree → List Bool
  | .cons .nil r => true :: nilsT r
  | .cons _ r => false :: nilsT r
  | _ => []
/-- What stands between a call's parentheses. -/
def argsT : List (List UInt8) → List UInt8
  | [] => []
  | x :: r => x ++ [44] ++ argsT r
/-- What stands in a table: nothing where there are not as many keys as items. -/
def itemsT (ns : List Bool) (ks xs : List (List UInt8)) : List UInt8 := if ns.length = xs.length then pairsT ns ks xs else []
def pairsT : List Bool → List (List UInt8) → List (List UInt8) → List UInt8
  | n :: ns, k :: ks, x :: xs => (if n = true then [] else k ++ [61]) ++ x ++ [44] ++ pairsT ns ks xs
  | _, _, _ => []
end
/-- The one expression of a source; none: there is none. -/
def exprF (n : Nat) (t : List UInt8) : Tree :=
  match sourceF n ([114, 101, 116, 117, 114, 110, 32] ++ t) with
  | .ok (.cons (.st k _ _ _ r _ _ _) .nil) _ => if k = 8 then r else .nil
  | _ => .nil

/-- A tree of expressions alone. -/
def wfE : Tree → Bool
  | .nil => true
  | .ex k _ _ _ a b ks xs _ _ => wfE a && wfE b && wfE ks && wfE xs && (k != 12 || lenT ks == lenT xs)
  | .cons x r => wfE x && wfE r
  | _ => false
def notCons : Tree → Bool
  | .cons _ _ => false
  | _ => true
end Go.Proofs.YtebkdegcifkigaaGreatDoor.P5
