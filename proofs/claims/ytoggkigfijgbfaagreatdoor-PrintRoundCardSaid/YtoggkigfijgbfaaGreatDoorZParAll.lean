/- Every production, at every fuel. -/
import Derived.Test.YtoggkigfijgbfaaGreatDoorZParParse
import Derived.Test.YtoggkigfijgbfaaGreatDoorZParStepA
import Derived.Test.YtoggkigfijgbfaaGreatDoorZParStepB
import Derived.Test.YtoggkigfijgbfaaGreatDoorZParStepC
import Derived.Test.YtoggkigfijgbfaaGreatDoorZParStepD
import Derived.Test.YtoggkigfijgbfaaGreatDoorZParBody
import Derived.Test.YtoggkigfijgbfaaGreatDoorZParStmts
import Derived.Test.YtoggkigfijgbfaaGreatDoorZParChoice
import Derived.Test.YtoggkigfijgbfaaGreatDoorZParPost
import Derived.Test.YtoggkigfijgbfaaGreatDoorZParOp
namespace Go.Proofs.YtoggkigfijgbfaaGreatDoor.P5
set_option maxRecDepth 20000
open Go.RowKit Go.Maps

/-- What table is to show at the next fuel. -/
def TableAt (n : Nat) : Prop := ∀ {w : World} {p d : Nat} {ts : List Tok}, PAt w p d ts → parseF n .table d ts ≠ .out → Calls Tryz.prog 232 #[pV p] w (Ends p d [p] (parseF n .table d ts) (VE w.heap.size) w)
theorem spec_zero : Spec 0 where
  operation := fun _ _ _ _ _ _ hD => absurd rfl hD
  behind := fun _ _ _ _ _ _ _ _ hD => absurd rfl hD
  operand := fun _ hD => absurd rfl hD
  postExpr := fun _ hD => absurd rfl hD
  primary := fun _ hD => absurd rfl hD
  enclosed := fun _ _ _ _ _ hD => absurd rfl hD
  args := fun _ hD => absurd rfl hD
  function := fun _ hD => absurd rfl hD
  namedFunction := fun _ hD => absurd rfl hD
  body := fun _ _ hD => absurd rfl hD
  table := fun _ hD => absurd rfl hD
  item := fun _ hD => absurd rfl hD
  block := fun _ _ _ hD => absurd rfl hD
  stmts := fun _ hD => absurd rfl hD
  stmt := fun _ hD => absurd rfl hD
  local_ := fun _ _ _ hD => absurd rfl hD
  while_ := fun _ _ _ hD => absurd rfl hD
  count := fun _ _ _ hD => absurd rfl hD
  choice := fun _ _ _ hD => absurd rfl hD
  condition := fun _ _ _ _ _ hD => absurd rfl hD
  result := fun _ _ _ hD => absurd rfl hD
  try_ := fun _ _ _ hD => absurd rfl hD
  post := fun _ _ _ hD => absurd rfl hD
theorem spec_succ {n : Nat} (S : ∀ m, m ≤ n → Spec m) (hn : n ≤ 1099511627776) (hT : TableAt (n + 1)) : Spec (n + 1) where
  operation := fun least k hk h h1 h2 hD => operation_step S least k hk h h1 h2 hD
  behind := fun lo left vl h h1 h2 h3 h4 hD => behind_step (S n (Nat.le_refl _)) lo left vl h h1 h2 h3 h4 hD
  operand := fun h hD => operand_step (S n (Nat.le_refl _)) h hD
  postExpr := fun h hD => postExpr_step S h hD
  primary := fun h hD => primary_step (S n (Nat.le_refl _)) h hD
  enclosed := fun first last hf hl h hD => enclosed_step (S n (Nat.le_refl _)) first last hf hl h hD
  args := fun h hD => args_step S hn h hD
  function := fun h hD => function_step (S n (Nat.le_refl _)) h hD
  namedFunction := fun h hD => namedFunction_step (S n (Nat.le_refl _)) h hD
  body := fun line h hD => body_step S hn line h hD
  table := fun h hD => hT h hD
  item := fun h hD => item_step (S n (Nat.le_refl _)) h hD
  block := fun word hw h hD => block_step (S n (Nat.le_refl _)) word hw h hD
  stmts := fun h hD => stmts_step S hn h hD
  stmt := fun h hD => stmt_step (S n (Nat.le_refl _)) h hD
  local_ := fun h hb hN hD => local_step (S n (Nat.le_refl _)) h hb hN hD
  while_ := fun h hb hN hD => while_step (S n (Nat.le_refl _)) h hb hN hD
  count := fun h hb hN hD => count_step (S n (Nat.le_refl _)) h hb hN hD
  choice := fun h hb hN hD => choice_step S h hb hN hD
  condition := fun word hw h hb hN hD => condition_step (S n (Nat.le_refl _)) word hw h hb hN hD
  result := fun h hb hN hD => result_step (S n (Nat.le_refl _)) h hb hN hD
  try_ := fun h hb hN hD => try_step (S n (Nat.le_refl _)) h hb hN hD
  post := fun h hb hN hD => post_step (S n (Nat.le_refl _)) h hb hN hD
theorem spec_all (hT : ∀ n, n ≤ 1099511627776 → (∀ m, m ≤ n → Spec m) → TableAt (n + 1)) : ∀ n, n ≤ 1099511627776 → ∀ m, m ≤ n → Spec m
  | 0, _, m, hm => by obtain rfl : m = 0 := by omega
                      exact spec_zero
  | n + 1, hn, m, hm => by
    have S := spec_all hT n (by omega)
    rcases Nat.lt_or_ge m (n + 1) with h | h
    · exact S m (by omega)
    · obtain rfl : m = n + 1 := by omega
      exact spec_succ S (by omega) (hT n (by omega) S)
end Go.Proofs.YtoggkigfijgbfaaGreatDoor.P5
