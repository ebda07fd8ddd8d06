/- Two laws of a walk: a whole array into the block that was laid last, in one step; and so out of it. -/
import Derived.Test.YteoccfmhpakplaaGreatDoorBase
import Derived.Deep.WholeRow
namespace Go.Proofs.YteoccfmhpakplaaGreatDoor
open Go.RowKit

theorem wpList_store_new {P : Program} {w : World} {ops : Array Oper} {rest : List Oper} {o : Oper} {a : Act} {Q : Exit → Act → World → Prop} (hgd : o.guard = none) (t : TypeId) (p x : Operand) (ho : o.op = Op.store t p x)
    (w0 : World) (c c' : Array Value) (hw : w = w0.alloc (.cells c t)) (hp : a.eval p = .pointer (some ⟨w0.heap.size, 0, none⟩)) (hx : a.eval x = .agg c') (hi : (P.info? t).map (·.size) = some c'.size) (hs : c.size = c'.size) (h1 : c'.all (·.oneCell') = true)
    (h : wpList P ops Q rest (a.put o.dst undef) (w0.alloc (.cells c' t))) : wpList P ops Q (o :: rest) a w := by
  subst hw
  refine wpList_plain hgd fun K' hK' => ?_
  unfold Oper.wp
  simp only [execOp, ho, hp, hx, Sem.run_bind, run_storeAt_new w0 t c c' hi hs h1, Result.andThen]
  exact hK' _ _ h
end Go.Proofs.YteoccfmhpakplaaGreatDoor
