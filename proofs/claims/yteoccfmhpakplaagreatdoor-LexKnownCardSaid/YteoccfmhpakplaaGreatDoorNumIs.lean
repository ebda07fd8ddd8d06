/- errors.Is by its contracts, at what num.Parse asks: no error, and a *strconv.NumError that wraps the sentinel itself. The world stays as it is. -/
import Derived.Test.YteoccfmhpakplaaGreatDoorBase
import Derived.Test.YteoccfmhpakplaaGreatDoorChecked
import Derived.WalkKit
import Derived.LaidEql
import Derived.Stop.Asserts
import Derived.RowKitTokens
import Derived.Handy
namespace Go.Proofs.YteoccfmhpakplaaGreatDoor
set_option maxRecDepth 20000
open Go.RowKit Go.Extern.Stop Go.Stop Go.Extern
/-- What 'TypeOf(target).Comparable()' makes at a sentinel. -/
theorem isFacts : ∃ b : Addr, (∀ (v : Value) (w : World), (callFunc 56 #[.iface 145 v]).run Tryz.prog w = .ok (.value (.iface 107 (.agg #[.pointer (some b)]))) w) ∧
    ∀ w : World, (callFunc 145 #[.agg #[.pointer (some b)]]).run Tryz.prog w = .ok (.value (.bool true)) w :=
  ⟨⟨Tryz.prog.globals.size, 145, none⟩, fun v w => by kernel_rfl, fun w => by kernel_rfl⟩
theorem isComp : (Tryz.prog.info? 145).map (·.comparable) = some true := by kernel_rfl
theorem isSize : (Tryz.prog.info? 147).map (·.size) = some 1 := by kernel_rfl
theorem noIsN (v : Value) (xT : TypeId) (w : World) : (Instr.typeAssert (.iface 136 v) xT 120 true).run Tryz.prog w = .ok (.tuple #[.nilIface, .bool false]) w := run_typeAssert_lacksB Tryz.underlying120 (by kernel_rfl) (by kernel_rfl) v xT w
theorem hasUnwrapN (v : Value) (xT : TypeId) (w : World) : (Instr.typeAssert (.iface 136 v) xT 114 true).run Tryz.prog w = .ok (.tuple #[.iface 136 v, .bool true]) w := run_typeAssert_hasB Tryz.underlying114 (by kernel_rfl) v xT w
/-- errors.Is(nil, x). -/
theorem is_nil (b : Addr) (w : World) :
    Calls Tryz.prog 27 #[.nilIface, .iface 145 (.pointer (some b))] w fun e w' => e = .returned (.bool false) ∧ w' = w := by
  have hn := run_eql_iface_nil_left (P := Tryz.prog) w 145 (.pointer (some b)) Tryz.underlying24
  go_enter Tryz.func27, Tryz.ntmps27
  go_wp2
  go_ret
  exact ⟨rfl, rfl⟩
theorem is_num_same (pb po : Nat) (b : Addr) (w : World) (h1 : w.cell? ⟨pb, po + 2, none⟩ = some (.iface 145 (.pointer (some b)))) :
    Calls Tryz.prog 27 #[.iface 136 (.pointer (some ⟨pb, po, none⟩)), .iface 145 (.pointer (some b))] w fun e w' => e = .returned (.bool true) ∧ w' = w := by
  obtain ⟨i, hi, hcmp⟩ := Option.map_eq_some_iff.1 isComp
  obtain ⟨j, hj, hjs⟩ := Option.map_eq_some_iff.1 isSize
  obtain ⟨b0, tT, cT⟩ := isFacts
  have nW := noIsN
  have uW := hasUnwrapN
  have heq := run_eql_iface_ptr_same (P := Tryz.prog) w b Tryz.underlying24 Tryz.underlying145 hi hcmp hj
  have hty := run_eql_iface_types (P := Tryz.prog) 136 145 (.pointer (some ⟨pb, po, none⟩)) (.pointer (some b)) Tryz.underlying24 (by decide) w
  go_enter Tryz.func27, Tryz.ntmps27
  go_wp2
  refine wp_loop_rounds 2 ?_
  rw [rounds_succ]
  go_wp2
  rw [rounds_succ]
  go_wp2
  go_ret
  exact ⟨rfl, rfl⟩
end Go.Proofs.YteoccfmhpakplaaGreatDoor
