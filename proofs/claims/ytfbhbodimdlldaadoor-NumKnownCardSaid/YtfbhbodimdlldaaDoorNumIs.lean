/- errors.Is by its contracts, at what num.Parse asks: no error, and a *strconv.NumError that wraps the sentinel itself. The world stays as it is. -/
import Derived.Test.YtfbhbodimdlldaaDoorChecked
import Derived.WalkKit
import Derived.LaidEql
import Derived.Stop.Asserts
import Derived.RowKitTokens
import Derived.Handy
namespace Go.Proofs.YtfbhbodimdlldaaDoor
open Go.RowKit Go.Extern.Stop Go.Stop Go.Extern
/-- What 'TypeOf(target).Comparable()' makes at a sentinel. -/
theorem isFacts : ∃ b : Addr, (∀ (v : Value) (w : World), (callFunc 57 #[.iface 105 v]).run Tryd.prog w = .ok (.value (.iface 81 (.agg #[.pointer (some b)]))) w) ∧
    ∀ w : World, (callFunc 106 #[.agg #[.pointer (some b)]]).run Tryd.prog w = .ok (.value (.bool true)) w :=
  ⟨⟨Tryd.prog.globals.size, 105, none⟩, fun v w => by kernel_rfl, fun w => by kernel_rfl⟩
theorem isComp : (Tryd.prog.info? 105).map (·.comparable) = some true := by kernel_rfl
theorem isSize : (Tryd.prog.info? 107).map (·.size) = some 1 := by kernel_rfl
theorem noIsN (v : Value) (xT : TypeId) (w : World) : (Instr.typeAssert (.iface 77 v) xT 83 true).run Tryd.prog w = .ok (.tuple #[.nilIface, .bool false]) w := run_typeAssert_lacksB Tryd.underlying83 (by kernel_rfl) (by kernel_rfl) v xT w
theorem hasUnwrapN (v : Value) (xT : TypeId) (w : World) : (Instr.typeAssert (.iface 77 v) xT 86 true).run Tryd.prog w = .ok (.tuple #[.iface 77 v, .bool true]) w := run_typeAssert_hasB Tryd.underlying86 (by kernel_rfl) v xT w
/-- errors.Is(nil, x). -/
theorem is_nil (b : Addr) (w : World) :
    Calls Tryd.prog 37 #[.nilIface, .iface 105 (.pointer (some b))] w fun e w' => e = .returned (.bool false) ∧ w' = w := by
  have hn := run_eql_iface_nil_left (P := Tryd.prog) w 105 (.pointer (some b)) Tryd.underlying53
  go_enter Tryd.func37, Tryd.ntmps37
  go_wp2
  go_ret
  exact ⟨rfl, rfl⟩
theorem is_num_same (pb po : Nat) (b : Addr) (w : World) (h1 : w.cell? ⟨pb, po + 2, none⟩ = some (.iface 105 (.pointer (some b)))) :
    Calls Tryd.prog 37 #[.iface 77 (.pointer (some ⟨pb, po, none⟩)), .iface 105 (.pointer (some b))] w fun e w' => e = .returned (.bool true) ∧ w' = w := by
  obtain ⟨i, hi, hcmp⟩ := Option.map_eq_some_iff.1 isComp
  obtain ⟨j, hj, hjs⟩ := Option.map_eq_some_iff.1 isSize
  obtain ⟨b0, tT, cT⟩ := isFacts
  have nW := noIsN
  have uW := hasUnwrapN
  have heq := run_eql_iface_ptr_same (P := Tryd.prog) w b Tryd.underlying53 Tryd.underlying105 hi hcmp hj
  have hty := run_eql_iface_types (P := Tryd.prog) 77 105 (.pointer (some ⟨pb, po, none⟩)) (.pointer (some b)) Tryd.underlying53 (by decide) w
  go_enter Tryd.func37, Tryd.ntmps37
  go_wp2
  refine wp_loop_rounds 2 ?_
  rw [rounds_succ]
  go_wp2
  rw [rounds_succ]
  go_wp2
  go_ret
  exact ⟨rfl, rfl⟩
end Go.Proofs.YtfbhbodimdlldaaDoor
