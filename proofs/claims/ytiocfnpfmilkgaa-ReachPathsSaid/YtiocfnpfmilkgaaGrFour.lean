/- The laws' own: of, ints, four. -/
import Derived.Test.YtiocfnpfmilkgaaBase
import Derived.Test.YtiocfnpfmilkgaaGrRefD
namespace Go.Proofs.Ytiocfnpfmilkgaa
set_option maxRecDepth 20000
set_option maxRecDepth 20000
open Go.RowKit Go.Maps

theorem heap_set_ne (w : World) (a : Addr) (v : Value) {k : Nat} (h : k ≠ a.block) : (w.setCell a v).heap[k]? = w.heap[k]? := by
  simp [World.setCell, Array.getElem?_modify, Ne.symm h]
def emptyT : ByteArray := ⟨#[]⟩
def fourL : List OB := [⟨5, 2, [], ⟨#[97]⟩, 0⟩, ⟨6, 1, [(5, 1), (6, 2), (3, 7)], ⟨#[]⟩, 0⟩, ⟨0, 0, [], ⟨#[]⟩, 0⟩, ⟨9, 0, [(5, 1)], ⟨#[]⟩, 0⟩]
end Go.Proofs.Ytiocfnpfmilkgaa
