/- The document's own: Into, Exact, Holders. -/
import Derived.Test.YtiocfnpfmilkgaaBase
import Derived.Test.YtiocfnpfmilkgaaGrRefB
namespace Go.Proofs.Ytiocfnpfmilkgaa
set_option maxRecDepth 20000
set_option maxRecDepth 20000
open Go.RowKit Go.Maps

def upL (g : List OB) (q : Nat) : List Int := (List.range q).map (fun (i : Nat) => cntF (allRefs g) ((i : Int) + 1))
theorem upL_snoc (g : List OB) (q : Nat) : upL g (q + 1) = upL g q ++ [cntF (allRefs g) ((q : Int) + 1)] := by unfold upL; rw [List.range_succ, List.map_append]; rfl
theorem cnt_step {g : List OB} {i : Nat} {o : OB} (h : g[i]? = some o) (x : Int) : cntF (allRefs (g.take (i + 1))) x = wrap64 (cntF (allRefs (g.take i)) x + ((refsL o.slots).count x : Nat)) := by
  unfold cntF
  rw [allRefs_snoc h, List.count_append, w64_add]
  simp
end Go.Proofs.Ytiocfnpfmilkgaa
