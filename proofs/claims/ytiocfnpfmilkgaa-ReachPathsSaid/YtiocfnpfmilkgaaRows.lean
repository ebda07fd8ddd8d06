/-
  No cell of these rows narrows 'for every input' (looked for: loops, veiled, ifaces, maps, wideKeys, modest, calm, conditions, laid).
  DERIVED. THE GIVEN ROWS OF THIS SEAT. 9 by the template 'for every input the law returns true; each argument reads behind the call as it read before'; 0 by the template 'total and deterministic' (their statements: YtiocfnpfmilkgaaTotals.lean).
  GIVEN WITH THE SEED: the statements are not yours to turn. If you find one false, say at which input.
  Laid BY PROGRAM, IN A SANDBOX (cutbox-rows.mjs): the forced cells as the released guide's own fill.sh prints them over the translation 65536ae56ded2cd3… (all of the seat's roots in one cut). By AI agents, Wed Nov 11 2026. No macro, syntax, notation, axiom, sorry.
-/
import Derived.Test.YtiocfnpfmilkgaaChecked
import GoSem.Claim
import GoSem.ClaimJoined
import GoSem.ClaimMapViews
import Derived.JoinedTies
import Derived.KernelRfl
namespace Go.Proofs.Ytiocfnpfmilkgaa
/- THE CELL 'sum', in the pinned program and in every row, IS THE sha256 OF THE DUMP (.gsa) THAT YtiocfnpfmilkgaaProg.lean LOADS. Nothing in Lean hashes anything: it is a label: what it is worth is what the hold of that sum in a sandbox is worth. -/
noncomputable def Try.pinned : Pinned := { name := "ytiocfnpfmilkgaa", sum := "65536ae56ded2cd393cf954711aeebacdd1566cbc25eae0e0ad73fd03d975cac", checked := Try.checked }
namespace Rows
def none {H : Type} : Left H := { results := [], args := [] }

/-- 'tallowlaw09.DictLooks': WHATEVER THE INPUT: true; the input reads as it did. -/
def dictLooksSpec : ChangeSpec := { name := "dictLooks", fn := fun _ => fun
  | [d1, d2] => { results := [.lit (.bool true)], args := [d1, d2] }
  | _ => none }
def dictLooksRow : OpenClaim := { program := "ytiocfnpfmilkgaa", sum := "65536ae56ded2cd393cf954711aeebacdd1566cbc25eae0e0ad73fd03d975cac", func := "tallow/tallowlaw09.DictLooks", spec := "dictLooks", unfollowed := true, recurses := true, plainKeys := false, apart := false }
def DictLooksSaid : Prop := dictLooksRow.holds Try.pinned (OpenSpec.ofChange dictLooksSpec)

/-- ITS FALSE NEIGHBOUR: 'it returns false'. Refute it at one input. -/
def dictLooksWrong : ChangeSpec := { name := "dictLooks", fn := fun _ => fun
  | [d1, d2] => { results := [.lit (.bool false)], args := [d1, d2] }
  | _ => none }
def DictLooksWrongFalsely : Prop := dictLooksRow.holds Try.pinned (OpenSpec.ofChange dictLooksWrong)

/-- 'tallowlaw09.DictPuts': WHATEVER THE INPUT: true; the input reads as it did. -/
def dictPutsSpec : ChangeSpec := { name := "dictPuts", fn := fun _ => fun
  | [d1, d2, d3] => { results := [.lit (.bool true)], args := [d1, d2, d3] }
  | _ => none }
def dictPutsRow : OpenClaim := { program := "ytiocfnpfmilkgaa", sum := "65536ae56ded2cd393cf954711aeebacdd1566cbc25eae0e0ad73fd03d975cac", func := "tallow/tallowlaw09.DictPuts", spec := "dictPuts", unfollowed := true, recurses := true, plainKeys := false, apart := false }
def DictPutsSaid : Prop := dictPutsRow.holds Try.pinned (OpenSpec.ofChange dictPutsSpec)

/-- ITS FALSE NEIGHBOUR: 'it returns false'. Refute it at one input. -/
def dictPutsWrong : ChangeSpec := { name := "dictPuts", fn := fun _ => fun
  | [d1, d2, d3] => { results := [.lit (.bool false)], args := [d1, d2, d3] }
  | _ => none }
def DictPutsWrongFalsely : Prop := dictPutsRow.holds Try.pinned (OpenSpec.ofChange dictPutsWrong)

/-- 'tallowlaw09.DictNexts': WHATEVER THE INPUT: true; the input reads as it did. -/
def dictNextsSpec : ChangeSpec := { name := "dictNexts", fn := fun _ => fun
  | [d1, d2] => { results := [.lit (.bool true)], args := [d1, d2] }
  | _ => none }
def dictNextsRow : OpenClaim := { program := "ytiocfnpfmilkgaa", sum := "65536ae56ded2cd393cf954711aeebacdd1566cbc25eae0e0ad73fd03d975cac", func := "tallow/tallowlaw09.DictNexts", spec := "dictNexts", unfollowed := true, recurses := true, plainKeys := false, apart := false }
def DictNextsSaid : Prop := dictNextsRow.holds Try.pinned (OpenSpec.ofChange dictNextsSpec)

/-- ITS FALSE NEIGHBOUR: 'it returns false'. Refute it at one input. -/
def dictNextsWrong : ChangeSpec := { name := "dictNexts", fn := fun _ => fun
  | [d1, d2] => { results := [.lit (.bool false)], args := [d1, d2] }
  | _ => none }
def DictNextsWrongFalsely : Prop := dictNextsRow.holds Try.pinned (OpenSpec.ofChange dictNextsWrong)

/-- 'tallowlaw11.ReachFinds': WHATEVER THE INPUT: true; the input reads as it did. -/
def reachFindsSpec : ChangeSpec := { name := "reachFinds", fn := fun _ => fun
  | [d1, d2] => { results := [.lit (.bool true)], args := [d1, d2] }
  | _ => none }
def reachFindsRow : OpenClaim := { program := "ytiocfnpfmilkgaa", sum := "65536ae56ded2cd393cf954711aeebacdd1566cbc25eae0e0ad73fd03d975cac", func := "tallow/tallowlaw11.ReachFinds", spec := "reachFinds", unfollowed := true, recurses := true, plainKeys := false, apart := false }
def ReachFindsSaid : Prop := reachFindsRow.holds Try.pinned (OpenSpec.ofChange reachFindsSpec)

/-- ITS FALSE NEIGHBOUR: 'it returns false'. Refute it at one input. -/
def reachFindsWrong : ChangeSpec := { name := "reachFinds", fn := fun _ => fun
  | [d1, d2] => { results := [.lit (.bool false)], args := [d1, d2] }
  | _ => none }
def ReachFindsWrongFalsely : Prop := reachFindsRow.holds Try.pinned (OpenSpec.ofChange reachFindsWrong)

/-- 'tallowlaw11.ReachPaths': WHATEVER THE INPUT: true; the input reads as it did. -/
def reachPathsSpec : ChangeSpec := { name := "reachPaths", fn := fun _ => fun
  | [d1, d2, d3] => { results := [.lit (.bool true)], args := [d1, d2, d3] }
  | _ => none }
def reachPathsRow : OpenClaim := { program := "ytiocfnpfmilkgaa", sum := "65536ae56ded2cd393cf954711aeebacdd1566cbc25eae0e0ad73fd03d975cac", func := "tallow/tallowlaw11.ReachPaths", spec := "reachPaths", unfollowed := true, recurses := true, plainKeys := false, apart := false }
def ReachPathsSaid : Prop := reachPathsRow.holds Try.pinned (OpenSpec.ofChange reachPathsSpec)

/-- ITS FALSE NEIGHBOUR: 'it returns false'. Refute it at one input. -/
def reachPathsWrong : ChangeSpec := { name := "reachPaths", fn := fun _ => fun
  | [d1, d2, d3] => { results := [.lit (.bool false)], args := [d1, d2, d3] }
  | _ => none }
def ReachPathsWrongFalsely : Prop := reachPathsRow.holds Try.pinned (OpenSpec.ofChange reachPathsWrong)

/-- 'tallowlaw11.ReachCloses': WHATEVER THE INPUT: true; the input reads as it did. -/
def reachClosesSpec : ChangeSpec := { name := "reachCloses", fn := fun _ => fun
  | [d1, d2] => { results := [.lit (.bool true)], args := [d1, d2] }
  | _ => none }
def reachClosesRow : OpenClaim := { program := "ytiocfnpfmilkgaa", sum := "65536ae56ded2cd393cf954711aeebacdd1566cbc25eae0e0ad73fd03d975cac", func := "tallow/tallowlaw11.ReachCloses", spec := "reachCloses", unfollowed := true, recurses := true, plainKeys := false, apart := false }
def ReachClosesSaid : Prop := reachClosesRow.holds Try.pinned (OpenSpec.ofChange reachClosesSpec)

/-- ITS FALSE NEIGHBOUR: 'it returns false'. Refute it at one input. -/
def reachClosesWrong : ChangeSpec := { name := "reachCloses", fn := fun _ => fun
  | [d1, d2] => { results := [.lit (.bool false)], args := [d1, d2] }
  | _ => none }
def ReachClosesWrongFalsely : Prop := reachClosesRow.holds Try.pinned (OpenSpec.ofChange reachClosesWrong)

/-- 'tallowlaw11.ReachWays': WHATEVER THE INPUT: true; the input reads as it did. -/
def reachWaysSpec : ChangeSpec := { name := "reachWays", fn := fun _ => fun
  | [d1, d2, d3] => { results := [.lit (.bool true)], args := [d1, d2, d3] }
  | _ => none }
def reachWaysRow : OpenClaim := { program := "ytiocfnpfmilkgaa", sum := "65536ae56ded2cd393cf954711aeebacdd1566cbc25eae0e0ad73fd03d975cac", func := "tallow/tallowlaw11.ReachWays", spec := "reachWays", unfollowed := true, recurses := true, plainKeys := false, apart := false }
def ReachWaysSaid : Prop := reachWaysRow.holds Try.pinned (OpenSpec.ofChange reachWaysSpec)

/-- ITS FALSE NEIGHBOUR: 'it returns false'. Refute it at one input. -/
def reachWaysWrong : ChangeSpec := { name := "reachWays", fn := fun _ => fun
  | [d1, d2, d3] => { results := [.lit (.bool false)], args := [d1, d2, d3] }
  | _ => none }
def ReachWaysWrongFalsely : Prop := reachWaysRow.holds Try.pinned (OpenSpec.ofChange reachWaysWrong)

/-- 'tallowlaw11.ReachMore': WHATEVER THE INPUT: true; the input reads as it did. -/
def reachMoreSpec : ChangeSpec := { name := "reachMore", fn := fun _ => fun
  | [d1, d2, d3] => { results := [.lit (.bool true)], args := [d1, d2, d3] }
  | _ => none }
def reachMoreRow : OpenClaim := { program := "ytiocfnpfmilkgaa", sum := "65536ae56ded2cd393cf954711aeebacdd1566cbc25eae0e0ad73fd03d975cac", func := "tallow/tallowlaw11.ReachMore", spec := "reachMore", unfollowed := true, recurses := true, plainKeys := false, apart := false }
def ReachMoreSaid : Prop := reachMoreRow.holds Try.pinned (OpenSpec.ofChange reachMoreSpec)

/-- ITS FALSE NEIGHBOUR: 'it returns false'. Refute it at one input. -/
def reachMoreWrong : ChangeSpec := { name := "reachMore", fn := fun _ => fun
  | [d1, d2, d3] => { results := [.lit (.bool false)], args := [d1, d2, d3] }
  | _ => none }
def ReachMoreWrongFalsely : Prop := reachMoreRow.holds Try.pinned (OpenSpec.ofChange reachMoreWrong)

/-- 'tallowlaw11.ReachKnown': WHATEVER THE INPUT: true; the input reads as it did. -/
def reachKnownSpec : ChangeSpec := { name := "reachKnown", fn := fun _ => fun
  | [] => { results := [.lit (.bool true)], args := [] }
  | _ => none }
def reachKnownRow : OpenClaim := { program := "ytiocfnpfmilkgaa", sum := "65536ae56ded2cd393cf954711aeebacdd1566cbc25eae0e0ad73fd03d975cac", func := "tallow/tallowlaw11.ReachKnown", spec := "reachKnown", unfollowed := true, recurses := true, plainKeys := false, apart := false }
def ReachKnownSaid : Prop := reachKnownRow.holds Try.pinned (OpenSpec.ofChange reachKnownSpec)

/-- ITS FALSE NEIGHBOUR: 'it returns false'. Refute it at one input. -/
def reachKnownWrong : ChangeSpec := { name := "reachKnown", fn := fun _ => fun
  | [] => { results := [.lit (.bool false)], args := [] }
  | _ => none }
def ReachKnownWrongFalsely : Prop := reachKnownRow.holds Try.pinned (OpenSpec.ofChange reachKnownWrong)

/- THE SECOND FORM. 'bulk': how many values and letters a reading holds, each counted each time it is reached (what is shared counts as often as it is met; a slice's spare places count too). A statement '..UptoSaid' is the law's where the arguments, and the package variables that the reading takes, are together of bulk at most 1048576: NARROWER than '..Said'. Prove '..Said' where nothing that the law and all that it calls make is longer than what came in: it says more and counts as full. Else prove '..UptoSaid'. A law counts once. -/
mutual
def uptoBulk {H : Type} : DataW H → Nat
  | .lit (.string bytes) => bytes.length + 1
  | .lit _ => 1
  | .nil => 1
  | .ptr d => uptoBulk d + 1
  | .slice elems spare => uptoBulkAll elems + uptoBulkAll spare + 1
  | .agg parts => uptoBulkAll parts + 1
  | .iface _ d => uptoBulk d + 1
  | .map entries => uptoBulkEntries entries + 1
  | .held _ => 1
def uptoBulkAll {H : Type} : List (DataW H) → Nat
  | [] => 0
  | d :: r => uptoBulk d + uptoBulkAll r
def uptoBulkEntries {H : Type} : List (Lit × DataW H) → Nat
  | [] => 0
  | x :: r => uptoBulkEntry x + uptoBulkEntries r
def uptoBulkEntry {H : Type} : Lit × DataW H → Nat
  | (.string bytes, d) => bytes.length + uptoBulk d + 1
  | (_, d) => uptoBulk d + 1
 end
def uptoSmall : (H : Type) → List (DataW H) → Bool := fun _ ds => decide (uptoBulkAll ds ≤ 1048576)
def OpenSpec.upto (s : _root_.Go.ChangeSpec) : _root_.Go.OpenSpec := { _root_.Go.OpenSpec.ofChange s with cond := some uptoSmall }

/-- 'tallowlaw09.DictLooks', WHERE WHAT IT READS IS OF BULK AT MOST 1048576: true; the input reads as it did. -/
def dictLooksUptoRow : OpenClaim := { program := "ytiocfnpfmilkgaa", sum := "65536ae56ded2cd393cf954711aeebacdd1566cbc25eae0e0ad73fd03d975cac", func := "tallow/tallowlaw09.DictLooks", spec := "dictLooks", unfollowed := true, recurses := true, plainKeys := false, apart := false, narrowed := true }
def DictLooksUptoSaid : Prop := dictLooksUptoRow.holds Try.pinned (OpenSpec.upto dictLooksSpec)

/-- 'tallowlaw09.DictPuts', WHERE WHAT IT READS IS OF BULK AT MOST 1048576: true; the input reads as it did. -/
def dictPutsUptoRow : OpenClaim := { program := "ytiocfnpfmilkgaa", sum := "65536ae56ded2cd393cf954711aeebacdd1566cbc25eae0e0ad73fd03d975cac", func := "tallow/tallowlaw09.DictPuts", spec := "dictPuts", unfollowed := true, recurses := true, plainKeys := false, apart := false, narrowed := true }
def DictPutsUptoSaid : Prop := dictPutsUptoRow.holds Try.pinned (OpenSpec.upto dictPutsSpec)

/-- 'tallowlaw09.DictNexts', WHERE WHAT IT READS IS OF BULK AT MOST 1048576: true; the input reads as it did. -/
def dictNextsUptoRow : OpenClaim := { program := "ytiocfnpfmilkgaa", sum := "65536ae56ded2cd393cf954711aeebacdd1566cbc25eae0e0ad73fd03d975cac", func := "tallow/tallowlaw09.DictNexts", spec := "dictNexts", unfollowed := true, recurses := true, plainKeys := false, apart := false, narrowed := true }
def DictNextsUptoSaid : Prop := dictNextsUptoRow.holds Try.pinned (OpenSpec.upto dictNextsSpec)

/-- 'tallowlaw11.ReachFinds', WHERE WHAT IT READS IS OF BULK AT MOST 1048576: true; the input reads as it did. -/
def reachFindsUptoRow : OpenClaim := { program := "ytiocfnpfmilkgaa", sum := "65536ae56ded2cd393cf954711aeebacdd1566cbc25eae0e0ad73fd03d975cac", func := "tallow/tallowlaw11.ReachFinds", spec := "reachFinds", unfollowed := true, recurses := true, plainKeys := false, apart := false, narrowed := true }
def ReachFindsUptoSaid : Prop := reachFindsUptoRow.holds Try.pinned (OpenSpec.upto reachFindsSpec)

/-- 'tallowlaw11.ReachPaths', WHERE WHAT IT READS IS OF BULK AT MOST 1048576: true; the input reads as it did. -/
def reachPathsUptoRow : OpenClaim := { program := "ytiocfnpfmilkgaa", sum := "65536ae56ded2cd393cf954711aeebacdd1566cbc25eae0e0ad73fd03d975cac", func := "tallow/tallowlaw11.ReachPaths", spec := "reachPaths", unfollowed := true, recurses := true, plainKeys := false, apart := false, narrowed := true }
def ReachPathsUptoSaid : Prop := reachPathsUptoRow.holds Try.pinned (OpenSpec.upto reachPathsSpec)

/-- 'tallowlaw11.ReachCloses', WHERE WHAT IT READS IS OF BULK AT MOST 1048576: true; the input reads as it did. -/
def reachClosesUptoRow : OpenClaim := { program := "ytiocfnpfmilkgaa", sum := "65536ae56ded2cd393cf954711aeebacdd1566cbc25eae0e0ad73fd03d975cac", func := "tallow/tallowlaw11.ReachCloses", spec := "reachCloses", unfollowed := true, recurses := true, plainKeys := false, apart := false, narrowed := true }
def ReachClosesUptoSaid : Prop := reachClosesUptoRow.holds Try.pinned (OpenSpec.upto reachClosesSpec)

/-- 'tallowlaw11.ReachWays', WHERE WHAT IT READS IS OF BULK AT MOST 1048576: true; the input reads as it did. -/
def reachWaysUptoRow : OpenClaim := { program := "ytiocfnpfmilkgaa", sum := "65536ae56ded2cd393cf954711aeebacdd1566cbc25eae0e0ad73fd03d975cac", func := "tallow/tallowlaw11.ReachWays", spec := "reachWays", unfollowed := true, recurses := true, plainKeys := false, apart := false, narrowed := true }
def ReachWaysUptoSaid : Prop := reachWaysUptoRow.holds Try.pinned (OpenSpec.upto reachWaysSpec)

/-- 'tallowlaw11.ReachMore', WHERE WHAT IT READS IS OF BULK AT MOST 1048576: true; the input reads as it did. -/
def reachMoreUptoRow : OpenClaim := { program := "ytiocfnpfmilkgaa", sum := "65536ae56ded2cd393cf954711aeebacdd1566cbc25eae0e0ad73fd03d975cac", func := "tallow/tallowlaw11.ReachMore", spec := "reachMore", unfollowed := true, recurses := true, plainKeys := false, apart := false, narrowed := true }
def ReachMoreUptoSaid : Prop := reachMoreUptoRow.holds Try.pinned (OpenSpec.upto reachMoreSpec)

/-- 'tallowlaw11.ReachKnown', WHERE WHAT IT READS IS OF BULK AT MOST 1048576: true; the input reads as it did. -/
def reachKnownUptoRow : OpenClaim := { program := "ytiocfnpfmilkgaa", sum := "65536ae56ded2cd393cf954711aeebacdd1566cbc25eae0e0ad73fd03d975cac", func := "tallow/tallowlaw11.ReachKnown", spec := "reachKnown", unfollowed := true, recurses := true, plainKeys := false, apart := false, narrowed := true }
def ReachKnownUptoSaid : Prop := reachKnownUptoRow.holds Try.pinned (OpenSpec.upto reachKnownSpec)

end Rows
end Go.Proofs.Ytiocfnpfmilkgaa
