/-
  No cell of these rows narrows 'for every input' (looked for: loops, veiled, ifaces, maps, wideKeys, modest, calm, conditions, laid).
  DERIVED. THE GIVEN ROWS OF THIS SEAT. 2 by the template 'for every input the law returns true; each argument reads behind the call as it read before'; 0 by the template 'total and deterministic' (their statements: YtlemdgjcpjooiaaTotals.lean).
  GIVEN WITH THE SEED: the statements are not yours to turn. If you find one false, say at which input.
  Laid BY PROGRAM, IN A SANDBOX (cutbox-rows.mjs): the forced cells as the released guide's own fill.sh prints them over the translation bd1727ade614e8cc… (all of the seat's roots in one cut). By AI agents, Wed Nov 11 2026. No macro, syntax, notation, axiom, sorry.
-/
import Derived.Test.YtlemdgjcpjooiaaChecked
import GoSem.Claim
import GoSem.ClaimJoined
import GoSem.ClaimMapViews
import Derived.JoinedTies
import Derived.KernelRfl
namespace Go.Proofs.Ytlemdgjcpjooiaa
/- THE CELL 'sum', in the pinned program and in every row, IS THE sha256 OF THE DUMP (.gsa) THAT YtlemdgjcpjooiaaProg.lean LOADS. Nothing in Lean hashes anything: it is a label: what it is worth is what the hold of that sum in a sandbox is worth. -/
noncomputable def Try.pinned : Pinned := { name := "ytlemdgjcpjooiaa", sum := "bd1727ade614e8cc7796c38551e2db4d347b685e3980cac3c797b2cea17b2484", checked := Try.checked }
namespace Rows
def none {H : Type} : Left H := { results := [], args := [] }

/-- 'tallowlaw07.ScopeFollows': WHATEVER THE INPUT: true; the input reads as it did. -/
def scopeFollowsSpec : ChangeSpec := { name := "scopeFollows", fn := fun _ => fun
  | [d] => { results := [.lit (.bool true)], args := [d] }
  | _ => none }
def scopeFollowsRow : OpenClaim := { program := "ytlemdgjcpjooiaa", sum := "bd1727ade614e8cc7796c38551e2db4d347b685e3980cac3c797b2cea17b2484", func := "tallow/tallowlaw07.ScopeFollows", spec := "scopeFollows", unfollowed := true, recurses := true, apart := false }
def ScopeFollowsSaid : Prop := scopeFollowsRow.holds Try.pinned (OpenSpec.ofChange scopeFollowsSpec)

/-- ITS FALSE NEIGHBOUR: 'it returns false'. Refute it at one input. -/
def scopeFollowsWrong : ChangeSpec := { name := "scopeFollows", fn := fun _ => fun
  | [d] => { results := [.lit (.bool false)], args := [d] }
  | _ => none }
def ScopeFollowsWrongFalsely : Prop := scopeFollowsRow.holds Try.pinned (OpenSpec.ofChange scopeFollowsWrong)

/-- 'tallowlaw07.ScopeNested': WHATEVER THE INPUT: true; the input reads as it did. -/
def scopeNestedSpec : ChangeSpec := { name := "scopeNested", fn := fun _ => fun
  | [d] => { results := [.lit (.bool true)], args := [d] }
  | _ => none }
def scopeNestedRow : OpenClaim := { program := "ytlemdgjcpjooiaa", sum := "bd1727ade614e8cc7796c38551e2db4d347b685e3980cac3c797b2cea17b2484", func := "tallow/tallowlaw07.ScopeNested", spec := "scopeNested", unfollowed := true, recurses := true, apart := false }
def ScopeNestedSaid : Prop := scopeNestedRow.holds Try.pinned (OpenSpec.ofChange scopeNestedSpec)

/-- ITS FALSE NEIGHBOUR: 'it returns false'. Refute it at one input. -/
def scopeNestedWrong : ChangeSpec := { name := "scopeNested", fn := fun _ => fun
  | [d] => { results := [.lit (.bool false)], args := [d] }
  | _ => none }
def ScopeNestedWrongFalsely : Prop := scopeNestedRow.holds Try.pinned (OpenSpec.ofChange scopeNestedWrong)

/- THE SECOND FORM. 'bulk': how many values and letters a reading holds, each counted each time it is reached (what is shared counts as often as it is met; a slice's spare places count too). A statement '..UptoSaid' is the law's where the arguments, and the package variables that the reading takes, are together of bulk at most 1048576: NARROWER than '..Said'. Prove '..Said' where nothing that the law and all that it calls make is longer than what came in: it says more and counts as full. Else prove '..UptoSaid'. A law counts once. -/
mutual
def uptoBulk {H : Type} : DataW H → Nat
  | .lit (.string bytes) => bytes.length + 1
  | .lit _ => 1
  | .nil => 1
  | .ptr d => uptoBulk d + 1
  | .slice elems spare => uptoBulkAll elems + uptoBulkAll spare + 1
  | .agg parts => uptoBulkAll parts + 1
  | .iface _ d => uptoBulk d + 1
  | .map entries => uptoBulkEntries entries + 1
  | .held _ => 1
def uptoBulkAll {H : Type} : List (DataW H) → Nat
  | [] => 0
  | d :: r => uptoBulk d + uptoBulkAll r
def uptoBulkEntries {H : Type} : List (Lit × DataW H) → Nat
  | [] => 0
  | x :: r => uptoBulkEntry x + uptoBulkEntries r
def uptoBulkEntry {H : Type} : Lit × DataW H → Nat
  | (.string bytes, d) => bytes.length + uptoBulk d + 1
  | (_, d) => uptoBulk d + 1
 end
def uptoSmall : (H : Type) → List (DataW H) → Bool := fun _ ds => decide (uptoBulkAll ds ≤ 1048576)
def OpenSpec.upto (s : _root_.Go.ChangeSpec) : _root_.Go.OpenSpec := { _root_.Go.OpenSpec.ofChange s with cond := some uptoSmall }

/-- 'tallowlaw07.ScopeFollows', WHERE WHAT IT READS IS OF BULK AT MOST 1048576: true; the input reads as it did. -/
def scopeFollowsUptoRow : OpenClaim := { program := "ytlemdgjcpjooiaa", sum := "bd1727ade614e8cc7796c38551e2db4d347b685e3980cac3c797b2cea17b2484", func := "tallow/tallowlaw07.ScopeFollows", spec := "scopeFollows", unfollowed := true, recurses := true, apart := false, narrowed := true }
def ScopeFollowsUptoSaid : Prop := scopeFollowsUptoRow.holds Try.pinned (OpenSpec.upto scopeFollowsSpec)

/-- 'tallowlaw07.ScopeNested', WHERE WHAT IT READS IS OF BULK AT MOST 1048576: true; the input reads as it did. -/
def scopeNestedUptoRow : OpenClaim := { program := "ytlemdgjcpjooiaa", sum := "bd1727ade614e8cc7796c38551e2db4d347b685e3980cac3c797b2cea17b2484", func := "tallow/tallowlaw07.ScopeNested", spec := "scopeNested", unfollowed := true, recurses := true, apart := false, narrowed := true }
def ScopeNestedUptoSaid : Prop := scopeNestedUptoRow.holds Try.pinned (OpenSpec.upto scopeNestedSpec)

end Rows
end Go.Proofs.Ytlemdgjcpjooiaa
