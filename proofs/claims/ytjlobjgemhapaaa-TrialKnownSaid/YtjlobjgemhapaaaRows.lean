/-
  No cell of these rows narrows 'for every input' (looked for: loops, veiled, ifaces, maps, wideKeys, modest, calm, conditions, laid).
  DERIVED. THE GIVEN ROWS OF THIS SEAT. 6 by the template 'for every input the law returns true; each argument reads behind the call as it read before'; 0 by the template 'total and deterministic' (their statements: YtjlobjgemhapaaaTotals.lean).
  GIVEN WITH THE SEED: the statements are not yours to turn. If you find one false, say at which input.
  Laid BY PROGRAM, IN A SANDBOX (cutbox-rows.mjs): the forced cells as the released guide's own fill.sh prints them over the translation 753035a71fcc3e06… (all of the seat's roots in one cut). By AI agents, Wed Nov 11 2026. No macro, syntax, notation, axiom, sorry.
-/
import Derived.Test.YtjlobjgemhapaaaChecked
import GoSem.Claim
import GoSem.ClaimJoined
import GoSem.ClaimMapViews
import Derived.JoinedTies
import Derived.KernelRfl
namespace Go.Proofs.Ytjlobjgemhapaaa
/- THE CELL 'sum', in the pinned program and in every row, IS THE sha256 OF THE DUMP (.gsa) THAT YtjlobjgemhapaaaProg.lean LOADS. Nothing in Lean hashes anything: it is a label: what it is worth is what the hold of that sum in a sandbox is worth. -/
noncomputable def Try.pinned : Pinned := { name := "ytjlobjgemhapaaa", sum := "753035a71fcc3e066802ab71de558a9b04e6226b4f5d8b1fba2078a6ffd9f5e1", checked := Try.checked }
namespace Rows
def none {H : Type} : Left H := { results := [], args := [] }

/-- 'tallowlaw12.TrialSees': WHATEVER THE INPUT: true; the input reads as it did. -/
def trialSeesSpec : ChangeSpec := { name := "trialSees", fn := fun _ => fun
  | [d1, d2] => { results := [.lit (.bool true)], args := [d1, d2] }
  | _ => none }
def trialSeesRow : OpenClaim := { program := "ytjlobjgemhapaaa", sum := "753035a71fcc3e066802ab71de558a9b04e6226b4f5d8b1fba2078a6ffd9f5e1", func := "tallow/tallowlaw12.TrialSees", spec := "trialSees", unfollowed := true, recurses := true, plainKeys := false, apart := false }
def TrialSeesSaid : Prop := trialSeesRow.holds Try.pinned (OpenSpec.ofChange trialSeesSpec)

/-- ITS FALSE NEIGHBOUR: 'it returns false'. Refute it at one input. -/
def trialSeesWrong : ChangeSpec := { name := "trialSees", fn := fun _ => fun
  | [d1, d2] => { results := [.lit (.bool false)], args := [d1, d2] }
  | _ => none }
def TrialSeesWrongFalsely : Prop := trialSeesRow.holds Try.pinned (OpenSpec.ofChange trialSeesWrong)

/-- 'tallowlaw12.TrialGoes': WHATEVER THE INPUT: true; the input reads as it did. -/
def trialGoesSpec : ChangeSpec := { name := "trialGoes", fn := fun _ => fun
  | [d1, d2] => { results := [.lit (.bool true)], args := [d1, d2] }
  | _ => none }
def trialGoesRow : OpenClaim := { program := "ytjlobjgemhapaaa", sum := "753035a71fcc3e066802ab71de558a9b04e6226b4f5d8b1fba2078a6ffd9f5e1", func := "tallow/tallowlaw12.TrialGoes", spec := "trialGoes", unfollowed := true, recurses := true, plainKeys := false, apart := false }
def TrialGoesSaid : Prop := trialGoesRow.holds Try.pinned (OpenSpec.ofChange trialGoesSpec)

/-- ITS FALSE NEIGHBOUR: 'it returns false'. Refute it at one input. -/
def trialGoesWrong : ChangeSpec := { name := "trialGoes", fn := fun _ => fun
  | [d1, d2] => { results := [.lit (.bool false)], args := [d1, d2] }
  | _ => none }
def TrialGoesWrongFalsely : Prop := trialGoesRow.holds Try.pinned (OpenSpec.ofChange trialGoesWrong)

/-- 'tallowlaw12.TrialRight': WHATEVER THE INPUT: true; the input reads as it did. -/
def trialRightSpec : ChangeSpec := { name := "trialRight", fn := fun _ => fun
  | [d1, d2, d3] => { results := [.lit (.bool true)], args := [d1, d2, d3] }
  | _ => none }
def trialRightRow : OpenClaim := { program := "ytjlobjgemhapaaa", sum := "753035a71fcc3e066802ab71de558a9b04e6226b4f5d8b1fba2078a6ffd9f5e1", func := "tallow/tallowlaw12.TrialRight", spec := "trialRight", unfollowed := true, recurses := true, plainKeys := false, apart := false }
def TrialRightSaid : Prop := trialRightRow.holds Try.pinned (OpenSpec.ofChange trialRightSpec)

/-- ITS FALSE NEIGHBOUR: 'it returns false'. Refute it at one input. -/
def trialRightWrong : ChangeSpec := { name := "trialRight", fn := fun _ => fun
  | [d1, d2, d3] => { results := [.lit (.bool false)], args := [d1, d2, d3] }
  | _ => none }
def TrialRightWrongFalsely : Prop := trialRightRow.holds Try.pinned (OpenSpec.ofChange trialRightWrong)

/-- 'tallowlaw12.TrialWhole': WHATEVER THE INPUT: true; the input reads as it did. -/
def trialWholeSpec : ChangeSpec := { name := "trialWhole", fn := fun _ => fun
  | [d] => { results := [.lit (.bool true)], args := [d] }
  | _ => none }
def trialWholeRow : OpenClaim := { program := "ytjlobjgemhapaaa", sum := "753035a71fcc3e066802ab71de558a9b04e6226b4f5d8b1fba2078a6ffd9f5e1", func := "tallow/tallowlaw12.TrialWhole", spec := "trialWhole", unfollowed := true, recurses := true, plainKeys := false, apart := false }
def TrialWholeSaid : Prop := trialWholeRow.holds Try.pinned (OpenSpec.ofChange trialWholeSpec)

/-- ITS FALSE NEIGHBOUR: 'it returns false'. Refute it at one input. -/
def trialWholeWrong : ChangeSpec := { name := "trialWhole", fn := fun _ => fun
  | [d] => { results := [.lit (.bool false)], args := [d] }
  | _ => none }
def TrialWholeWrongFalsely : Prop := trialWholeRow.holds Try.pinned (OpenSpec.ofChange trialWholeWrong)

/-- 'tallowlaw12.TrialKnown': WHATEVER THE INPUT: true; the input reads as it did. -/
def trialKnownSpec : ChangeSpec := { name := "trialKnown", fn := fun _ => fun
  | [] => { results := [.lit (.bool true)], args := [] }
  | _ => none }
def trialKnownRow : OpenClaim := { program := "ytjlobjgemhapaaa", sum := "753035a71fcc3e066802ab71de558a9b04e6226b4f5d8b1fba2078a6ffd9f5e1", func := "tallow/tallowlaw12.TrialKnown", spec := "trialKnown", unfollowed := true, recurses := true, plainKeys := false, apart := false }
def TrialKnownSaid : Prop := trialKnownRow.holds Try.pinned (OpenSpec.ofChange trialKnownSpec)

/-- ITS FALSE NEIGHBOUR: 'it returns false'. Refute it at one input. -/
def trialKnownWrong : ChangeSpec := { name := "trialKnown", fn := fun _ => fun
  | [] => { results := [.lit (.bool false)], args := [] }
  | _ => none }
def TrialKnownWrongFalsely : Prop := trialKnownRow.holds Try.pinned (OpenSpec.ofChange trialKnownWrong)

/-- 'tallowlaw13.CellsCount': WHATEVER THE INPUT: true; the input reads as it did. -/
def cellsCountSpec : ChangeSpec := { name := "cellsCount", fn := fun _ => fun
  | [d] => { results := [.lit (.bool true)], args := [d] }
  | _ => none }
def cellsCountRow : OpenClaim := { program := "ytjlobjgemhapaaa", sum := "753035a71fcc3e066802ab71de558a9b04e6226b4f5d8b1fba2078a6ffd9f5e1", func := "tallow/tallowlaw13.CellsCount", spec := "cellsCount", inPlace := ["slices.overlaps[tallow/pool.span]"], unfollowed := true, recurses := true, plainKeys := false, apart := false }
def CellsCountSaid : Prop := cellsCountRow.holds Try.pinned (OpenSpec.ofChange cellsCountSpec)

/-- ITS FALSE NEIGHBOUR: 'it returns false'. Refute it at one input. -/
def cellsCountWrong : ChangeSpec := { name := "cellsCount", fn := fun _ => fun
  | [d] => { results := [.lit (.bool false)], args := [d] }
  | _ => none }
def CellsCountWrongFalsely : Prop := cellsCountRow.holds Try.pinned (OpenSpec.ofChange cellsCountWrong)

/- THE SECOND FORM. 'bulk': how many values and letters a reading holds, each counted each time it is reached (what is shared counts as often as it is met; a slice's spare places count too). A statement '..UptoSaid' is the law's where the arguments, and the package variables that the reading takes, are together of bulk at most 1048576: NARROWER than '..Said'. Prove '..Said' where nothing that the law and all that it calls make is longer than what came in: it says more and counts as full. Else prove '..UptoSaid'. A law counts once. -/
mutual
def uptoBulk {H : Type} : DataW H → Nat
  | .lit (.string bytes) => bytes.length + 1
  | .lit _ => 1
  | .nil => 1
  | .ptr d => uptoBulk d + 1
  | .slice elems spare => uptoBulkAll elems + uptoBulkAll spare + 1
  | .agg parts => uptoBulkAll parts + 1
  | .iface _ d => uptoBulk d + 1
  | .map entries => uptoBulkEntries entries + 1
  | .held _ => 1
def uptoBulkAll {H : Type} : List (DataW H) → Nat
  | [] => 0
  | d :: r => uptoBulk d + uptoBulkAll r
def uptoBulkEntries {H : Type} : List (Lit × DataW H) → Nat
  | [] => 0
  | x :: r => uptoBulkEntry x + uptoBulkEntries r
def uptoBulkEntry {H : Type} : Lit × DataW H → Nat
  | (.string bytes, d) => bytes.length + uptoBulk d + 1
  | (_, d) => uptoBulk d + 1
 end
def uptoSmall : (H : Type) → List (DataW H) → Bool := fun _ ds => decide (uptoBulkAll ds ≤ 1048576)
def OpenSpec.upto (s : _root_.Go.ChangeSpec) : _root_.Go.OpenSpec := { _root_.Go.OpenSpec.ofChange s with cond := some uptoSmall }

/-- 'tallowlaw12.TrialSees', WHERE WHAT IT READS IS OF BULK AT MOST 1048576: true; the input reads as it did. -/
def trialSeesUptoRow : OpenClaim := { program := "ytjlobjgemhapaaa", sum := "753035a71fcc3e066802ab71de558a9b04e6226b4f5d8b1fba2078a6ffd9f5e1", func := "tallow/tallowlaw12.TrialSees", spec := "trialSees", unfollowed := true, recurses := true, plainKeys := false, apart := false, narrowed := true }
def TrialSeesUptoSaid : Prop := trialSeesUptoRow.holds Try.pinned (OpenSpec.upto trialSeesSpec)

/-- 'tallowlaw12.TrialGoes', WHERE WHAT IT READS IS OF BULK AT MOST 1048576: true; the input reads as it did. -/
def trialGoesUptoRow : OpenClaim := { program := "ytjlobjgemhapaaa", sum := "753035a71fcc3e066802ab71de558a9b04e6226b4f5d8b1fba2078a6ffd9f5e1", func := "tallow/tallowlaw12.TrialGoes", spec := "trialGoes", unfollowed := true, recurses := true, plainKeys := false, apart := false, narrowed := true }
def TrialGoesUptoSaid : Prop := trialGoesUptoRow.holds Try.pinned (OpenSpec.upto trialGoesSpec)

/-- 'tallowlaw12.TrialRight', WHERE WHAT IT READS IS OF BULK AT MOST 1048576: true; the input reads as it did. -/
def trialRightUptoRow : OpenClaim := { program := "ytjlobjgemhapaaa", sum := "753035a71fcc3e066802ab71de558a9b04e6226b4f5d8b1fba2078a6ffd9f5e1", func := "tallow/tallowlaw12.TrialRight", spec := "trialRight", unfollowed := true, recurses := true, plainKeys := false, apart := false, narrowed := true }
def TrialRightUptoSaid : Prop := trialRightUptoRow.holds Try.pinned (OpenSpec.upto trialRightSpec)

/-- 'tallowlaw12.TrialWhole', WHERE WHAT IT READS IS OF BULK AT MOST 1048576: true; the input reads as it did. -/
def trialWholeUptoRow : OpenClaim := { program := "ytjlobjgemhapaaa", sum := "753035a71fcc3e066802ab71de558a9b04e6226b4f5d8b1fba2078a6ffd9f5e1", func := "tallow/tallowlaw12.TrialWhole", spec := "trialWhole", unfollowed := true, recurses := true, plainKeys := false, apart := false, narrowed := true }
def TrialWholeUptoSaid : Prop := trialWholeUptoRow.holds Try.pinned (OpenSpec.upto trialWholeSpec)

/-- 'tallowlaw12.TrialKnown', WHERE WHAT IT READS IS OF BULK AT MOST 1048576: true; the input reads as it did. -/
def trialKnownUptoRow : OpenClaim := { program := "ytjlobjgemhapaaa", sum := "753035a71fcc3e066802ab71de558a9b04e6226b4f5d8b1fba2078a6ffd9f5e1", func := "tallow/tallowlaw12.TrialKnown", spec := "trialKnown", unfollowed := true, recurses := true, plainKeys := false, apart := false, narrowed := true }
def TrialKnownUptoSaid : Prop := trialKnownUptoRow.holds Try.pinned (OpenSpec.upto trialKnownSpec)

/-- 'tallowlaw13.CellsCount', WHERE WHAT IT READS IS OF BULK AT MOST 1048576: true; the input reads as it did. -/
def cellsCountUptoRow : OpenClaim := { program := "ytjlobjgemhapaaa", sum := "753035a71fcc3e066802ab71de558a9b04e6226b4f5d8b1fba2078a6ffd9f5e1", func := "tallow/tallowlaw13.CellsCount", spec := "cellsCount", inPlace := ["slices.overlaps[tallow/pool.span]"], unfollowed := true, recurses := true, plainKeys := false, apart := false, narrowed := true }
def CellsCountUptoSaid : Prop := cellsCountUptoRow.holds Try.pinned (OpenSpec.upto cellsCountSpec)

end Rows
end Go.Proofs.Ytjlobjgemhapaaa
