/- Where the names of statements are, as plain functions on trees: functions, their locals, their uses, their names from outside. What no law comes to is .out. No walk, no program. -/
import Derived.Test.YtlbbbfmnghcdnaaScTree
namespace Go.Proofs.Ytlbbbfmnghcdnaa

/-- A local: its name, its register, whether it is boxed. -/
structure LocS where
  name : List UInt8
  reg : Nat
  boxed : Bool
instance : Inhabited LocS := ⟨⟨[], 0, false⟩⟩
/-- A use: where (1 to 3), its index, which local of its own function. -/
structure UseS where
  at_ : Nat
  index : Nat
  own : Option Nat
structure UpS where
  loc : Bool
  index : Nat
  name : List UInt8
/-- A function: all its locals; those that are declared now; its uses; its names from outside. -/
structure FnS where
  locals : List LocS
  full : List Nat
  uses : List UseS
  ups : List UpS
instance : Inhabited FnS := ⟨⟨[], [], [], []⟩⟩
def FnS.new : FnS := ⟨[], [], [], []⟩
structure StS where
  fns : List FnS
  stack : List Nat
  parts : Nat
inductive ResS where
  | out
  | bad (c l : Int)
  | ok (s : StS)
def ResS.bind (r : ResS) (f : StS → ResS) : ResS :=
  match r with
  | .out => .out
  | .bad c l => .bad c l
  | .ok s => f s
/-- Which of the locals i .. are meant by a name: the last one. -/
def namedIn (ls : List LocS) (s : List UInt8) : List Nat → Option Nat
  | [] => none
  | i :: r => match namedIn ls s r with
    | some j => some j
    | none => if (ls.getD i default).name = s then some i else none
def FnS.named (f : FnS) (s : List UInt8) : Option Nat := namedIn f.locals s f.full
/-- Where a name stands among the names from outside. -/
def placeIn (s : List UInt8) : List UpS → Option Nat
  | [] => none
  | u :: r => if u.name = s then some 0 else (placeIn s r).map (· + 1)
def boxL (ls : List LocS) (i : Nat) : List LocS := ls.modify i fun l => { l with boxed := true }
def FnS.box (f : FnS) (i : Nat) : FnS := { f with locals := boxL f.locals i }
def FnS.addUp (f : FnS) (u : UpS) : FnS := { f with ups := f.ups ++ [u] }
def FnS.addUse (f : FnS) (u : UseS) : FnS := { f with uses := f.uses ++ [u] }
def FnS.declare (f : FnS) (s : List UInt8) : FnS := { f with locals := f.locals ++ [⟨s, f.full.length, false⟩], full := f.full ++ [f.locals.length] }
def FnS.back (f : FnS) (n : Nat) : FnS := { f with full := f.full.take n }
/-- What a use means: a fault; or the functions then, and the use. -/
inductive FindS where
  | bad (l : Int)
  | ok (fns : List FnS) (u : UseS)
def outerBox (fns : List FnS) (own : Option Nat) : List Nat → List FnS
  | [] => fns
  | m :: _ => match own with
    | some i => fns.modify m fun f => f.box i
    | none => fns
def findS (s : List UInt8) (l : Int) : List Nat → List FnS → FindS
  | [], fns => .ok fns ⟨3, 0, none⟩
  | n :: rest, fns =>
    match (fns.getD n default).named s with
    | some i => .ok fns ⟨1, ((fns.getD n default).locals.getD i default).reg, some i⟩
    | none => match rest with
      | [] => .ok fns ⟨3, 0, none⟩
      | _ :: _ => match placeIn s (fns.getD n default).ups with
        | some p => .ok fns ⟨2, p, none⟩
        | none => match findS s l rest fns with
          | .bad l => .bad l
          | .ok fns' u => if u.at_ = 3 then .ok fns' u
            else if (fns.getD n default).ups.length = 60 then .bad l
            else .ok ((outerBox fns' u.own rest).modify n fun f => f.addUp ⟨u.own.isSome, u.index, s⟩) ⟨2, (fns.getD n default).ups.length, none⟩
def beginS (l : Int) (st : StS) : ResS := if st.parts = 65536 then .bad 3 l else .ok { st with parts := st.parts + 1 }
def StS.cur (st : StS) : Nat := st.stack.headD 0
def StS.fn (st : StS) : FnS := st.fns.getD st.cur default
def declareS (s : List UInt8) (l : Int) (st : StS) : ResS :=
  if 100 ≤ st.fn.full.length then .bad 3 l
  else if 1048576 ≤ st.fn.locals.length then .out
  else .ok { st with fns := st.fns.modify st.cur fun f => f.declare s }
def useS (s : List UInt8) (l : Int) (st : StS) : ResS :=
  if 1048576 ≤ st.fn.uses.length then .out
  else match findS s l st.stack st.fns with
  | .bad l => .bad 3 l
  | .ok fns u => .ok { st with fns := fns.modify st.cur fun f => f.addUse u }
def backS (n : Nat) (st : StS) : ResS := .ok { st with fns := st.fns.modify st.cur fun f => f.back n }
def declaresS (l : Int) : Tree → StS → ResS
  | .cons (.tx s) r, st => (declareS s l st).bind (declaresS l r)
  | .nil, st => .ok st
  | _, _ => .out
def paramsL : Tree → List (List UInt8)
  | .cons (.tx s) r => s :: paramsL r
  | _ => []
def enterS (st : StS) : StS := { st with fns := st.fns ++ [FnS.new], stack := st.fns.length :: st.stack }
def leaveS (st : StS) : ResS := .ok { st with stack := st.stack.tail }
/-- Is one of the names among those ahead of it? -/
def dupAt (seen : List (List UInt8)) : List (List UInt8) → Bool
  | [] => false
  | s :: r => seen.contains s || dupAt (seen ++ [s]) r
def dupB (l : List (List UInt8)) : Bool := dupAt [] l
/-- A list of texts. -/
def txB : Tree → Bool
  | .nil => true
  | .cons (.tx _) r => txB r
  | _ => false
/-- All texts are short. -/
def shortT : Tree → Prop
  | .nil => True
  | .tx s => s.length ≤ 1099511627776
  | .cons h t => shortT h ∧ shortT t
  | .ex _ _ _ s a b ks xs ps bd => s.length ≤ 1099511627776 ∧ shortT a ∧ shortT b ∧ shortT ks ∧ shortT xs ∧ shortT ps ∧ shortT bd
  | .st _ _ s a b c x y => s.length ≤ 1099511627776 ∧ shortT a ∧ shortT b ∧ shortT c ∧ shortT x ∧ shortT y
def szT : Tree → Nat
  | .nil => 0
  | .tx _ => 0
  | .cons h t => szT h + szT t + 1
  | .ex _ _ _ _ a b ks xs ps bd => szT a + szT b + szT ks + szT xs + szT ps + szT bd + 1
  | .st _ _ _ a b c x y => szT a + szT b + szT c + szT x + szT y + 1
def isExT : Tree → Bool
  | .ex .. => true
  | _ => false
def kindS : Tree → Int
  | .ex k .. => k
  | .st k .. => k
  | _ => 0
/-- Through a statement, an expression, or a list of them. -/
def goS : Tree → StS → ResS
  | .nil, st => .ok st
  | .tx _, _ => .out
  | .cons h t, st => match h with
    | .nil => .out
    | .tx _ => .out
    | .cons .. => .out
    | _ => (goS h st).bind (goS t)
  | .st k l s _ b _ x _, st => (beginS l st).bind fun st =>
    if k = 1 then (match b with
      | .nil => declareS s l st
      | .ex .. => (goS b st).bind (declareS s l)
      | _ => .out)
    else if k = 3 then (match b with
      | .ex 8 .. => goS b st
      | _ => .out)
    else if k = 4 then (goS x st).bind (backS st.fn.full.length)
    else if k = 8 then (match b with
      | .nil => .ok st
      | .ex .. => goS b st
      | _ => .out)
    else .out
  | .ex k l _ s a _ _ xs ps bd, st => (beginS l st).bind fun st =>
    if k = 6 then useS s l st
    else if k = 8 then (match a with
      | .ex .. => (goS a st).bind (goS xs)
      | _ => .out)
    else if k = 9 then (if txB ps = false then .out else if st.fns.length = 256 ∨ 20 < (paramsL ps).length then .bad 3 l
      else if dupB (paramsL ps) = true then .bad 6 l
      else ((declaresS l ps (enterS st)).bind (goS bd)).bind leaveS)
    else .out
def startS : StS := ⟨[FnS.new], [0], 0⟩
/-- All functions of statements, or what is wrong. -/
def resolveS (t : Tree) : ResS := (goS t startS).bind leaveS
end Go.Proofs.Ytlbbbfmnghcdnaa
