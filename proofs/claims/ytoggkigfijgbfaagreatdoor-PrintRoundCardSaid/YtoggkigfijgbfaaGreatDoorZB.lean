/- A source's statements as plain functions on lists of tokens: trees; the parser, call by call as the program goes, with a fuel. No walk, no program. | Trees in memory; the parser's struct in memory; what a call of the parser leaves as it was. No walk. | The parser's struct in memory: its tokens, how much is open, the strengths. What a call of it leaves: an end by a fault, or a value. No walk. -/
import Derived.Test.YtoggkigfijgbfaaGreatDoorZOldLex
import Derived.Maps.OwnSet
import Derived.Defers
namespace Go.Proofs.YtoggkigfijgbfaaGreatDoor

/-- Expressions, statements, lists of them, and texts. -/
inductive Tree where
  | nil
  | ex (kind line num : Int) (text : List UInt8) (l r keys args params body : Tree)
  | st (kind line : Int) (name : List UInt8) (l r to a b : Tree)
  | cons (h t : Tree)
  | tx (s : List UInt8)
def treeL : List Tree → Tree
  | [] => .nil
  | x :: r => .cons x (treeL r)
def Tree.fst : Tree → Tree
  | .cons h _ => h
  | _ => .nil
def Tree.snd : Tree → Tree
  | .cons _ t => t
  | _ => .nil
/-- What comes of a call: it did not come to its end with so little fuel; a fault; a tree, and the tokens that are left. -/
inductive Res where
  | out
  | bad (c : Int) (line : Nat)
  | ok (x : Tree) (ts : List Tok)
def Res.bind (r : Res) (f : Tree → List Tok → Res) : Res :=
  match r with
  | .out => .out
  | .bad c l => .bad c l
  | .ok x ts => f x ts
def hdT (ts : List Tok) : Tok := match ts with
  | [] => ⟨5, [], 0, 0⟩
  | t :: _ => t
def sgnT (ts : List Tok) : List UInt8 := if (hdT ts).kind = 4 then (hdT ts).text else []
def linT (ts : List Tok) : Nat := (hdT ts).line
/-- The end comes last, and nowhere else. -/
def WFT : List Tok → Prop
  | [] => False
  | [t] => t.kind = 5
  | t :: u :: r => t.kind ≠ 5 ∧ WFT (u :: r)
def wantT (s : List UInt8) (ts : List Tok) : Res := if sgnT ts = s then .ok .nil ts.tail else .bad 4 (linT ts)
def nameT (ts : List Tok) : Res := if (hdT ts).kind = 1 then .ok (.tx (hdT ts).text) ts.tail else .bad 4 (linT ts)
/-- begin: what comes next opens something. -/
def beginT (s : List UInt8) (d : Nat) (ts : List Tok) : Res := if sgnT ts = s ∧ d = 64 then .bad 3 (linT ts) else wantT s ts
def strengthT (s : List UInt8) : Nat :=
  if s = [111, 114] then 1 else if s = [97, 110, 100] then 2
  else if s = [60] then 3 else if s = [60, 61] then 3 else if s = [62] then 3 else if s = [62, 61] then 3 else if s = [61, 61] then 3 else if s = [126, 61] then 3
  else if s = [124] then 4 else if s = [126] then 5 else if s = [38] then 6 else if s = [60, 60] then 7 else if s = [62, 62] then 7
  else if s = [46, 46] then 8 else if s = [43] then 9 else if s = [45] then 9 else if s = [42] then 10 else if s = [47, 47] then 10 else if s = [37] then 10 else 0
def endsT (ts : List Tok) : Bool := sgnT ts == [101, 110, 100] || sgnT ts == [101, 108, 115, 101] || sgnT ts == [101, 108, 115, 101, 105, 102] || sgnT ts == [99, 97, 116, 99, 104] || (hdT ts).kind == 5
def exT (kind : Int) (line : Nat) : Tree := .ex kind line 0 [] .nil .nil .nil .nil .nil .nil
/-- The calls. -/
inductive Goal where
  | operation (least : Nat)
  | opLoop (least : Nat) (left : Tree)
  | behind (left : Tree)
  | operand
  | postExpr
  | postLoop (e : Tree) (enclosed : Bool)
  | list (first last : List UInt8) (k : Nat)
  | listLoop (last : List UInt8) (k : Nat) (acc : List Tree)
  | one (k : Nat)
  | primary
  | enclosed (first last : List UInt8)
  | function
  | namedFunction
  | body (line : Nat)
  | table
  | item
  | block (word : List UInt8)
  | stmts
  | stmtsLoop (acc : List Tree)
  | stmt
  | local_ (line : Nat)
  | while_ (line : Nat)
  | count (line : Nat)
  | choice (word : List UInt8) (line : Nat)
  | condition (line : Nat) (word : List UInt8)
  | result (line : Nat)
  | try_ (line : Nat)
  | post (line : Nat)
def flagT (x : Bool) : Tree := if x then .tx [] else .nil
def isNil : Tree → Bool
  | .nil => true
  | _ => false
def isRet : Tree → Bool
  | .st k _ _ _ _ _ _ _ => k == 8
  | _ => false
def kindT : Tree → Int
  | .ex k _ _ _ _ _ _ _ _ _ => k
  | .st k _ _ _ _ _ _ _ => k
  | _ => 0
def textT : Tree → List UInt8
  | .ex _ _ _ t _ _ _ _ _ _ => t
  | .tx t => t
  | _ => []
def constT (s : List UInt8) : Int := if s = [110, 105, 108] then 1 else if s = [116, 114, 117, 101] then 2 else if s = [102, 97, 108, 115, 101] then 3 else 0
def wordT (ts : List Tok) : Res :=
  if (hdT ts).kind = 1 then .ok (.ex 6 (linT ts) 0 (hdT ts).text .nil .nil .nil .nil .nil .nil) ts.tail
  else if (hdT ts).kind = 2 then .ok (.ex 4 (linT ts) (hdT ts).num [] .nil .nil .nil .nil .nil .nil) ts.tail
  else if (hdT ts).kind = 3 then .ok (.ex 5 (linT ts) 0 (hdT ts).text .nil .nil .nil .nil .nil .nil) ts.tail
  else if constT (sgnT ts) = 0 then .bad 4 (linT ts) else .ok (exT (constT (sgnT ts)) (linT ts)) ts.tail
def namedT (kind : Int) (ts : List Tok) : Res := (nameT ts).bind fun x ts2 => .ok (.ex kind (linT ts) 0 (textT x) .nil .nil .nil .nil .nil .nil) ts2
def secondT (ts : List Tok) : Tok := hdT ts.tail
def withB : Tree → Tree → Tree
  | .st k l n a b c d _, e => .st k l n a b c d e
  | x, _ => x
def firstsT : Tree → Tree
  | .cons x r => .cons x.fst (firstsT r)
  | _ => .nil
def secondsT : Tree → Tree
  | .cons x r => .cons x.snd (secondsT r)
  | _ => .nil
def parseF : Nat → Goal → Nat → List Tok → Res
  | 0, _, _, _ => .out
  | n + 1, g, d, ts =>
    match g with
    | .operation least => (parseF n .operand d ts).bind fun e ts => parseF n (.opLoop least e) d ts
    | .opLoop least e => if least ≤ strengthT (sgnT ts) then (parseF n (.behind e) d ts).bind fun e ts => parseF n (.opLoop least e) d ts else .ok e ts
    | .behind l =>
      if sgnT ts = [46, 46] then (beginT [46, 46] d ts).bind fun _ ts2 => (parseF n (.operation 8) (d + 1) ts2).bind fun r ts3 => .ok (.ex 11 (linT ts) 0 (sgnT ts) l r .nil .nil .nil .nil) ts3
      else (wantT (sgnT ts) ts).bind fun _ ts2 => (parseF n (.operation (strengthT (sgnT ts) + 1)) d ts2).bind fun r ts3 => .ok (.ex 11 (linT ts) 0 (sgnT ts) l r .nil .nil .nil .nil) ts3
    | .operand =>
      if sgnT ts = [110, 111, 116] ∨ sgnT ts = [45] ∨ sgnT ts = [35] ∨ sgnT ts = [126] then
        (beginT (sgnT ts) d ts).bind fun _ ts2 => (parseF n .operand (d + 1) ts2).bind fun r ts3 => .ok (.ex 10 (linT ts) 0 (sgnT ts) .nil r .nil .nil .nil .nil) ts3
      else (parseF n .postExpr d ts).bind fun x ts2 => .ok x.snd ts2
    | .postExpr => (parseF n .primary d ts).bind fun e ts2 => parseF n (.postLoop e (decide (sgnT ts = [40]))) d ts2
    | .postLoop e enc =>
      if sgnT ts = [91] then (parseF n (.enclosed [91] [93]) d ts).bind fun x ts2 => parseF n (.postLoop (.ex 7 (linT ts) 0 [] e x .nil .nil .nil .nil) false) d ts2
      else if sgnT ts = [46] then (namedT 5 ts.tail).bind fun x ts2 => parseF n (.postLoop (.ex 7 (linT ts) 0 [] e x .nil .nil .nil .nil) false) d ts2
      else if sgnT ts = [40] then (parseF n (.list [40] [41] 0) d ts).bind fun x ts2 => parseF n (.postLoop (.ex 8 (linT ts) 0 [] e .nil .nil x .nil .nil) false) d ts2
      else .ok (.cons (flagT enc) e) ts
    | .list first last k => (beginT first d ts).bind fun _ ts2 =>
      if sgnT ts2 = last then (wantT last ts2).bind fun _ ts3 => .ok .nil ts3
      else (parseF n (.one k) (d + 1) ts2).bind fun x ts3 => parseF n (.listLoop last k [x]) (d + 1) ts3
    | .listLoop last k acc => if sgnT ts = [44] then (parseF n (.one k) d ts.tail).bind fun x ts2 => parseF n (.listLoop last k (acc ++ [x])) d ts2
      else (wantT last ts).bind fun _ ts2 => .ok (treeL acc) ts2
    | .one k => if k = 0 then parseF n (.operation 1) d ts else if k = 1 then nameT ts else parseF n .item d ts
    | .primary =>
      if sgnT ts = [40] then parseF n (.enclosed [40] [41]) d ts
      else if sgnT ts = [102, 117, 110, 99, 116, 105, 111, 110] then parseF n .function d ts
      else if sgnT ts = [123] then parseF n .table d ts
      else wordT ts
    | .enclosed first last => (beginT first d ts).bind fun _ ts2 => (parseF n (.operation 1) (d + 1) ts2).bind fun e ts3 => (wantT last ts3).bind fun _ ts4 => .ok e ts4
    | .function => (beginT [102, 117, 110, 99, 116, 105, 111, 110] d ts).bind fun _ ts2 => parseF n (.body (linT ts)) (d + 1) ts2
    | .namedFunction => (beginT [102, 117, 110, 99, 116, 105, 111, 110] d ts).bind fun _ ts2 => (namedT 6 ts2).bind fun m ts3 => (parseF n (.body (linT ts)) (d + 1) ts3).bind fun f ts4 => .ok (.cons m f) ts4
    | .body line => (parseF n (.list [40] [41] 1) d ts).bind fun ps ts2 => (parseF n .stmts d ts2).bind fun bd ts3 => (wantT [101, 110, 100] ts3).bind fun _ ts4 => .ok (.ex 9 line 0 [] .nil .nil .nil .nil ps bd) ts4
    | .table => (parseF n (.list [123] [125] 2) d ts).bind fun x ts2 => .ok (.ex 12 (linT ts) 0 [] .nil .nil (firstsT x) (secondsT x) .nil .nil) ts2
    | .item =>
      if sgnT ts = [91] then (parseF n (.enclosed [91] [93]) d ts).bind fun k ts2 => (wantT [61] ts2).bind fun _ ts3 => (parseF n (.operation 1) d ts3).bind fun x ts4 => .ok (.cons k x) ts4
      else if (hdT ts).kind = 1 ∧ (secondT ts).kind = 4 ∧ (secondT ts).text = [61] then (namedT 5 ts).bind fun k ts2 => (wantT [61] ts2).bind fun _ ts3 => (parseF n (.operation 1) d ts3).bind fun x ts4 => .ok (.cons k x) ts4
      else (parseF n (.operation 1) d ts).bind fun x ts2 => .ok (.cons .nil x) ts2
    | .block word => (beginT word d ts).bind fun _ ts2 => parseF n .stmts (d + 1) ts2
    | .stmts => parseF n (.stmtsLoop []) d ts
    | .stmtsLoop acc => if endsT ts = true then .ok (treeL acc) ts
      else (parseF n .stmt d ts).bind fun s ts2 => if isRet s = true then .ok (treeL (acc ++ [s])) ts2 else parseF n (.stmtsLoop (acc ++ [s])) d ts2
    | .stmt =>
      if sgnT ts = [108, 111, 99, 97, 108] then parseF n (.local_ (linT ts)) d ts
      else if sgnT ts = [100, 111] then (parseF n (.block [100, 111]) d ts).bind fun a ts2 => (wantT [101, 110, 100] ts2).bind fun _ ts3 => .ok (.st 4 (linT ts) [] .nil .nil .nil a .nil) ts3
      else if sgnT ts = [119, 104, 105, 108, 101] then parseF n (.while_ (linT ts)) d ts
      else if sgnT ts = [102, 111, 114] then parseF n (.count (linT ts)) d ts
      else if sgnT ts = [105, 102] then parseF n (.choice [105, 102] (linT ts)) d ts
      else if sgnT ts = [114, 101, 116, 117, 114, 110] then parseF n (.result (linT ts)) d ts
      else if sgnT ts = [98, 114, 101, 97, 107] then .ok (.st 9 (linT ts) [] .nil .nil .nil .nil .nil) ts.tail
      else if sgnT ts = [116, 114, 121] then parseF n (.try_ (linT ts)) d ts
      else if sgnT ts = [102, 117, 110, 99, 116, 105, 111, 110] ∧ (secondT ts).kind = 1 then (parseF n .namedFunction d ts).bind fun x ts2 => .ok (.st 2 (linT ts) [] x.fst x.snd .nil .nil .nil) ts2
      else parseF n (.post (linT ts)) d ts
    | .local_ line => (wantT [108, 111, 99, 97, 108] ts).bind fun _ ts2 =>
      if sgnT ts2 = [102, 117, 110, 99, 116, 105, 111, 110] then (parseF n .namedFunction d ts2).bind fun x ts3 => .ok (.st 11 line (textT x.fst) .nil x.snd .nil .nil .nil) ts3
      else (nameT ts2).bind fun m ts3 => if sgnT ts3 = [61] then (parseF n (.operation 1) d ts3.tail).bind fun e ts4 => .ok (.st 1 line (textT m) .nil e .nil .nil .nil) ts4 else .ok (.st 1 line (textT m) .nil .nil .nil .nil .nil) ts3
    | .while_ line => (wantT [119, 104, 105, 108, 101] ts).bind fun _ ts2 => (parseF n (.operation 1) d ts2).bind fun e ts3 => (parseF n (.block [100, 111]) d ts3).bind fun a ts4 => (wantT [101, 110, 100] ts4).bind fun _ ts5 => .ok (.st 5 line [] .nil e .nil a .nil) ts5
    | .count line => (wantT [102, 111, 114] ts).bind fun _ ts2 => (nameT ts2).bind fun m ts3 => (wantT [61] ts3).bind fun _ ts4 => (parseF n (.operation 1) d ts4).bind fun e ts5 => (wantT [44] ts5).bind fun _ ts6 =>
      (parseF n (.operation 1) d ts6).bind fun e2 ts7 => (parseF n (.block [100, 111]) d ts7).bind fun a ts8 => (wantT [101, 110, 100] ts8).bind fun _ ts9 => .ok (.st 7 line (textT m) .nil e e2 a .nil) ts9
    | .choice word line => (parseF n (.condition line word) d ts).bind fun s ts2 =>
      if sgnT ts2 = [101, 108, 115, 101, 105, 102] then (parseF n (.choice [101, 108, 115, 101, 105, 102] (linT ts2)) d ts2).bind fun x ts3 => .ok (withB s (.cons x .nil)) ts3
      else if sgnT ts2 = [101, 108, 115, 101] then (parseF n (.block [101, 108, 115, 101]) d ts2).bind fun e ts3 => (wantT [101, 110, 100] ts3).bind fun _ ts4 => .ok (withB s e) ts4
      else (wantT [101, 110, 100] ts2).bind fun _ ts4 => .ok s ts4
    | .condition line word => (wantT word ts).bind fun _ ts2 => (parseF n (.operation 1) d ts2).bind fun e ts3 => (parseF n (.block [116, 104, 101, 110]) d ts3).bind fun a ts4 => .ok (.st 6 line [] .nil e .nil a .nil) ts4
    | .result line => (wantT [114, 101, 116, 117, 114, 110] ts).bind fun _ ts2 => if endsT ts2 = true then .ok (.st 8 line [] .nil .nil .nil .nil .nil) ts2 else (parseF n (.operation 1) d ts2).bind fun e ts3 => .ok (.st 8 line [] .nil e .nil .nil .nil) ts3
    | .try_ line => (parseF n (.block [116, 114, 121]) d ts).bind fun a ts2 => (beginT [99, 97, 116, 99, 104] d ts2).bind fun _ ts3 => (nameT ts3).bind fun m ts4 => (parseF n .stmts (d + 1) ts4).bind fun e ts5 => (wantT [101, 110, 100] ts5).bind fun _ ts6 => .ok (.st 10 line (textT m) .nil .nil .nil a e) ts6
    | .post line => (parseF n .postExpr d ts).bind fun x ts2 =>
      if isNil x.fst = false then .bad 4 (linT ts2)
      else if kindT x.snd = 8 then .ok (.st 3 line [] .nil x.snd .nil .nil .nil) ts2
      else if kindT x.snd = 6 ∨ kindT x.snd = 7 then (wantT [61] ts2).bind fun _ ts3 => (parseF n (.operation 1) d ts3).bind fun e ts4 => .ok (.st 2 line [] x.snd e .nil .nil .nil) ts4
      else .bad 4 (linT ts2)
end Go.Proofs.YtoggkigfijgbfaaGreatDoor
namespace Go.Proofs.YtoggkigfijgbfaaGreatDoor
set_option maxRecDepth 20000
open Go.RowKit

abbrev iV (n : Int) : Value := .int .i64 n
abbrev sV (l : List UInt8) : Value := .string ⟨l.toArray⟩
abbrev pV (b : Nat) : Value := .pointer (some ⟨b, 0, none⟩)

/-- All blocks but those of E are as they were; what is new is besides. -/
structure Past (E : List Nat) (w w' : World) : Prop where
  os : w'.os = w.os
  tape : w'.tape = w.tape
  output : w'.output = w.output
  size : w.heap.size ≤ w'.heap.size
  block : ∀ k, k < w.heap.size → k ∉ E → w'.heap[k]? = w.heap[k]?
theorem Past.refl (E : List Nat) (w : World) : Past E w w := ⟨rfl, rfl, rfl, Nat.le_refl _, fun _ _ _ => rfl⟩
theorem Past.trans {E : List Nat} {a b c : World} (h : Past E a b) (k : Past E b c) : Past E a c :=
  ⟨k.os.trans h.os, k.tape.trans h.tape, k.output.trans h.output, Nat.le_trans h.size k.size, fun i hi hE => (k.block i (Nat.lt_of_lt_of_le hi h.size) hE).trans (h.block i hi hE)⟩
/-- What comes behind may touch what is new, too. -/
theorem Past.then {E F : List Nat} {a b c : World} (h : Past E a b) (k : Past F b c) (hF : ∀ i, i ∈ F → i ∈ E ∨ a.heap.size ≤ i) : Past E a c :=
  ⟨k.os.trans h.os, k.tape.trans h.tape, k.output.trans h.output, Nat.le_trans h.size k.size, fun i hi hE => (k.block i (Nat.lt_of_lt_of_le hi h.size) (fun hi' => (hF i hi').elim hE (by omega))).trans (h.block i hi hE)⟩
theorem Past.mono {E F : List Nat} {w w' : World} (h : Past E w w') (hE : ∀ i, i ∈ E → i ∈ F) : Past F w w' := ⟨h.os, h.tape, h.output, h.size, fun k hk hF => h.block k hk (fun hE' => hF (hE k hE'))⟩
theorem Past.drew {E : List Nat} {a w : World} (h : Past E a w) : Past E a w.drew := ⟨h.os, h.tape, h.output, h.size, h.block⟩
theorem Past.alloc {E : List Nat} {a w : World} (h : Past E a w) (o : Obj) : Past E a (w.alloc o) :=
  h.trans ⟨rfl, rfl, rfl, by simp, fun k hk _ => Below.heap_alloc _ _ _ hk⟩
theorem Past.setCell {E : List Nat} {a w : World} (h : Past E a w) {p : Addr} (hp : p.block ∈ E ∨ a.heap.size ≤ p.block) (u : Value) : Past E a (w.setCell p u) :=
  h.then (F := [p.block]) ⟨rfl, rfl, rfl, by simp [World.setCell], fun k _ hk => Below.heap_setCell _ _ _ _ (by simpa using hk)⟩ (by simpa using hp)
theorem Past.below {E : List Nat} {a b c : World} (h : Past E a b) (k : Below b.heap.size b c) : Past E a c :=
  h.trans ⟨k.os, k.tape, k.output, k.size, fun i hi _ => k.block i hi⟩
theorem past_of_below {E : List Nat} {b c : World} (k : Below b.heap.size b c) : Past E b c := (Past.refl E b).below k
theorem Past.grown {E : List Nat} {a w w' : World} {row : Option Nat} (h : Past E a w) (hg : w.grownBy w' row) (hr : ∀ k, row = some k → k ∈ E ∨ a.heap.size ≤ k) : Past E a w' :=
  ⟨hg.os.trans h.os, hg.tape.trans h.tape, hg.output.trans h.output, Nat.le_trans h.size hg.size, fun i hi hE => (hg.block i (Nat.lt_of_lt_of_le hi h.size) (fun e => (hr i e.symm).elim hE (by omega))).trans (h.block i hi hE)⟩
theorem Past.toBelow {E : List Nat} {B : Nat} {w w' : World} (h : Past E w w') (hB : B ≤ w.heap.size) (hE : ∀ i, i ∈ E → B ≤ i) : Below B w w' :=
  ⟨h.os, h.tape, h.output, h.size, fun k hk => h.block k (by omega) (fun he => by have := hE k he; omega)⟩
theorem Past.cell {E : List Nat} {w w' : World} (h : Past E w w') {p : Addr} (hp : p.block < w.heap.size) (hE : p.block ∉ E) : w'.cell? p = w.cell? p := World.cell?_of_block (h.block p.block hp hE)
theorem Past.frozen {E : List Nat} {w w' : World} (h : Past E w w') {p : Addr} (hp : p.block < w.heap.size) (hE : p.block ∉ E) : w'.frozen? p = w.frozen? p := World.frozen?_of_block (h.block p.block hp hE)
theorem Past.cell_some {E : List Nat} {w w' : World} (h : Past E w w') {p : Addr} {v : Value} (hv : w.cell? p = some v) (hE : p.block ∉ E) : w'.cell? p = some v := (h.cell (World.block_lt_of_cell? w p hv) hE).trans hv

/-- The cells of an expression. -/
structure ExC (w : World) (g : Nat) (k l n : Int) (s : List UInt8) (va vb vk vs vp vy : Value) : Prop where
  c0 : w.cell? ⟨g, 0, none⟩ = some (iV k)
  c1 : w.cell? ⟨g, 1, none⟩ = some (iV l)
  c2 : w.cell? ⟨g, 2, none⟩ = some (iV n)
  c3 : w.cell? ⟨g, 3, none⟩ = some (sV s)
  c4 : w.cell? ⟨g, 4, none⟩ = some va
  c5 : w.cell? ⟨g, 5, none⟩ = some vb
  c6 : w.cell? ⟨g, 6, none⟩ = some vk
  c7 : w.cell? ⟨g, 7, none⟩ = some vs
  c8 : w.cell? ⟨g, 8, none⟩ = some vp
  c9 : w.cell? ⟨g, 9, none⟩ = some vy
  warm : ∀ o, w.frozen? ⟨g, o, none⟩ = false
/-- The cells of a statement. -/
structure StC (w : World) (g : Nat) (k l : Int) (s : List UInt8) (va vb vo vx vy : Value) : Prop where
  c0 : w.cell? ⟨g, 0, none⟩ = some (iV k)
  c1 : w.cell? ⟨g, 1, none⟩ = some (iV l)
  c2 : w.cell? ⟨g, 2, none⟩ = some (sV s)
  c3 : w.cell? ⟨g, 3, none⟩ = some va
  c4 : w.cell? ⟨g, 4, none⟩ = some vb
  c5 : w.cell? ⟨g, 5, none⟩ = some vo
  c6 : w.cell? ⟨g, 6, none⟩ = some vx
  c7 : w.cell? ⟨g, 7, none⟩ = some vy
  warm : ∀ o, w.frozen? ⟨g, o, none⟩ = false
theorem ExC.keep {w w' : World} {g : Nat} {k l n : Int} {s : List UInt8} {va vb vk vs vp vy : Value} (h : ExC w g k l n s va vb vk vs vp vy) (hb : w'.heap[g]? = w.heap[g]?) : ExC w' g k l n s va vb vk vs vp vy := by
  have H : ∀ o, w'.cell? ⟨g, o, none⟩ = w.cell? ⟨g, o, none⟩ := fun o => World.cell?_of_block (a := ⟨g, o, none⟩) hb
  have F : ∀ o, w'.frozen? ⟨g, o, none⟩ = w.frozen? ⟨g, o, none⟩ := fun o => World.frozen?_of_block (a := ⟨g, o, none⟩) hb
  exact ⟨(H 0).trans h.c0, (H 1).trans h.c1, (H 2).trans h.c2, (H 3).trans h.c3, (H 4).trans h.c4, (H 5).trans h.c5, (H 6).trans h.c6, (H 7).trans h.c7, (H 8).trans h.c8, (H 9).trans h.c9, fun o => (F o).trans (h.warm o)⟩
theorem StC.keep {w w' : World} {g : Nat} {k l : Int} {s : List UInt8} {va vb vo vx vy : Value} (h : StC w g k l s va vb vo vx vy) (hb : w'.heap[g]? = w.heap[g]?) : StC w' g k l s va vb vo vx vy := by
  have H : ∀ o, w'.cell? ⟨g, o, none⟩ = w.cell? ⟨g, o, none⟩ := fun o => World.cell?_of_block (a := ⟨g, o, none⟩) hb
  have F : ∀ o, w'.frozen? ⟨g, o, none⟩ = w.frozen? ⟨g, o, none⟩ := fun o => World.frozen?_of_block (a := ⟨g, o, none⟩) hb
  exact ⟨(H 0).trans h.c0, (H 1).trans h.c1, (H 2).trans h.c2, (H 3).trans h.c3, (H 4).trans h.c4, (H 5).trans h.c5, (H 6).trans h.c6, (H 7).trans h.c7, fun o => (F o).trans (h.warm o)⟩
theorem ExC.lt {w : World} {g : Nat} {k l n : Int} {s : List UInt8} {va vb vk vs vp vy : Value} (h : ExC w g k l n s va vb vk vs vp vy) : g < w.heap.size := World.block_lt_of_cell? w _ h.c0
theorem StC.lt {w : World} {g : Nat} {k l : Int} {s : List UInt8} {va vb vo vx vy : Value} (h : StC w g k l s va vb vo vx vy) : g < w.heap.size := World.block_lt_of_cell? w _ h.c0

def lenT : Tree → Nat
  | .cons _ t => lenT t + 1
  | _ => 0
mutual
/-- What a value reads as: an expression, a statement, a text; all its blocks are of S. -/
def At (w : World) (S : Nat → Prop) : Tree → Value → Prop
  | .nil, v => v = .pointer none
  | .ex k l n s a b ks xs ps bd, v => ∃ g va vb Ak ck Ax cx Ap cp Ab cb, v = pV g ∧ S g ∧
      ExC w g k l n s va vb (.slice Ak (lenT ks) ck) (.slice Ax (lenT xs) cx) (.slice Ap (lenT ps) cp) (.slice Ab (lenT bd) cb) ∧
      At w S a va ∧ At w S b vb ∧ RowT w S ks Ak 0 ∧ RowT w S xs Ax 0 ∧ RowT w S ps Ap 0 ∧ RowT w S bd Ab 0
  | .st k l s a b c x y, v => ∃ g va vb vc Ax cx Ay cy, v = pV g ∧ S g ∧
      StC w g k l s va vb vc (.slice Ax (lenT x) cx) (.slice Ay (lenT y) cy) ∧
      At w S a va ∧ At w S b vb ∧ At w S c vc ∧ RowT w S x Ax 0 ∧ RowT w S y Ay 0
  | .cons _ _, _ => False
  | .tx s, v => v = sV s
/-- The elements of a slice. -/
def RowT (w : World) (S : Nat → Prop) : Tree → Option Addr → Nat → Prop
  | .cons h t, A, i => ∃ g x, A = some ⟨g, 0, none⟩ ∧ S g ∧ w.cell? ⟨g, i, none⟩ = some x ∧ At w S h x ∧ RowT w S t A (i + 1)
  | _, _, _ => True
end
/-- A slice that reads as a list of trees. -/
def Sl (w : World) (S : Nat → Prop) (t : Tree) (v : Value) : Prop := ∃ A c, v = .slice A (lenT t) c ∧ RowT w S t A 0
theorem at_keep {w w' : World} {S S' : Nat → Prop} (h : ∀ g, S g → S' g ∧ w'.heap[g]? = w.heap[g]?) (t : Tree) : (∀ v, At w S t v → At w' S' t v) ∧ (∀ A i, RowT w S t A i → RowT w' S' t A i) := by
  induction t with
  | nil => exact ⟨fun v hv => hv, fun _ _ _ => trivial⟩
  | tx s => exact ⟨fun v hv => hv, fun _ _ _ => trivial⟩
  | ex k l n s a b ks xs ps bd ia ib ik ix ip iy =>
    refine ⟨?_, fun _ _ _ => trivial⟩
    rintro v ⟨g, va, vb, Ak, ck, Ax, cx, Ap, cp, Ab, cb, rfl, hS, hc, h1, h2, h3, h4, h5, h6⟩
    exact ⟨g, va, vb, Ak, ck, Ax, cx, Ap, cp, Ab, cb, rfl, (h g hS).1, hc.keep (h g hS).2, ia.1 _ h1, ib.1 _ h2, ik.2 _ _ h3, ix.2 _ _ h4, ip.2 _ _ h5, iy.2 _ _ h6⟩
  | st k l s a b c x y ia ib ic ix iy =>
    refine ⟨?_, fun _ _ _ => trivial⟩
    rintro v ⟨g, va, vb, vc, Ax, cx, Ay, cy, rfl, hS, hc, h1, h2, h3, h4, h5⟩
    exact ⟨g, va, vb, vc, Ax, cx, Ay, cy, rfl, (h g hS).1, hc.keep (h g hS).2, ia.1 _ h1, ib.1 _ h2, ic.1 _ h3, ix.2 _ _ h4, iy.2 _ _ h5⟩
  | cons x r ix ir =>
    refine ⟨fun v hv => hv.elim, ?_⟩
    rintro A i ⟨g, y, rfl, hS, hc, h1, h2⟩
    exact ⟨g, y, rfl, (h g hS).1, (World.cell?_of_block (a := ⟨g, i, none⟩) (h g hS).2).trans hc, ix.1 _ h1, ir.2 _ _ h2⟩
theorem Sl.keep {w w' : World} {S S' : Nat → Prop} (h : ∀ g, S g → S' g ∧ w'.heap[g]? = w.heap[g]?) {t : Tree} {v : Value} (hs : Sl w S t v) : Sl w' S' t v := by
  obtain ⟨A, c, rfl, hr⟩ := hs
  exact ⟨A, c, rfl, (at_keep h t).2 _ _ hr⟩
theorem sl_nil (w : World) (S : Nat → Prop) : Sl w S .nil (.slice none 0 0) := ⟨none, 0, rfl, trivial⟩
/-- Blocks from lo on, up to now. -/
def Since (lo : Nat) (w : World) (k : Nat) : Prop := lo ≤ k ∧ k < w.heap.size
abbrev AtS (lo : Nat) (w : World) (t : Tree) (v : Value) : Prop := At w (Since lo w) t v
abbrev SlS (lo : Nat) (w : World) (t : Tree) (v : Value) : Prop := Sl w (Since lo w) t v
theorem since_past {E : List Nat} {lo lo' : Nat} {w w' : World} (h : Past E w w') (hE : ∀ i, i ∈ E → i < lo ∨ w.heap.size ≤ i) (hl : lo' ≤ lo) : ∀ g, Since lo w g → Since lo' w' g ∧ w'.heap[g]? = w.heap[g]? :=
  fun g hg => ⟨⟨Nat.le_trans hl hg.1, Nat.lt_of_lt_of_le hg.2 h.size⟩, h.block g hg.2 fun hi => by have := hE g hi; have := hg.1; have := hg.2; omega⟩
theorem at_past {E : List Nat} {lo lo' : Nat} {w w' : World} {t : Tree} {v : Value} (ht : AtS lo w t v) (h : Past E w w') (hE : ∀ i, i ∈ E → i < lo ∨ w.heap.size ≤ i) (hl : lo' ≤ lo) : AtS lo' w' t v := (at_keep (since_past h hE hl) t).1 _ ht
theorem sl_past {E : List Nat} {lo lo' : Nat} {w w' : World} {t : Tree} {v : Value} (ht : SlS lo w t v) (h : Past E w w') (hE : ∀ i, i ∈ E → i < lo ∨ w.heap.size ≤ i) (hl : lo' ≤ lo) : SlS lo' w' t v := Sl.keep (since_past h hE hl) ht
/-- A node out of its cells and parts. -/
theorem at_ex {w : World} {S : Nat → Prop} {g : Nat} {k l n : Int} {s : List UInt8} {va vb vk vs vp vy : Value} {a b ks xs ps bd : Tree} (hc : ExC w g k l n s va vb vk vs vp vy) (hS : S g) (h1 : At w S a va) (h2 : At w S b vb) (h3 : Sl w S ks vk) (h4 : Sl w S xs vs) (h5 : Sl w S ps vp) (h6 : Sl w S bd vy) : At w S (.ex k l n s a b ks xs ps bd) (pV g) := by
  obtain ⟨Ak, ck, rfl, h3⟩ := h3
  obtain ⟨Ax, cx, rfl, h4⟩ := h4
  obtain ⟨Ap, cp, rfl, h5⟩ := h5
  obtain ⟨Ab, cb, rfl, h6⟩ := h6
  exact ⟨g, va, vb, Ak, ck, Ax, cx, Ap, cp, Ab, cb, rfl, hS, hc, h1, h2, h3, h4, h5, h6⟩
theorem at_st {w : World} {S : Nat → Prop} {g : Nat} {k l : Int} {s : List UInt8} {va vb vc vx vy : Value} {a b c x y : Tree} (hc : StC w g k l s va vb vc vx vy) (hS : S g) (h1 : At w S a va) (h2 : At w S b vb) (h3 : At w S c vc) (h4 : Sl w S x vx) (h5 : Sl w S y vy) : At w S (.st k l s a b c x y) (pV g) := by
  obtain ⟨Ax, cx, rfl, h4⟩ := h4
  obtain ⟨Ay, cy, rfl, h5⟩ := h5
  exact ⟨g, va, vb, vc, Ax, cx, Ay, cy, rfl, hS, hc, h1, h2, h3, h4, h5⟩
theorem exC_new (w : World) (k l n : Int) (s : List UInt8) (va vb vk vs vp vy : Value) (T : TypeId) : ExC (w.alloc (.cells #[iV k, iV l, iV n, sV s, va, vb, vk, vs, vp, vy] T)) w.heap.size k l n s va vb vk vs vp vy :=
  ⟨by simp [go_sem], by simp [go_sem], by simp [go_sem], by simp [go_sem], by simp [go_sem], by simp [go_sem], by simp [go_sem], by simp [go_sem], by simp [go_sem], by simp [go_sem], fun o => by simp [go_sem]⟩
theorem stC_new (w : World) (k l : Int) (s : List UInt8) (va vb vo vx vy : Value) (T : TypeId) : StC (w.alloc (.cells #[iV k, iV l, sV s, va, vb, vo, vx, vy] T)) w.heap.size k l s va vb vo vx vy :=
  ⟨by simp [go_sem], by simp [go_sem], by simp [go_sem], by simp [go_sem], by simp [go_sem], by simp [go_sem], by simp [go_sem], by simp [go_sem], fun o => by simp [go_sem]⟩
theorem warm_set {w : World} {g : Nat} (h : ∀ o, w.frozen? ⟨g, o, none⟩ = false) (a : Addr) (v : Value) : ∀ o, (w.setCell a v).frozen? ⟨g, o, none⟩ = false := fun o => (World.frozen?_setCell w a _ v).trans (h o)
theorem cell_set_other {w : World} {g i j : Nat} (h : i ≠ j) (v : Value) : (w.setCell ⟨g, i, none⟩ v).cell? ⟨g, j, none⟩ = w.cell? ⟨g, j, none⟩ := World.cell?_setCell_other _ _ _ _ (fun e => h (by injection e with _ e2))
theorem cell_set_block {w : World} {g b i j : Nat} (h : b ≠ g) (v : Value) : (w.setCell ⟨b, i, none⟩ v).cell? ⟨g, j, none⟩ = w.cell? ⟨g, j, none⟩ := World.cell?_setCell_other _ _ _ _ (fun e => h (by injection e))
section
variable {w : World} {g : Nat} {k l n : Int} {s : List UInt8} {va vb vk vs vp vy v : Value}
theorem ExC.set0 (h : ExC w g k l n s va vb vk vs vp vy) (k' : Int) : ExC (w.setCell ⟨g, 0, none⟩ (iV k')) g k' l n s va vb vk vs vp vy :=
  ⟨World.cell?_setCell_same _ _ _ h.c0, (cell_set_other (by decide) _).trans h.c1, (cell_set_other (by decide) _).trans h.c2, (cell_set_other (by decide) _).trans h.c3, (cell_set_other (by decide) _).trans h.c4, (cell_set_other (by decide) _).trans h.c5, (cell_set_other (by decide) _).trans h.c6, (cell_set_other (by decide) _).trans h.c7, (cell_set_other (by decide) _).trans h.c8, (cell_set_other (by decide) _).trans h.c9, warm_set h.warm _ _⟩
theorem ExC.set2 (h : ExC w g k l n s va vb vk vs vp vy) (n' : Int) : ExC (w.setCell ⟨g, 2, none⟩ (iV n')) g k l n' s va vb vk vs vp vy :=
  ⟨(cell_set_other (by decide) _).trans h.c0, (cell_set_other (by decide) _).trans h.c1, World.cell?_setCell_same _ _ _ h.c2, (cell_set_other (by decide) _).trans h.c3, (cell_set_other (by decide) _).trans h.c4, (cell_set_other (by decide) _).trans h.c5, (cell_set_other (by decide) _).trans h.c6, (cell_set_other (by decide) _).trans h.c7, (cell_set_other (by decide) _).trans h.c8, (cell_set_other (by decide) _).trans h.c9, warm_set h.warm _ _⟩
theorem ExC.set3 (h : ExC w g k l n s va vb vk vs vp vy) (s' : List UInt8) : ExC (w.setCell ⟨g, 3, none⟩ (sV s')) g k l n s' va vb vk vs vp vy :=
  ⟨(cell_set_other (by decide) _).trans h.c0, (cell_set_other (by decide) _).trans h.c1, (cell_set_other (by decide) _).trans h.c2, World.cell?_setCell_same _ _ _ h.c3, (cell_set_other (by decide) _).trans h.c4, (cell_set_other (by decide) _).trans h.c5, (cell_set_other (by decide) _).trans h.c6, (cell_set_other (by decide) _).trans h.c7, (cell_set_other (by decide) _).trans h.c8, (cell_set_other (by decide) _).trans h.c9, warm_set h.warm _ _⟩
theorem ExC.set5 (h : ExC w g k l n s va vb vk vs vp vy) (v : Value) : ExC (w.setCell ⟨g, 5, none⟩ v) g k l n s va v vk vs vp vy :=
  ⟨(cell_set_other (by decide) _).trans h.c0, (cell_set_other (by decide) _).trans h.c1, (cell_set_other (by decide) _).trans h.c2, (cell_set_other (by decide) _).trans h.c3, (cell_set_other (by decide) _).trans h.c4, World.cell?_setCell_same _ _ _ h.c5, (cell_set_other (by decide) _).trans h.c6, (cell_set_other (by decide) _).trans h.c7, (cell_set_other (by decide) _).trans h.c8, (cell_set_other (by decide) _).trans h.c9, warm_set h.warm _ _⟩
theorem ExC.set6 (h : ExC w g k l n s va vb vk vs vp vy) (v : Value) : ExC (w.setCell ⟨g, 6, none⟩ v) g k l n s va vb v vs vp vy :=
  ⟨(cell_set_other (by decide) _).trans h.c0, (cell_set_other (by decide) _).trans h.c1, (cell_set_other (by decide) _).trans h.c2, (cell_set_other (by decide) _).trans h.c3, (cell_set_other (by decide) _).trans h.c4, (cell_set_other (by decide) _).trans h.c5, World.cell?_setCell_same _ _ _ h.c6, (cell_set_other (by decide) _).trans h.c7, (cell_set_other (by decide) _).trans h.c8, (cell_set_other (by decide) _).trans h.c9, warm_set h.warm _ _⟩
theorem ExC.set7 (h : ExC w g k l n s va vb vk vs vp vy) (v : Value) : ExC (w.setCell ⟨g, 7, none⟩ v) g k l n s va vb vk v vp vy :=
  ⟨(cell_set_other (by decide) _).trans h.c0, (cell_set_other (by decide) _).trans h.c1, (cell_set_other (by decide) _).trans h.c2, (cell_set_other (by decide) _).trans h.c3, (cell_set_other (by decide) _).trans h.c4, (cell_set_other (by decide) _).trans h.c5, (cell_set_other (by decide) _).trans h.c6, World.cell?_setCell_same _ _ _ h.c7, (cell_set_other (by decide) _).trans h.c8, (cell_set_other (by decide) _).trans h.c9, warm_set h.warm _ _⟩
theorem ExC.set8 (h : ExC w g k l n s va vb vk vs vp vy) (v : Value) : ExC (w.setCell ⟨g, 8, none⟩ v) g k l n s va vb vk vs v vy :=
  ⟨(cell_set_other (by decide) _).trans h.c0, (cell_set_other (by decide) _).trans h.c1, (cell_set_other (by decide) _).trans h.c2, (cell_set_other (by decide) _).trans h.c3, (cell_set_other (by decide) _).trans h.c4, (cell_set_other (by decide) _).trans h.c5, (cell_set_other (by decide) _).trans h.c6, (cell_set_other (by decide) _).trans h.c7, World.cell?_setCell_same _ _ _ h.c8, (cell_set_other (by decide) _).trans h.c9, warm_set h.warm _ _⟩
theorem ExC.set9 (h : ExC w g k l n s va vb vk vs vp vy) (v : Value) : ExC (w.setCell ⟨g, 9, none⟩ v) g k l n s va vb vk vs vp v :=
  ⟨(cell_set_other (by decide) _).trans h.c0, (cell_set_other (by decide) _).trans h.c1, (cell_set_other (by decide) _).trans h.c2, (cell_set_other (by decide) _).trans h.c3, (cell_set_other (by decide) _).trans h.c4, (cell_set_other (by decide) _).trans h.c5, (cell_set_other (by decide) _).trans h.c6, (cell_set_other (by decide) _).trans h.c7, (cell_set_other (by decide) _).trans h.c8, World.cell?_setCell_same _ _ _ h.c9, warm_set h.warm _ _⟩
end
section
variable {w : World} {g : Nat} {k l : Int} {s : List UInt8} {va vb vo vx vy v : Value}
theorem StC.set0 (h : StC w g k l s va vb vo vx vy) (k' : Int) : StC (w.setCell ⟨g, 0, none⟩ (iV k')) g k' l s va vb vo vx vy :=
  ⟨World.cell?_setCell_same _ _ _ h.c0, (cell_set_other (by decide) _).trans h.c1, (cell_set_other (by decide) _).trans h.c2, (cell_set_other (by decide) _).trans h.c3, (cell_set_other (by decide) _).trans h.c4, (cell_set_other (by decide) _).trans h.c5, (cell_set_other (by decide) _).trans h.c6, (cell_set_other (by decide) _).trans h.c7, warm_set h.warm _ _⟩
theorem StC.set2 (h : StC w g k l s va vb vo vx vy) (s' : List UInt8) : StC (w.setCell ⟨g, 2, none⟩ (sV s')) g k l s' va vb vo vx vy :=
  ⟨(cell_set_other (by decide) _).trans h.c0, (cell_set_other (by decide) _).trans h.c1, World.cell?_setCell_same _ _ _ h.c2, (cell_set_other (by decide) _).trans h.c3, (cell_set_other (by decide) _).trans h.c4, (cell_set_other (by decide) _).trans h.c5, (cell_set_other (by decide) _).trans h.c6, (cell_set_other (by decide) _).trans h.c7, warm_set h.warm _ _⟩
theorem StC.set3 (h : StC w g k l s va vb vo vx vy) (v : Value) : StC (w.setCell ⟨g, 3, none⟩ v) g k l s v vb vo vx vy :=
  ⟨(cell_set_other (by decide) _).trans h.c0, (cell_set_other (by decide) _).trans h.c1, (cell_set_other (by decide) _).trans h.c2, World.cell?_setCell_same _ _ _ h.c3, (cell_set_other (by decide) _).trans h.c4, (cell_set_other (by decide) _).trans h.c5, (cell_set_other (by decide) _).trans h.c6, (cell_set_other (by decide) _).trans h.c7, warm_set h.warm _ _⟩
theorem StC.set4 (h : StC w g k l s va vb vo vx vy) (v : Value) : StC (w.setCell ⟨g, 4, none⟩ v) g k l s va v vo vx vy :=
  ⟨(cell_set_other (by decide) _).trans h.c0, (cell_set_other (by decide) _).trans h.c1, (cell_set_other (by decide) _).trans h.c2, (cell_set_other (by decide) _).trans h.c3, World.cell?_setCell_same _ _ _ h.c4, (cell_set_other (by decide) _).trans h.c5, (cell_set_other (by decide) _).trans h.c6, (cell_set_other (by decide) _).trans h.c7, warm_set h.warm _ _⟩
theorem StC.set5 (h : StC w g k l s va vb vo vx vy) (v : Value) : StC (w.setCell ⟨g, 5, none⟩ v) g k l s va vb v vx vy :=
  ⟨(cell_set_other (by decide) _).trans h.c0, (cell_set_other (by decide) _).trans h.c1, (cell_set_other (by decide) _).trans h.c2, (cell_set_other (by decide) _).trans h.c3, (cell_set_other (by decide) _).trans h.c4, World.cell?_setCell_same _ _ _ h.c5, (cell_set_other (by decide) _).trans h.c6, (cell_set_other (by decide) _).trans h.c7, warm_set h.warm _ _⟩
theorem StC.set6 (h : StC w g k l s va vb vo vx vy) (v : Value) : StC (w.setCell ⟨g, 6, none⟩ v) g k l s va vb vo v vy :=
  ⟨(cell_set_other (by decide) _).trans h.c0, (cell_set_other (by decide) _).trans h.c1, (cell_set_other (by decide) _).trans h.c2, (cell_set_other (by decide) _).trans h.c3, (cell_set_other (by decide) _).trans h.c4, (cell_set_other (by decide) _).trans h.c5, World.cell?_setCell_same _ _ _ h.c6, (cell_set_other (by decide) _).trans h.c7, warm_set h.warm _ _⟩
theorem StC.set7 (h : StC w g k l s va vb vo vx vy) (v : Value) : StC (w.setCell ⟨g, 7, none⟩ v) g k l s va vb vo vx v :=
  ⟨(cell_set_other (by decide) _).trans h.c0, (cell_set_other (by decide) _).trans h.c1, (cell_set_other (by decide) _).trans h.c2, (cell_set_other (by decide) _).trans h.c3, (cell_set_other (by decide) _).trans h.c4, (cell_set_other (by decide) _).trans h.c5, (cell_set_other (by decide) _).trans h.c6, World.cell?_setCell_same _ _ _ h.c7, warm_set h.warm _ _⟩
end
end Go.Proofs.YtoggkigfijgbfaaGreatDoor
namespace Go.Proofs.YtoggkigfijgbfaaGreatDoor
set_option maxRecDepth 20000
open Go.RowKit Go.Maps

def TokCells (w : World) (g : Nat) : Nat → List Tok → Prop
  | _, [] => True
  | o, t :: r => w.cell? ⟨g, o, none⟩ = some (iV t.kind) ∧ w.cell? ⟨g, o + 1, none⟩ = some (sV t.text) ∧ w.cell? ⟨g, o + 2, none⟩ = some (iV t.num) ∧ w.cell? ⟨g, o + 3, none⟩ = some (iV t.line) ∧ TokCells w g (o + 4) r
theorem TokCells.keep {w w' : World} {g : Nat} (h : w'.heap[g]? = w.heap[g]?) : ∀ (ts : List Tok) (o : Nat), TokCells w g o ts → TokCells w' g o ts
  | [], _, _ => trivial
  | t :: r, o, ⟨h0, h1, h2, h3, hr⟩ => by
    have H : ∀ o, w'.cell? ⟨g, o, none⟩ = w.cell? ⟨g, o, none⟩ := fun o => World.cell?_of_block (a := ⟨g, o, none⟩) h
    exact ⟨(H _).trans h0, (H _).trans h1, (H _).trans h2, (H _).trans h3, TokCells.keep h r _ hr⟩
theorem zeroInt (w : World) : (zeroValue 3).run Tryz.prog w = .ok (.int .i64 0) w := by kernel_rfl
/-- Block m holds the strengths. -/
def StrAt (w : World) (m : Nat) : Prop := ∃ (n : Nat) (D : DataW Unit), w.ownsMap Tryz.prog 9 (plainElem Tryz.prog 3) m n D ∧ ∀ s, D.atKey (.string s) (.lit (.int .i64 0)) = .lit (.int .i64 (strengthT s))
theorem StrAt.keep {w w' : World} {m : Nat} (h : StrAt w m) (hb : w'.heap[m]? = w.heap[m]?) : StrAt w' m := by
  obtain ⟨n, D, ⟨es, clock, he, r⟩, hf⟩ := h
  exact ⟨n, D, ⟨es, clock, hb.trans he, r⟩, hf⟩
theorem StrAt.lt {w : World} {m : Nat} (h : StrAt w m) : m < w.heap.size := by
  obtain ⟨n, D, ho, _⟩ := h
  exact ho.lt
theorem str_key (s : List UInt8) (hs : s.length ≤ 32768) : keyOf Tryz.prog 9 (sV s) = some (.string s) := by
  rw [keyOf_string Tryz.underlying9]
  have h1 : (⟨s.toArray⟩ : ByteArray).size = s.length := by show s.toArray.size = _; simp
  simp [mapKey, Tryz.underlying9, h1]
  unfold maxLen; omega
theorem StrAt.look {w : World} {m : Nat} (h : StrAt w m) (s : List UInt8) (hs : s.length ≤ 32768) : (Instr.lookup 60 (.map (some m)) (sV s) false).run Tryz.prog w = .ok (iV (strengthT s)) w := by
  obtain ⟨n, D, ho, hf⟩ := h
  obtain ⟨c, hrun, hat, _⟩ := ho.lookup_int (string_keyed Tryz.underlying9) Tryz.underlying60 Tryz.underlying3 (zeroInt w) (str_key s hs)
  rw [hf s] at hat
  simp only [DataW.lit.injEq, Lit.int.injEq, true_and] at hat
  rw [hrun, hat]
/-- The parser's struct. -/
structure PIn (w : World) (p d : Nat) (ts : List Tok) (g o c m : Nat) : Prop where
  gp : g < p
  mp : m < p
  c0 : w.cell? ⟨p, 0, none⟩ = some (.slice (some ⟨g, o, none⟩) ts.length c)
  c1 : w.cell? ⟨p, 1, none⟩ = some (iV d)
  c2 : w.cell? ⟨p, 2, none⟩ = some (.map (some m))
  warm : ∀ o, w.frozen? ⟨p, o, none⟩ = false
  toks : TokCells w g o ts
  map : StrAt w m
  cap : ts.length ≤ c
  small : c ≤ 9223372036854775807
  deep : d ≤ 64
  wf : WFT ts
  short : ∀ t, t ∈ ts → t.text.length ≤ 32768
  row : ∃ cur fr, w.heap[g]? = some (.cells cur 66 fr)
def PAt (w : World) (p d : Nat) (ts : List Tok) : Prop := ∃ g o c m, PIn w p d ts g o c m
theorem PIn.lt {w : World} {p d : Nat} {ts : List Tok} {g o c m : Nat} (h : PIn w p d ts g o c m) : p < w.heap.size := World.block_lt_of_cell? w _ h.c0
theorem PAt.lt {w : World} {p d : Nat} {ts : List Tok} (h : PAt w p d ts) : p < w.heap.size := by obtain ⟨g, o, c, m, h⟩ := h; exact h.lt
theorem PAt.wf {w : World} {p d : Nat} {ts : List Tok} (h : PAt w p d ts) : WFT ts := by obtain ⟨g, o, c, m, h⟩ := h; exact h.wf
theorem PAt.deep {w : World} {p d : Nat} {ts : List Tok} (h : PAt w p d ts) : d ≤ 64 := by obtain ⟨g, o, c, m, h⟩ := h; exact h.deep
theorem PIn.keep {w w' : World} {p d : Nat} {ts : List Tok} {g o c m : Nat} (h : PIn w p d ts g o c m) (hb : ∀ k, k ≤ p → w'.heap[k]? = w.heap[k]?) : PIn w' p d ts g o c m := by
  have H : ∀ j, w'.cell? ⟨p, j, none⟩ = w.cell? ⟨p, j, none⟩ := fun j => World.cell?_of_block (a := ⟨p, j, none⟩) (hb p (Nat.le_refl _))
  have F : ∀ j, w'.frozen? ⟨p, j, none⟩ = w.frozen? ⟨p, j, none⟩ := fun j => World.frozen?_of_block (a := ⟨p, j, none⟩) (hb p (Nat.le_refl _))
  exact ⟨h.gp, h.mp, (H 0).trans h.c0, (H 1).trans h.c1, (H 2).trans h.c2, fun j => (F j).trans (h.warm j), TokCells.keep (hb g (Nat.le_of_lt h.gp)) _ _ h.toks, h.map.keep (hb m (Nat.le_of_lt h.mp)), h.cap, h.small, h.deep, h.wf, h.short, by obtain ⟨cur, fr, e⟩ := h.row; exact ⟨cur, fr, (hb g (Nat.le_of_lt h.gp)).trans e⟩⟩
theorem PAt.keep {w w' : World} {p d : Nat} {ts : List Tok} (h : PAt w p d ts) (hb : ∀ k, k ≤ p → w'.heap[k]? = w.heap[k]?) : PAt w' p d ts := by
  obtain ⟨g, o, c, m, h⟩ := h
  exact ⟨g, o, c, m, h.keep hb⟩
theorem PAt.past {w w' : World} {p d : Nat} {ts : List Tok} {E : List Nat} (h : PAt w p d ts) (hw : Past E w w') (hE : ∀ k, k ∈ E → p < k) : PAt w' p d ts :=
  h.keep fun k hk => hw.block k (by have := h.lt; omega) (fun he => by have := hE k he; omega)
theorem PAt.alloc {w : World} {p d : Nat} {ts : List Tok} (h : PAt w p d ts) (o : Obj) : PAt (w.alloc o) p d ts := h.keep fun k hk => Below.heap_alloc _ _ _ (by have := h.lt; omega)
theorem PAt.drew {w : World} {p d : Nat} {ts : List Tok} (h : PAt w p d ts) : PAt w.drew p d ts := h.keep fun _ _ => rfl
theorem PAt.set {w : World} {p d b i : Nat} {ts : List Tok} (h : PAt w p d ts) (hb : p < b) (v : Value) : PAt (w.setCell ⟨b, i, none⟩ v) p d ts := h.keep fun k hk => Below.heap_setCell _ _ _ _ (show k ≠ b by omega)
/-- The token that comes next. -/
structure HdC (w : World) (g o : Nat) (t : Tok) : Prop where
  c0 : w.cell? ⟨g, o, none⟩ = some (iV t.kind)
  c1 : w.cell? ⟨g, o + 1, none⟩ = some (sV t.text)
  c2 : w.cell? ⟨g, o + 2, none⟩ = some (iV t.num)
  c3 : w.cell? ⟨g, o + 3, none⟩ = some (iV t.line)
theorem PIn.hd {w : World} {p d : Nat} {ts : List Tok} {g o c m : Nat} (h : PIn w p d ts g o c m) : 0 < ts.length ∧ HdC w g o (hdT ts) := by
  have hw := h.wf
  have ht := h.toks
  match ts, hw, ht with
  | t :: r, _, ⟨h0, h1, h2, h3, _⟩ => exact ⟨by simp, h0, h1, h2, h3⟩
theorem wf_tail {ts : List Tok} (h : WFT ts) (hk : (hdT ts).kind ≠ 5) : 1 < ts.length ∧ WFT ts.tail := by
  match ts, h with
  | [t], h => exact absurd h hk
  | t :: u :: r, ⟨_, h⟩ => exact ⟨by simp, h⟩
theorem PIn.second {w : World} {p d : Nat} {ts : List Tok} {g o c m : Nat} (h : PIn w p d ts g o c m) (hk : (hdT ts).kind ≠ 5) : 1 < ts.length ∧ HdC w g (o + 4) (secondT ts) := by
  have hw := h.wf
  have ht := h.toks
  match ts, hw, ht with
  | [t], hw, _ => exact absurd hw hk
  | t :: u :: r, _, ⟨_, _, _, _, h0, h1, h2, h3, _⟩ => exact ⟨by simp, h0, h1, h2, h3⟩
/-- Behind 'take'. -/
theorem PIn.taken {w : World} {p d : Nat} {ts : List Tok} {g o c m : Nat} (h : PIn w p d ts g o c m) (hk : (hdT ts).kind ≠ 5) : PIn (w.setCell ⟨p, 0, none⟩ (.slice (some ⟨g, o + 4, none⟩) ts.tail.length (c - 1))) p d ts.tail g (o + 4) (c - 1) m := by
  have hw := wf_tail h.wf hk
  have hl : ts.tail.length = ts.length - 1 := by simp
  have hc := h.cap
  have hs := h.small
  have hg := h.gp
  have hm := h.mp
  refine ⟨hg, hm, World.cell?_setCell_same _ _ _ h.c0, (cell_set_other (by decide) _).trans h.c1, (cell_set_other (by decide) _).trans h.c2, warm_set h.warm _ _, ?_, h.map.keep (Below.heap_setCell _ _ _ _ (show m ≠ p by omega)), by omega, by omega, h.deep, hw.2, fun t ht => h.short t (List.mem_of_mem_tail ht), by obtain ⟨cur, fr, e⟩ := h.row; exact ⟨cur, fr, (Below.heap_setCell _ _ _ _ (show g ≠ p by omega)).trans e⟩⟩
  refine TokCells.keep (Below.heap_setCell _ _ _ _ (show g ≠ p by omega)) _ _ ?_
  have ht := h.toks
  match ts, ht with
  | [], _ => trivial
  | t :: r, ⟨_, _, _, _, h⟩ => exact h
theorem PIn.opens {w : World} {p d : Nat} {ts : List Tok} {g o c m : Nat} (h : PIn w p d ts g o c m) (d' : Nat) (hd : d' ≤ 64) : PIn (w.setCell ⟨p, 1, none⟩ (iV d')) p d' ts g o c m := by
  have hg := h.gp
  have hm := h.mp
  exact ⟨hg, hm, (cell_set_other (by decide) _).trans h.c0, World.cell?_setCell_same _ _ _ h.c1, (cell_set_other (by decide) _).trans h.c2, warm_set h.warm _ _, TokCells.keep (Below.heap_setCell _ _ _ _ (show g ≠ p by omega)) _ _ h.toks, h.map.keep (Below.heap_setCell _ _ _ _ (show m ≠ p by omega)), h.cap, h.small, hd, h.wf, h.short, by obtain ⟨cur, fr, e⟩ := h.row; exact ⟨cur, fr, (Below.heap_setCell _ _ _ _ (show g ≠ p by omega)).trans e⟩⟩
theorem sgn_sign {ts : List Tok} (h : sgnT ts ≠ []) : (hdT ts).kind = 4 ∧ sgnT ts = (hdT ts).text := by
  unfold sgnT at h ⊢
  by_cases hk : (hdT ts).kind = 4
  · exact ⟨hk, by rw [if_pos hk]⟩
  · rw [if_neg hk] at h; exact absurd rfl h
theorem PIn.sgn_short {w : World} {p d : Nat} {ts : List Tok} {g o c m : Nat} (h : PIn w p d ts g o c m) : (sgnT ts).length ≤ 32768 := by
  have hs := h.short
  have hw := h.wf
  match ts, hw, hs with
  | t :: r, _, hs =>
    have := hs t (by simp)
    show (if t.kind = 4 then t.text else []).length ≤ 32768
    split
    · exact this
    · simp
/-- A fault in memory. -/
def FaultAt (w : World) (b : Nat) (c : Int) (l : Nat) : Prop := w.cell? ⟨b, 0, none⟩ = some (iV c) ∧ w.cell? ⟨b, 1, none⟩ = some (iV l)
theorem FaultAt.keep {w w' : World} {b : Nat} {c : Int} {l : Nat} (h : FaultAt w b c l) (hb : w'.heap[b]? = w.heap[b]?) : FaultAt w' b c l :=
  ⟨(World.cell?_of_block (a := ⟨b, 0, none⟩) hb).trans h.1, (World.cell?_of_block (a := ⟨b, 1, none⟩) hb).trans h.2⟩
theorem FaultAt.lt {w : World} {b : Nat} {c : Int} {l : Nat} (h : FaultAt w b c l) : b < w.heap.size := World.block_lt_of_cell? w _ h.1
/-- What is left of the struct where a call panics. -/
def Warm (w : World) (p : Nat) : Prop := (∃ d : Int, w.cell? ⟨p, 1, none⟩ = some (iV d)) ∧ ∀ o, w.frozen? ⟨p, o, none⟩ = false
theorem PAt.warm {w : World} {p d : Nat} {ts : List Tok} (h : PAt w p d ts) : Warm w p := by
  obtain ⟨g, o, c, m, h⟩ := h
  exact ⟨⟨_, h.c1⟩, h.warm⟩
abbrev panicV (b : Nat) : Ending := .panicked [{ v := .iface 59 (pV b), recovered := false }]
/-- The end by a fault. -/
def Bad (p : Nat) (E : List Nat) (c : Int) (l : Nat) (w : World) (e : Ending) (w' : World) : Prop :=
  ∃ b, e = panicV b ∧ w.heap.size ≤ b ∧ FaultAt w' b c l ∧ Past E w w' ∧ Warm w' p
/-- What a call of the parser leaves. -/
def Ends (p d : Nat) (E : List Nat) (r : Res) (V : Tree → World → Value → Prop) (w : World) (e : Ending) (w' : World) : Prop :=
  match r with
  | .out => False
  | .bad c l => Bad p E c l w e w'
  | .ok x ts => ∃ v, e = .returned v ∧ V x w' v ∧ PAt w' p d ts ∧ Past E w w'
theorem Bad.after {p : Nat} {E F : List Nat} {c : Int} {l : Nat} {w w1 w' : World} {e : Ending} (h : Bad p F c l w1 e w') (hw : Past E w w1) (hF : ∀ i, i ∈ F → i ∈ E ∨ w.heap.size ≤ i) : Bad p E c l w e w' := by
  obtain ⟨b, rfl, hb, hf, hp, hW⟩ := h
  exact ⟨b, rfl, Nat.le_trans hw.size hb, hf, hw.then hp hF, hW⟩
theorem bind_done {r : Res} {f : Tree → List Tok → Res} (h : r.bind f ≠ .out) : r ≠ .out := fun e => h (by rw [e]; rfl)
end Go.Proofs.YtoggkigfijgbfaaGreatDoor
