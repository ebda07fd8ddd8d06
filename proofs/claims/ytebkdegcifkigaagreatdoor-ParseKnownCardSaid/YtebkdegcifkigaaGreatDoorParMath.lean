/- A source's statements as plain functions on lists of tokens: trees; the parser, call by call as the program goes, with a fuel. No walk, no program. -/
import Derived.Test.YtebkdegcifkigaaGreatDoorOldLex
namespace Go.Proofs.YtebkdegcifkigaaGreatDoor

/-- Expressions, statements, lists of them, and texts. -/
inductive Tree where
  | nil
  | ex (kind line num : Int) (text : List UInt8) (l r keys args params body : Tree)
  | st (kind line : Int) (name : List UInt8) (l r to a b : Tree)
  | cons (h t : Tree)
  | tx (s : List UInt8)
def treeL : List Tree → Tree
  | [] => .nil
  | x :: r => .cons x (treeL r)
def Tree.fst : Tree → Tree
  | .cons h _ => h
  | _ => .nil
def Tree.snd : Tree → Tree
  | .cons _ t => t
  | _ => .nil
/-- What comes of a call: it did not come to its end with so little fuel; a fault; a tree, and the tokens that are left. -/
inductive Res where
  | out
  | bad (c : Int) (line : Nat)
  | ok (x : Tree) (ts : List Tok)
def Res.bind (r : Res) (f : Tree → List Tok → Res) : Res :=
  match r with
  | .out => .out
  | .bad c l => .bad c l
  | .ok x ts => f x ts
def hdT (ts : List Tok) : Tok := match ts with
  | [] => ⟨5, [], 0, 0⟩
  | t :: _ => t
def sgnT (ts : List Tok) : List UInt8 := if (hdT ts).kind = 4 then (hdT ts).text else []
def linT (ts : List Tok) : Nat := (hdT ts).line
/-- The end comes last, and nowhere else. -/
def WFT : List Tok → Prop
  | [] => False
  | [t] => t.kind = 5
  | t :: u :: r => t.kind ≠ 5 ∧ WFT (u :: r)
def wantT (s : List UInt8) (ts : List Tok) : Res := if sgnT ts = s then .ok .nil ts.tail else .bad 4 (linT ts)
def nameT (ts : List Tok) : Res := if (hdT ts).kind = 1 then .ok (.tx (hdT ts).text) ts.tail else .bad 4 (linT ts)
/-- begin: what comes next opens something. -/
def beginT (s : List UInt8) (d : Nat) (ts : List Tok) : Res := if sgnT ts = s ∧ d = 64 then .bad 3 (linT ts) else wantT s ts
def strengthT (s : List UInt8) : Nat :=
  if s = [111, 114] then 1 else if s = [97, 110, 100] then 2
  else if s = [60] then 3 else if s = [60, 61] then 3 else if s = [62] then 3 else if s = [62, 61] then 3 else if s = [61, 61] then 3 else if s = [126, 61] then 3
  else if s = [124] then 4 else if s = [126] then 5 else if s = [38] then 6 else if s = [60, 60] then 7 else if s = [62, 62] then 7
  else if s = [46, 46] then 8 else if s = [43] then 9 else if s = [45] then 9 else if s = [42] then 10 else if s = [47, 47] then 10 else if s = [37] then 10 else 0
def endsT (ts : List Tok) : Bool := sgnT ts == [101, 110, 100] || sgnT ts == [101, 108, 115, 101] || sgnT ts == [101, 108, 115, 101, 105, 102] || sgnT ts == [99, 97, 116, 99, 104] || (hdT ts).kind == 5
def exT (kind : Int) (line : Nat) : Tree := .ex kind line 0 [] .nil .nil .nil .nil .nil .nil
/-- The calls. -/
inductive Goal where
  | operation (least : Nat)
  | opLoop (least : Nat) (left : Tree)
  | behind (left : Tree)
  | operand
  | postExpr
  | postLoop (e : Tree) (enclosed : Bool)
  | list (first last : List UInt8) (k : Nat)
  | listLoop (last : List UInt8) (k : Nat) (acc : List Tree)
  | one (k : Nat)
  | primary
  | enclosed (first last : List UInt8)
  | function
  | namedFunction
  | body (line : Nat)
  | table
  | item
  | block (word : List UInt8)
  | stmts
  | stmtsLoop (acc : List Tree)
  | stmt
  | local_ (line : Nat)
  | while_ (line : Nat)
  | count (line : Nat)
  | choice (word : List UInt8) (line : Nat)
  | condition (line : Nat) (word : List UInt8)
  | result (line : Nat)
  | try_ (line : Nat)
  | post (line : Nat)
def flagT (x : Bool) : Tree := if x then .tx [] else .nil
def isNil : Tree → Bool
  | .nil => true
  | _ => false
def isRet : Tree → Bool
  | .st k _ _ _ _ _ _ _ => k == 8
  | _ => false
def kindT : Tree → Int
  | .ex k _ _ _ _ _ _ _ _ _ => k
  | .st k _ _ _ _ _ _ _ => k
  | _ => 0
def textT : Tree → List UInt8
  | .ex _ _ _ t _ _ _ _ _ _ => t
  | .tx t => t
  | _ => []
def constT (s : List UInt8) : Int := if s = [110, 105, 108] then 1 else if s = [116, 114, 117, 101] then 2 else if s = [102, 97, 108, 115, 101] then 3 else 0
def wordT (ts : List Tok) : Res :=
  if (hdT ts).kind = 1 then .ok (.ex 6 (linT ts) 0 (hdT ts).text .nil .nil .nil .nil .nil .nil) ts.tail
  else if (hdT ts).kind = 2 then .ok (.ex 4 (linT ts) (hdT ts).num [] .nil .nil .nil .nil .nil .nil) ts.tail
  else if (hdT ts).kind = 3 then .ok (.ex 5 (linT ts) 0 (hdT ts).text .nil .nil .nil .nil .nil .nil) ts.tail
  else if constT (sgnT ts) = 0 then .bad 4 (linT ts) else .ok (exT (constT (sgnT ts)) (linT ts)) ts.tail
def namedT (kind : Int) (ts : List Tok) : Res := (nameT ts).bind fun x ts2 => .ok (.ex kind (linT ts) 0 (textT x) .nil .nil .nil .nil .nil .nil) ts2
def secondT (ts : List Tok) : Tok := hdT ts.tail
def withB : Tree → Tree → Tree
  | .st k l n a b c d _, e => .st k l n a b c d e
  | x, _ => x
def firstsT : Tree → Tree
  | .cons x r => .cons x.fst (firstsT r)
  | _ => .nil
def secondsT : Tree → Tree
  | .cons x r => .cons x.snd (secondsT r)
  | _ => .nil
def parseF : Nat → Goal → Nat → List Tok → Res
  | 0, _, _, _ => .out
  | n + 1, g, d, ts =>
    match g with
    | .operation least => (parseF n .operand d ts).bind fun e ts => parseF n (.opLoop least e) d ts
    | .opLoop least e => if least ≤ strengthT (sgnT ts) then (parseF n (.behind e) d ts).bind fun e ts => parseF n (.opLoop least e) d ts else .ok e ts
    | .behind l =>
      if sgnT ts = [46, 46] then (beginT [46, 46] d ts).bind fun _ ts2 => (parseF n (.operation 8) (d + 1) ts2).bind fun r ts3 => .ok (.ex 11 (linT ts) 0 (sgnT ts) l r .nil .nil .nil .nil) ts3
      else (wantT (sgnT ts) ts).bind fun _ ts2 => (parseF n (.operation (strengthT (sgnT ts) + 1)) d ts2).bind fun r ts3 => .ok (.ex 11 (linT ts) 0 (sgnT ts) l r .nil .nil .nil .nil) ts3
    | .operand =>
      if sgnT ts = [110, 111, 116] ∨ sgnT ts = [45] ∨ sgnT ts = [35] ∨ sgnT ts = [126] then
        (beginT (sgnT ts) d ts).bind fun _ ts2 => (parseF n .operand (d + 1) ts2).bind fun r ts3 => .ok (.ex 10 (linT ts) 0 (sgnT ts) .nil r .nil .nil .nil .nil) ts3
      else (parseF n .postExpr d ts).bind fun x ts2 => .ok x.snd ts2
    | .postExpr => (parseF n .primary d ts).bind fun e ts2 => parseF n (.postLoop e (decide (sgnT ts = [40]))) d ts2
    | .postLoop e enc =>
      if sgnT ts = [91] then (parseF n (.enclosed [91] [93]) d ts).bind fun x ts2 => parseF n (.postLoop (.ex 7 (linT ts) 0 [] e x .nil .nil .nil .nil) false) d ts2
      else if sgnT ts = [46] then (namedT 5 ts.tail).bind fun x ts2 => parseF n (.postLoop (.ex 7 (linT ts) 0 [] e x .nil .nil .nil .nil) false) d ts2
      else if sgnT ts = [40] then (parseF n (.list [40] [41] 0) d ts).bind fun x ts2 => parseF n (.postLoop (.ex 8 (linT ts) 0 [] e .nil .nil x .nil .nil) false) d ts2
      else .ok (.cons (flagT enc) e) ts
    | .list first last k => (beginT first d ts).bind fun _ ts2 =>
      if sgnT ts2 = last then (wantT last ts2).bind fun _ ts3 => .ok .nil ts3
      else (parseF n (.one k) (d + 1) ts2).bind fun x ts3 => parseF n (.listLoop last k [x]) (d + 1) ts3
    | .listLoop last k acc => if sgnT ts = [44] then (parseF n (.one k) d ts.tail).bind fun x ts2 => parseF n (.listLoop last k (acc ++ [x])) d ts2
      else (wantT last ts).bind fun _ ts2 => .ok (treeL acc) ts2
    | .one k => if k = 0 then parseF n (.operation 1) d ts else if k = 1 then nameT ts else parseF n .item d ts
    | .primary =>
      if sgnT ts = [40] then parseF n (.enclosed [40] [41]) d ts
      else if sgnT ts = [102, 117, 110, 99, 116, 105, 111, 110] then parseF n .function d ts
      else if sgnT ts = [123] then parseF n .table d ts
      else wordT ts
    | .enclosed first last => (beginT first d ts).bind fun _ ts2 => (parseF n (.operation 1) (d + 1) ts2).bind fun e ts3 => (wantT last ts3).bind fun _ ts4 => .ok e ts4
    | .function => (beginT [102, 117, 110, 99, 116, 105, 111, 110] d ts).bind fun _ ts2 => parseF n (.body (linT ts)) (d + 1) ts2
    | .namedFunction => (beginT [102, 117, 110, 99, 116, 105, 111, 110] d ts).bind fun _ ts2 => (namedT 6 ts2).bind fun m ts3 => (parseF n (.body (linT ts)) (d + 1) ts3).bind fun f ts4 => .ok (.cons m f) ts4
    | .body line => (parseF n (.list [40] [41] 1) d ts).bind fun ps ts2 => (parseF n .stmts d ts2).bind fun bd ts3 => (wantT [101, 110, 100] ts3).bind fun _ ts4 => .ok (.ex 9 line 0 [] .nil .nil .nil .nil ps bd) ts4
    | .table => (parseF n (.list [123] [125] 2) d ts).bind fun x ts2 => .ok (.ex 12 (linT ts) 0 [] .nil .nil (firstsT x) (secondsT x) .nil .nil) ts2
    | .item =>
      if sgnT ts = [91] then (parseF n (.enclosed [91] [93]) d ts).bind fun k ts2 => (wantT [61] ts2).bind fun _ ts3 => (parseF n (.operation 1) d ts3).bind fun x ts4 => .ok (.cons k x) ts4
      else if (hdT ts).kind = 1 ∧ (secondT ts).kind = 4 ∧ (secondT ts).text = [61] then (namedT 5 ts).bind fun k ts2 => (wantT [61] ts2).bind fun _ ts3 => (parseF n (.operation 1) d ts3).bind fun x ts4 => .ok (.cons k x) ts4
      else (parseF n (.operation 1) d ts).bind fun x ts2 => .ok (.cons .nil x) ts2
    | .block word => (beginT word d ts).bind fun _ ts2 => parseF n .stmts (d + 1) ts2
    | .stmts => parseF n (.stmtsLoop []) d ts
    | .stmtsLoop acc => if endsT ts = true then .ok (treeL acc) ts
      else (parseF n .stmt d ts).bind fun s ts2 => if isRet s = true then .ok (treeL (acc ++ [s])) ts2 else parseF n (.stmtsLoop (acc ++ [s])) d ts2
    | .stmt =>
      if sgnT ts = [108, 111, 99, 97, 108] then parseF n (.local_ (linT ts)) d ts
      else if sgnT ts = [100, 111] then (parseF n (.block [100, 111]) d ts).bind fun a ts2 => (wantT [101, 110, 100] ts2).bind fun _ ts3 => .ok (.st 4 (linT ts) [] .nil .nil .nil a .nil) ts3
      else if sgnT ts = [119, 104, 105, 108, 101] then parseF n (.while_ (linT ts)) d ts
      else if sgnT ts = [102, 111, 114] then parseF n (.count (linT ts)) d ts
      else if sgnT ts = [105, 102] then parseF n (.choice [105, 102] (linT ts)) d ts
      else if sgnT ts = [114, 101, 116, 117, 114, 110] then parseF n (.result (linT ts)) d ts
      else if sgnT ts = [98, 114, 101, 97, 107] then .ok (.st 9 (linT ts) [] .nil .nil .nil .nil .nil) ts.tail
      else if sgnT ts = [116, 114, 121] then parseF n (.try_ (linT ts)) d ts
      else if sgnT ts = [102, 117, 110, 99, 116, 105, 111, 110] ∧ (secondT ts).kind = 1 then (parseF n .namedFunction d ts).bind fun x ts2 => .ok (.st 2 (linT ts) [] x.fst x.snd .nil .nil .nil) ts2
      else parseF n (.post (linT ts)) d ts
    | .local_ line => (wantT [108, 111, 99, 97, 108] ts).bind fun _ ts2 =>
      if sgnT ts2 = [102, 117, 110, 99, 116, 105, 111, 110] then (parseF n .namedFunction d ts2).bind fun x ts3 => .ok (.st 11 line (textT x.fst) .nil x.snd .nil .nil .nil) ts3
      else (nameT ts2).bind fun m ts3 => if sgnT ts3 = [61] then (parseF n (.operation 1) d ts3.tail).bind fun e ts4 => .ok (.st 1 line (textT m) .nil e .nil .nil .nil) ts4 else .ok (.st 1 line (textT m) .nil .nil .nil .nil .nil) ts3
    | .while_ line => (wantT [119, 104, 105, 108, 101] ts).bind fun _ ts2 => (parseF n (.operation 1) d ts2).bind fun e ts3 => (parseF n (.block [100, 111]) d ts3).bind fun a ts4 => (wantT [101, 110, 100] ts4).bind fun _ ts5 => .ok (.st 5 line [] .nil e .nil a .nil) ts5
    | .count line => (wantT [102, 111, 114] ts).bind fun _ ts2 => (nameT ts2).bind fun m ts3 => (wantT [61] ts3).bind fun _ ts4 => (parseF n (.operation 1) d ts4).bind fun e ts5 => (wantT [44] ts5).bind fun _ ts6 =>
      (parseF n (.operation 1) d ts6).bind fun e2 ts7 => (parseF n (.block [100, 111]) d ts7).bind fun a ts8 => (wantT [101, 110, 100] ts8).bind fun _ ts9 => .ok (.st 7 line (textT m) .nil e e2 a .nil) ts9
    | .choice word line => (parseF n (.condition line word) d ts).bind fun s ts2 =>
      if sgnT ts2 = [101, 108, 115, 101, 105, 102] then (parseF n (.choice [101, 108, 115, 101, 105, 102] (linT ts2)) d ts2).bind fun x ts3 => .ok (withB s (.cons x .nil)) ts3
      else if sgnT ts2 = [101, 108, 115, 101] then (parseF n (.block [101, 108, 115, 101]) d ts2).bind fun e ts3 => (wantT [101, 110, 100] ts3).bind fun _ ts4 => .ok (withB s e) ts4
      else (wantT [101, 110, 100] ts2).bind fun _ ts4 => .ok s ts4
    | .condition line word => (wantT word ts).bind fun _ ts2 => (parseF n (.operation 1) d ts2).bind fun e ts3 => (parseF n (.block [116, 104, 101, 110]) d ts3).bind fun a ts4 => .ok (.st 6 line [] .nil e .nil a .nil) ts4
    | .result line => (wantT [114, 101, 116, 117, 114, 110] ts).bind fun _ ts2 => if endsT ts2 = true then .ok (.st 8 line [] .nil .nil .nil .nil .nil) ts2 else (parseF n (.operation 1) d ts2).bind fun e ts3 => .ok (.st 8 line [] .nil e .nil .nil .nil) ts3
    | .try_ line => (parseF n (.block [116, 114, 121]) d ts).bind fun a ts2 => (beginT [99, 97, 116, 99, 104] d ts2).bind fun _ ts3 => (nameT ts3).bind fun m ts4 => (parseF n .stmts (d + 1) ts4).bind fun e ts5 => (wantT [101, 110, 100] ts5).bind fun _ ts6 => .ok (.st 10 line (textT m) .nil .nil .nil a e) ts6
    | .post line => (parseF n .postExpr d ts).bind fun x ts2 =>
      if isNil x.fst = false then .bad 4 (linT ts2)
      else if kindT x.snd = 8 then .ok (.st 3 line [] .nil x.snd .nil .nil .nil) ts2
      else if kindT x.snd = 6 ∨ kindT x.snd = 7 then (wantT [61] ts2).bind fun _ ts3 => (parseF n (.operation 1) d ts3).bind fun e ts4 => .ok (.st 2 line [] x.snd e .nil .nil .nil) ts4
      else .bad 4 (linT ts2)
end Go.Proofs.YtebkdegcifkigaaGreatDoor
