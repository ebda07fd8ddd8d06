/- print.Print's text and print.Same as plain functions on trees. No walk, no program. | print.writer in memory: the strings.Builder that it embeds, and its count; the contracts of the builder's calls there. | print.writer: what a call of it leaves; begin and put. | print: isOf, operator, strength; what they are told of a tree. | print.writer: put, begin, enclosed and list as steps of a chain of calls. | print.isNamed: is a tree the string of a name that is not reserved? | print.writer: what each call leaves, at a fuel: the plain function's answer. -/
import Derived.Test.YtoggkigfijgbfaaGreatDoorZAbb
import Derived.Test.YtoggkigfijgbfaaGreatDoorZB
import Derived.Test.YtoggkigfijgbfaaGreatDoorZOldLex
import Derived.Lib.AppendStr
import Derived.Lib.OthersKept
import Derived.Shelf.Strings.Builder1
import Derived.Lib.Hide
import Derived.WalkMore
import Derived.Test.YtoggkigfijgbfaaGreatDoorZC
import Derived.Test.YtoggkigfijgbfaaGreatDoorZD
import Derived.Deep.QuietTactic
import Derived.BigQuiet
namespace Go.Proofs.YtoggkigfijgbfaaGreatDoor.P6
set_option maxRecDepth 20000

/-- What a part of a tree is: an expression, a statement, lists of these, a list of texts. -/
inductive Srt where
  | e | s | es | ss | ts
/-- Trees as statements have them: each part of its sort, texts of at most 2^15 bytes, numbers of 64 bits. -/
def okT : Srt → Tree → Bool
  | .e, .nil => true
  | .e, .ex _ _ num text l r ks xs ps bd => decide (text.length ≤ 32768) && (decide (-9223372036854775808 ≤ num) && decide (num ≤ 9223372036854775807)) && (okT .e l && (okT .e r && ((decide (lenT ks ≤ 1048576) && okT .es ks) && ((decide (lenT xs ≤ 1048576) && okT .es xs) && ((decide (lenT ps ≤ 1048576) && okT .ts ps) && (decide (lenT bd ≤ 1048576) && okT .ss bd))))))
  | .s, .nil => true
  | .s, .st _ _ text l r to a b => decide (text.length ≤ 32768) && (okT .e l && (okT .e r && (okT .e to && ((decide (lenT a ≤ 1048576) && okT .ss a) && (decide (lenT b ≤ 1048576) && okT .ss b)))))
  | .es, .nil => true
  | .es, .cons h t => okT .e h && okT .es t
  | .ss, .nil => true
  | .ss, .cons h t => okT .s h && okT .ss t
  | .ts, .nil => true
  | .ts, .cons (.tx s) t => decide (s.length ≤ 32768) && okT .ts t
  | _, _ => false
def numT : Tree → Int
  | .ex _ _ n _ _ _ _ _ _ _ => n
  | _ => 0
def leftT : Tree → Tree
  | .ex _ _ _ _ l _ _ _ _ _ => l
  | .st _ _ _ l _ _ _ _ => l
  | _ => .nil
def rightT : Tree → Tree
  | .ex _ _ _ _ _ r _ _ _ _ => r
  | .st _ _ _ _ r _ _ _ => r
  | _ => .nil
def toT : Tree → Tree
  | .st _ _ _ _ _ t _ _ => t
  | _ => .nil
def keysT : Tree → Tree
  | .ex _ _ _ _ _ _ k _ _ _ => k
  | _ => .nil
def argsT : Tree → Tree
  | .ex _ _ _ _ _ _ _ a _ _ => a
  | _ => .nil
def parsT : Tree → Tree
  | .ex _ _ _ _ _ _ _ _ p _ => p
  | _ => .nil
def bodyT : Tree → Tree
  | .ex _ _ _ _ _ _ _ _ _ b => b
  | _ => .nil
def aT : Tree → Tree
  | .st _ _ _ _ _ _ a _ => a
  | _ => .nil
def bT : Tree → Tree
  | .st _ _ _ _ _ _ _ b => b
  | _ => .nil
def nameT6 : Tree → List UInt8
  | .ex _ _ _ t _ _ _ _ _ _ => t
  | .st _ _ t _ _ _ _ _ => t
  | .tx t => t
  | _ => []
def getT : Tree → Nat → Tree
  | .cons h _, 0 => h
  | .cons _ t, i + 1 => getT t i
  | _, _ => .nil
def isX : Tree → Bool
  | .ex _ _ _ _ _ _ _ _ _ _ => true
  | _ => false
def isS : Tree → Bool
  | .st _ _ _ _ _ _ _ _ => true
  | _ => false
def isOf (t : Tree) (k : Int) : Bool := isX t && (kindT t == k)
/-- What comes of a call: it did not come to its end with so little fuel; what is wrong; the text, and how many parts. -/
inductive WRes where
  | out
  | bad (c : Int)
  | ok (s : List UInt8) (k : Nat)
def WRes.bind (r : WRes) (f : List UInt8 → Nat → WRes) : WRes :=
  match r with
  | .out => .out
  | .bad c => .bad c
  | .ok s k => f s k
def putT (t s : List UInt8) (k : Nat) : WRes := if 32768 < s.length + t.length then .bad 3 else .ok (s ++ t) k
def putsT : List (List UInt8) → List UInt8 → Nat → WRes
  | [], s, k => .ok s k
  | t :: r, s, k => (putT t s k).bind (putsT r)
def begT (s : List UInt8) (k : Nat) : WRes := if k = 65536 then .bad 3 else .ok s (k + 1)
def strE (t : Tree) : Nat := if isOf t 11 = true then strengthT (nameT6 t) else if isOf t 10 = true then 11 else 12
def nameOK (s : List UInt8) : Bool := if (lexL s).err = 0 ∧ (hdT (lexL s).toks).kind = 1 ∧ (hdT (lexL s).toks).text = s then true else false
def namedE (t : Tree) : Bool := isOf t 5 && nameOK (nameT6 t)
/-- n items, a comma and a blank between. -/
def loopT (f : Nat → List UInt8 → Nat → WRes) : Nat → Nat → List UInt8 → Nat → WRes
  | _, 0, s, k => .ok s k
  | i, n + 1, s, k => (if i = 0 then (WRes.ok s k) else putT [44, 32] s k).bind fun s k => (f i s k).bind (loopT f (i + 1) n)
def seqT (f : Nat → List UInt8 → Nat → WRes) : Nat → Nat → List UInt8 → Nat → WRes
  | _, 0, s, k => .ok s k
  | i, n + 1, s, k => (f i s k).bind (seqT f (i + 1) n)
def encT (a b : List UInt8) (f : List UInt8 → Nat → WRes) (s : List UInt8) (k : Nat) : WRes := (putT a s k).bind fun s k => (f s k).bind (putT b)
inductive WGoal where
  | expr (e : Tree)
  | operand (e : Tree) (needs : Bool)
  | post (e : Tree)
  | operation (e : Tree)
  | index (e : Tree)
  | item (key e : Tree)
  | body (f : Tree)
  | stmts (b : Tree)
  | block (b : Tree)
  | stmt (s : Tree)
  | value (ahead : List UInt8) (e : Tree)
  | blocks (s : Tree)
  | choice (s : Tree)
  | named (s : Tree)
def badE (e : Tree) : Bool := !isX e || (decide (kindT e < 1) || (decide (12 < kindT e) || ((kindT e == 12) && !decide (lenT (keysT e) = lenT (argsT e)))))
def printF : Nat → WGoal → List UInt8 → Nat → WRes
  | 0, _, _, _ => .out
  | n + 1, g, s, k =>
    match g with
    | .expr e => if badE e = true then .bad 2 else (begT s k).bind fun s k =>
        if kindT e = 1 then putT [110, 105, 108] s k
        else if kindT e = 2 then putT [116, 114, 117, 101] s k
        else if kindT e = 3 then putT [102, 97, 108, 115, 101] s k
        else if kindT e = 4 then putT (Lib.itoa (numT e)) s k
        else if kindT e = 5 then putT (quoteL (nameT6 e)) s k
        else if kindT e = 6 then putT (nameT6 e) s k
        else if kindT e = 7 then (printF n (.post (leftT e)) s k).bind (printF n (.index (rightT e)))
        else if kindT e = 8 then (printF n (.post (leftT e)) s k).bind (encT [40] [41] (loopT (fun i => printF n (.expr (getT (argsT e) i))) 0 (lenT (argsT e))))
        else if kindT e = 9 then (putT [102, 117, 110, 99, 116, 105, 111, 110] s k).bind (printF n (.body e))
        else if kindT e = 10 then (putsT [nameT6 e, [32]] s k).bind (printF n (.operand (rightT e) (isOf (rightT e) 11)))
        else if kindT e = 11 then printF n (.operation e) s k
        else encT [123] [125] (loopT (fun i => printF n (.item (getT (keysT e) i) (getT (argsT e) i))) 0 (lenT (argsT e))) s k
    | .operand e needs => if needs = true then encT [40] [41] (printF n (.expr e)) s k else printF n (.expr e) s k
    | .post e => printF n (.operand e (isOf e 10 || (isOf e 11 || isOf e 9))) s k
    | .operation e => (printF n (.operand (leftT e) (decide (strE (leftT e) < strE e) || (decide (strE (leftT e) = strE e) && decide (nameT6 e = [46, 46])))) s k).bind fun s k =>
        (putsT [[32], nameT6 e, [32]] s k).bind (printF n (.operand (rightT e) (decide (strE (rightT e) < strE e) || (decide (strE (rightT e) = strE e) && !decide (nameT6 e = [46, 46])))))
    | .index e => if namedE e = true then (begT s k).bind (putsT [[46], nameT6 e]) else encT [91] [93] (printF n (.expr e)) s k
    | .item key e => (if isX key = false then .ok s k else if namedE key = true then (begT s k).bind (putsT [nameT6 key, [32, 61, 32]]) else (encT [91] [93] (printF n (.expr key)) s k).bind (putT [32, 61, 32])).bind (printF n (.expr e))
    | .body f => (encT [40] [41] (loopT (fun i => putT (nameT6 (getT (parsT f) i))) 0 (lenT (parsT f))) s k).bind fun s k => (printF n (.block (bodyT f)) s k).bind (putT [101, 110, 100])
    | .stmts b => seqT (fun i s k => (printF n (.stmt (getT b i)) s k).bind (putT [10])) 0 (lenT b) s k
    | .block b => (putT [10] s k).bind (printF n (.stmts b))
    | .stmt x => if isS x = false ∨ kindT x < 1 ∨ 11 < kindT x then .bad 2 else (begT s k).bind fun s k =>
        if kindT x = 1 then (putsT [[108, 111, 99, 97, 108, 32], nameT6 x] s k).bind (printF n (.value [32, 61, 32] (rightT x)))
        else if kindT x = 2 then (printF n (.expr (leftT x)) s k).bind fun s k => (putT [32, 61, 32] s k).bind (printF n (.expr (rightT x)))
        else if kindT x = 3 then printF n (.expr (rightT x)) s k
        else if kindT x = 8 then (putT [114, 101, 116, 117, 114, 110] s k).bind (printF n (.value [32] (rightT x)))
        else if kindT x = 9 then putT [98, 114, 101, 97, 107] s k
        else if kindT x = 11 then printF n (.named x) s k
        else (printF n (.blocks x) s k).bind (putT [101, 110, 100])
    | .value ahead e => if isX e = true then (putT ahead s k).bind (printF n (.expr e)) else .ok s k
    | .blocks x =>
        if kindT x = 4 then (putT [100, 111] s k).bind (printF n (.block (aT x)))
        else if kindT x = 5 then (putT [119, 104, 105, 108, 101, 32] s k).bind fun s k => (printF n (.expr (rightT x)) s k).bind fun s k => (putT [32, 100, 111] s k).bind (printF n (.block (aT x)))
        else if kindT x = 6 then (putT [105, 102] s k).bind (printF n (.choice x))
        else if kindT x = 7 then (putsT [[102, 111, 114, 32], nameT6 x, [32, 61, 32]] s k).bind fun s k => (printF n (.expr (rightT x)) s k).bind fun s k => (putT [44, 32] s k).bind fun s k => (printF n (.expr (toT x)) s k).bind fun s k => (putT [32, 100, 111] s k).bind (printF n (.block (aT x)))
        else (putT [116, 114, 121] s k).bind fun s k => (printF n (.block (aT x)) s k).bind fun s k => (putsT [[99, 97, 116, 99, 104, 32], nameT6 x] s k).bind (printF n (.block (bT x)))
    | .choice x => (putT [32] s k).bind fun s k => (printF n (.expr (rightT x)) s k).bind fun s k => (putT [32, 116, 104, 101, 110] s k).bind fun s k => (printF n (.block (aT x)) s k).bind fun s k =>
        if lenT (bT x) = 0 then .ok s k
        else if lenT (bT x) = 1 ∧ isS (getT (bT x) 0) = true ∧ kindT (getT (bT x) 0) = 6 then (begT s k).bind fun s k => (putT [101, 108, 115, 101, 105, 102] s k).bind (printF n (.choice (getT (bT x) 0)))
        else (putT [101, 108, 115, 101] s k).bind (printF n (.block (bT x)))
    | .named x => (putsT [[108, 111, 99, 97, 108, 32, 102, 117, 110, 99, 116, 105, 111, 110, 32], nameT6 x] s k).bind fun s k => if isOf (rightT x) 9 = true then (begT s k).bind (printF n (.body (rightT x))) else .bad 2
end Go.Proofs.YtoggkigfijgbfaaGreatDoor.P6
namespace Go.Proofs.YtoggkigfijgbfaaGreatDoor.P6
set_option maxRecDepth 20000
open Go.RowKit

/-- The writer's block: what 'addr' holds, the buffer, the count. -/
structure WIn (w : World) (p : Nat) (a v : Value) (s : List UInt8) (k : Nat) : Prop where
  blk : w.heap[p]? = some (.cells #[a, v, iV k] 122 (0, 0))
  addr : a = .pointer none ∨ a = pV p
  own : w.ownsRow (p + 1) 5 1 v s.length (Lib.byteCells s)
  short : s.length ≤ 32768
  few : k ≤ 65536
  full : v = .slice none 0 0 ∨ s ≠ []
def WAt (w : World) (p : Nat) (s : List UInt8) (k : Nat) : Prop := ∃ a v, WIn w p a v s k
theorem lt_of_blk {w : World} {p : Nat} {o : Obj} (h : w.heap[p]? = some o) : p < w.heap.size := by
  rcases Nat.lt_or_ge p w.heap.size with h' | h'
  · exact h'
  · simp [Array.getElem?_eq_none h'] at h
theorem WIn.lt {w : World} {p : Nat} {a v : Value} {s : List UInt8} {k : Nat} (h : WIn w p a v s k) : p < w.heap.size := lt_of_blk h.blk
theorem WAt.lt {w : World} {p : Nat} {s : List UInt8} {k : Nat} (h : WAt w p s k) : p < w.heap.size := by obtain ⟨a, v, h⟩ := h; exact h.lt
theorem WIn.ne {w : World} {p : Nat} {a v : Value} {s : List UInt8} {k : Nat} (h : WIn w p a v s k) : ∀ b, v.ownBlock = some b → p < b := fun b hb => by have := (h.own.lt b hb).1; omega
theorem WIn.c0 {w : World} {p : Nat} {a v : Value} {s : List UInt8} {k : Nat} (h : WIn w p a v s k) : w.cell? ⟨p, 0, none⟩ = some a := by rw [Lib.cell_of_heap h.blk]; rfl
theorem WIn.c1 {w : World} {p : Nat} {a v : Value} {s : List UInt8} {k : Nat} (h : WIn w p a v s k) : w.cell? ⟨p, 1, none⟩ = some v := by rw [Lib.cell_of_heap h.blk]; rfl
theorem WIn.c2 {w : World} {p : Nat} {a v : Value} {s : List UInt8} {k : Nat} (h : WIn w p a v s k) : w.cell? ⟨p, 2, none⟩ = some (iV k) := by rw [Lib.cell_of_heap h.blk]; rfl
theorem WIn.warm {w : World} {p : Nat} {a v : Value} {s : List UInt8} {k : Nat} (h : WIn w p a v s k) (o : Nat) : w.frozen? ⟨p, o, none⟩ = false := Lib.frozen_of_heap h.blk o
theorem WIn.shape {w : World} {p : Nat} {a v : Value} {s : List UInt8} {k : Nat} (h : WIn w p a v s k) : w.shape? p = some (122, 3) := by simp [World.shape?, h.blk]
theorem WIn.sl {w : World} {p : Nat} {a v : Value} {s : List UInt8} {k : Nat} (h : WIn w p a v s k) : ∃ A c, v = .slice A s.length c := by
  rcases h.own.2 with ⟨hv, hz⟩ | ⟨g, cap, cur, hv, _⟩
  · exact ⟨none, 0, by rw [hv]; rw [hz]⟩
  · exact ⟨_, _, hv⟩
/-- What a call of the writer leaves as it was: all blocks but the writer's own and rows of bytes. -/
structure WK (p : Nat) (w w' : World) : Prop where
  below : Below p w w'
  kept : Lib.OthersKept 5 (some p) w w'
theorem WK.refl (p : Nat) (w : World) : WK p w w := ⟨Below.refl _ _, Lib.OthersKept.refl _ _ _⟩
theorem WK.trans {p : Nat} {a b c : World} (h : WK p a b) (k : WK p b c) : WK p a c := ⟨h.below.trans k.below, h.kept.trans k.kept⟩
theorem WK.drew {p : Nat} {a w : World} (h : WK p a w) : WK p a w.drew := ⟨h.below.drew, h.kept.drew⟩
theorem WK.alloc {p : Nat} {a w : World} (h : WK p a w) (hp : p ≤ w.heap.size) (o : Obj) : WK p a (w.alloc o) := ⟨h.below.alloc hp o, h.kept.alloc o⟩
theorem WK.newer {p : Nat} {a b c : World} (h : WK p a b) (hp : p ≤ b.heap.size) (k : Below b.heap.size b c) : WK p a c :=
  ⟨h.below.trans (k.mono hp), h.kept.trans fun i o hi _ _ => by rw [k.block i (lt_of_blk hi)]; exact hi⟩
theorem WAt.below {w w' : World} {p : Nat} {s : List UInt8} {k : Nat} (h : WAt w p s k) (hb : Below w.heap.size w w') : WAt w' p s k := by
  obtain ⟨a, v, h⟩ := h
  exact ⟨a, v, (hb.block p h.lt).trans h.blk, h.addr, h.own.kept (row := none) ⟨hb.os, hb.tape, hb.output, hb.size, fun k hk _ => hb.block k hk⟩ (by rcases h.own.2 with ⟨rfl, _⟩ | ⟨g, cap, cur, rfl, _⟩ <;> simp [Value.ownBlock]), h.short, h.few, h.full⟩
theorem WAt.alloc {w : World} {p : Nat} {s : List UInt8} {k : Nat} (h : WAt w p s k) (o : Obj) : WAt (w.alloc o) p s k := h.below ((Below.refl _ _).alloc (Nat.le_refl _) o)
theorem WAt.drew {w : World} {p : Nat} {s : List UInt8} {k : Nat} (h : WAt w p s k) : WAt w.drew p s k := h.below (Below.refl _ _).drew
/-- A block that is no row of bytes and not the writer's stays. -/
theorem WK.block {p : Nat} {w w' : World} (h : WK p w w') {b : Nat} {o : Obj} (hb : w.heap[b]? = some o) (hp : b ≠ p) (ho : ∀ c fz, o ≠ .cells c 5 fz) : w'.heap[b]? = some o := h.kept b o hb (by simpa using hp) ho
theorem infoByte : (Tryz.prog.info? 5).map (fun i => (i.zero, i.size, i.bytes)) = some (some (.int .u8 0), 1, 1) := by kernel_rfl
theorem sizeBuilder : (Tryz.prog.info? 120).map (·.size) = some 2 := by kernel_rfl
theorem liesBuilder : liesAt Tryz.prog Tryz.prog.depth 122 (3 / Tryz.prog.cellsOf 122) 0 120 1 = true := by kernel_rfl
theorem cellsByte : Tryz.prog.cellsOf 5 = 1 := by kernel_rfl
theorem Len_at {w : World} {p : Nat} {s : List UInt8} {k : Nat} (h : WAt w p s k) : Calls Tryz.prog 139 #[pV p] w fun e w' => e = .returned (iV s.length) ∧ w' = w := by
  obtain ⟨a, v, h⟩ := h
  have c1 := h.c1
  obtain ⟨A, c, rfl⟩ := h.sl
  go_enter Tryz.func139, Tryz.ntmps139
  go_wp2
  go_ret
  exact ⟨rfl, rfl⟩
set_option maxHeartbeats 1000000 in
theorem copy_used {w : World} {p : Nat} {v : Value} {s : List UInt8} {k : Nat} (h : WIn w p (pV p) v s k) : Calls Tryz.prog 186 #[pV p] w fun e w' => e = .returned (.tuple #[]) ∧ w' = w := by
  obtain ⟨j, hj, _⟩ := Option.map_eq_some_iff.1 sizeBuilder
  have c0 := h.c0
  go_enter Tryz.func186, Tryz.ntmps186
  go_wp2
  rw [Lib.run_neq_ptr_same w _ Tryz.underlying118 hj]
  go_wp2
  go_end0
  exact ⟨rfl, rfl⟩
set_option maxHeartbeats 1000000 in
theorem copy_fresh {w : World} {p : Nat} {v : Value} {s : List UInt8} {k : Nat} (h : WIn w p (.pointer none) v s k) : Calls Tryz.prog 186 #[pV p] w fun e w' => e = .returned (.tuple #[]) ∧ w' = w.setCell ⟨p, 0, none⟩ (pV p) := by
  obtain ⟨j, hj, hjs⟩ := Option.map_eq_some_iff.1 sizeBuilder
  have c0 := h.c0
  have f0 := h.warm 0
  go_enter Tryz.func186, Tryz.ntmps186
  go_wp2
  rw [Lib.run_to_unsafe w ⟨p, 0, none⟩ Tryz.underlying118 Tryz.underlying104 hj (by rw [hjs]; decide) h.shape (Nat.zero_lt_succ 2)]
  simp only [Result.andThen]
  rw [Oper.upon_value]
  go_wp2
  rw [run_callFunc_extern Tryz.func228 (by kernel_rfl) (by kernel_rfl) (by kernel_rfl) (e := Extern.AbiNoEscape.same) (by kernel_rfl)]
  rw [Lib.run_noEscape]
  simp only [Result.andThen]
  rw [Oper.upon_value]
  go_wp2
  rw [Lib.run_from_unsafe w ⟨p, 0, none⟩ Tryz.underlying104 Tryz.underlying118 hj h.shape liesBuilder]
  simp only [Result.andThen]
  rw [Oper.upon_value]
  go_wp2
  go_end0
  exact ⟨rfl, rfl⟩
theorem WIn.used {w : World} {p : Nat} {a v : Value} {s : List UInt8} {k : Nat} (h : WIn w p a v s k) : WIn (w.setCell ⟨p, 0, none⟩ (pV p)) p (pV p) v s k := by
  refine ⟨by simp [World.setCell, Array.getElem?_modify, h.blk], .inr rfl, ?_, h.short, h.few, h.full⟩
  refine h.own.kept (row := some p) ⟨rfl, rfl, rfl, by simp [World.setCell], fun k _ hk => Below.heap_setCell _ _ _ _ (fun e => hk (by simp [e]))⟩ ?_
  refine Or.inr fun e => ?_
  have := h.ne p e
  omega
theorem WK.set {p : Nat} {a w : World} (h : WK p a w) (i : Nat) (v : Value) : WK p a (w.setCell ⟨p, i, none⟩ v) := ⟨h.below.setCell (p := ⟨p, i, none⟩) (Nat.le_refl _) v, h.kept.setCell ⟨p, i, none⟩ rfl v⟩
theorem copy_any {w : World} {p : Nat} {a v : Value} {s : List UInt8} {k : Nat} (h : WIn w p a v s k) : Calls Tryz.prog 186 #[pV p] w fun e w' => e = .returned (.tuple #[]) ∧ WIn w' p (pV p) v s k ∧ WK p w w' := by
  rcases h.addr with rfl | rfl
  · refine (copy_fresh h).mono ?_
    rintro e w' ⟨rfl, rfl⟩
    exact ⟨rfl, h.used, (WK.refl _ _).set _ _⟩
  · refine (copy_used h).mono ?_
    rintro e w' ⟨rfl, rfl⟩
    exact ⟨rfl, h, WK.refl _ _⟩
theorem own_sl {w : World} {B n : Nat} {e : TypeId} {v : Value} {xs : List Value} (h : w.ownsRow B e 1 v n xs) : ∃ A k c, v = .slice A k c := by
  rcases h.2 with ⟨hv, _⟩ | ⟨g, cap, cur, hv, _⟩
  · exact ⟨_, _, _, hv⟩
  · exact ⟨_, _, _, hv⟩
theorem own_kind {w : World} {B n : Nat} {e : TypeId} {v : Value} {xs : List Value} (h : w.ownsRow B e 1 v n xs) : ∀ g, v.ownBlock = some g → ∃ c fz, w.heap[g]? = some (.cells c e fz) := by
  intro g hg
  rcases h.2 with ⟨rfl, _⟩ | ⟨g', cap, cur, rfl, _, hgg, _⟩
  · simp [Value.ownBlock] at hg
  · simp [Value.ownBlock] at hg
    subst hg
    exact ⟨cur, _, hgg⟩
theorem byte_more (s t : List UInt8) : Lib.byteCells s ++ Lib.strCells ⟨t.toArray⟩ = Lib.byteCells (s ++ t) := by simp [Lib.byteCells, Lib.strCells]
/-- Behind an append, and its store. -/
theorem WIn.wrote {w1 w2 : World} {p n' c : Nat} {v : Value} {s t : List UInt8} {k : Nat} {A : Option Addr} (h : WIn w1 p (pV p) v s k) (hl : s.length + t.length ≤ 32768) (hg : w1.grownBy w2 v.ownBlock)
    (hn : Value.slice A n' c = .slice none 0 0 ↔ v = .slice none 0 0 ∧ (⟨t.toArray⟩ : ByteArray).size = 0)
    (ho : w2.ownsRow (p + 1) 5 1 (.slice A n' c) (s.length + t.length) (Lib.byteCells s ++ Lib.strCells ⟨t.toArray⟩)) : WAt (w2.setCell ⟨p, 1, none⟩ (.slice A n' c)) p (s ++ t) k ∧ WK p w1 (w2.setCell ⟨p, 1, none⟩ (.slice A n' c)) := by
  have hb := (hg.block p h.lt (fun e => by have := h.ne p e.symm; omega)).trans h.blk
  rw [byte_more, ← List.length_append] at ho
  have hk : WK p w1 w2 := ⟨⟨hg.os, hg.tape, hg.output, hg.size, fun k hk => hg.block k (by have := h.lt; omega) (fun e => by have := h.ne k e.symm; omega)⟩, (Lib.OthersKept.refl _ _ _).grown hg (own_kind h.own)⟩
  refine ⟨⟨pV p, .slice A n' c, ?_, .inr rfl, ?_, by rw [List.length_append]; exact hl, h.few, ?_⟩, hk.set _ _⟩
  · simp [World.setCell, Array.getElem?_modify, hb]
  · refine ho.kept (row := some p) ⟨rfl, rfl, rfl, by simp [World.setCell], fun k _ hk => Below.heap_setCell _ _ _ _ (fun e => hk (by simp [e]))⟩ (.inr fun e => ?_)
    have := (ho.lt p e).1
    omega
  · by_cases hv : Value.slice A n' c = .slice none 0 0
    · exact .inl hv
    · refine .inr fun e => hv (hn.2 ?_)
      rw [List.append_eq_nil_iff] at e
      refine ⟨h.full.elim id (fun hs => absurd e.1 hs), ?_⟩
      rw [e.2]; rfl
set_option maxHeartbeats 1000000 in
theorem Write_at {w : World} {p : Nat} {s : List UInt8} {k : Nat} (t : List UInt8) (h : WAt w p s k) (hl : s.length + t.length ≤ 32768) : Calls Tryz.prog 162 #[pV p, sV t] w fun e w' => e = .returned (.tuple #[iV t.length, .nilIface]) ∧ WAt w' p (s ++ t) k ∧ WK p w w' := by
  obtain ⟨a, v0, h⟩ := h
  obtain ⟨i0, hi, hz0, hz1, hz2⟩ := info_parts infoByte
  have C := Lib.hid (copy_any h)
  have hst : (⟨t.toArray⟩ : ByteArray).size = t.length := by show t.toArray.size = _; simp
  clear h
  go_enter Tryz.func162, Tryz.ntmps162
  go_wp2_with (first
    | (go_at_call 186; refine C.out.mono ?_; rintro e w1 ⟨rfl, h1, hk1⟩; have c0 := h1.c0; have c1 := h1.c1; have H1 := Lib.hid h1; have hK1 := Lib.hid hk1; clear h1 hk1)
    | (at_builtin; refine Lib.wpList_append_own_string _ rfl _ _ 22 9 rfl (p + 1) 5 i0 Tryz.underlying22 Tryz.underlying9 hi hz0 hz1 hz2 _ _ _ rfl H1.out.own ⟨t.toArray⟩ rfl (by rw [hst]; unfold maxLen; omega) (by rw [hst]; omega) H1.out.lt ?_; intro v' w2 hown' hgrow hnil; have b2 := (hgrow.block p H1.out.lt (fun e => by have := H1.out.ne p e.symm; omega)).trans H1.out.blk; have d1 := Lib.cell_of_heap b2 1; have f1 := Lib.frozen_of_heap b2 1; rw [hst] at hown'; obtain ⟨ao, n', cap, rfl⟩ := own_sl hown'))
  go_ret2
  obtain ⟨m1, m2⟩ := H1.out.wrote hl hgrow hnil hown'
  exact ⟨rfl, m1, hK1.out.trans m2⟩
/-- Behind String: the text; the writer is not looked at again. -/
theorem String_at {w : World} {p : Nat} {s : List UInt8} {k : Nat} (h : WAt w p s k) : Calls Tryz.prog 61 #[pV p] w fun e w' => e = .returned (sV s) ∧ Below p w w' := by
  obtain ⟨a, v, h⟩ := h
  rcases h.own.2 with ⟨rfl, hz⟩ | ⟨g, cap, cur, rfl, hbg, hg, hnc, hcm, hcs, htake⟩
  · have hs : s = [] := List.eq_nil_of_length_eq_zero hz
    subst hs
    have c1 : w.drew.cell? ⟨p, 1, none⟩ = some (.slice none 0 0) := h.c1
    have hSD : (Builtin.unsafeSliceData_ #[22] 163 #[.slice none 0 0]).run Tryz.prog w.drew = .ok (.pointer none) w.drew := rfl
    have hUS : ∀ W q, (Builtin.unsafeString_ #[163, 3] 9 #[.pointer q, .int .i64 0]).run Tryz.prog W = .ok (.string .empty) W := fun W q => Lib.run_unsafeString_none W _ _ _ q
    go_enter Tryz.func61, Tryz.ntmps61
    go_wp2
    go_region
    all_goals (go_wp2; go_ret; exact ⟨rfl, (Below.refl _ _).drew⟩)
  · by_cases h0 : s = []
    · exact (h.full.elim (fun e => by cases e) (fun e => e h0)).elim
    · have hl0 : s.length ≠ 0 := by simpa using h0
      have c1 : w.drew.cell? ⟨p, 1, none⟩ = some (.slice (some ⟨g, 0, none⟩) s.length cap) := h.c1
      have hSD : (Builtin.unsafeSliceData_ #[22] 163 #[.slice (some ⟨g, 0, none⟩) s.length cap]).run Tryz.prog w.drew = .ok (.pointer (some ⟨g, 0, none⟩)) w.drew :=
        Lib.run_unsafeSliceData_row _ _ _ _ _ _ (by omega)
      have hUS : (Builtin.unsafeString_ #[163, 3] 9 #[.pointer (some ⟨g, 0, none⟩), .int .i64 s.length]).run Tryz.prog w.drew = .ok (.string ⟨s.toArray⟩) (w.drew.freeze ⟨g, 0, none⟩ s.length) := by
        refine Lib.run_unsafeString_row w.drew 163 3 9 5 Tryz.underlying163 cellsByte g cur.size (by have hg' : w.drew.heap[g]? = some (.cells cur 5 (0, 0)) := hg; simp [World.shape?, hg']) s h0 (by omega) (by unfold maxLen at hcm; omega) ?_
        intro j x hx
        have := h.own.cells (g := g) rfl j (.int .u8 x.toNat) (by simp [Lib.byteCells, hx])
        exact this
      go_enter Tryz.func61, Tryz.ntmps61
      go_wp2
      go_region
      all_goals (go_wp2; go_ret; exact ⟨rfl, Lib.below_freeze (Below.drew (Below.refl p w)) (p := ⟨g, 0, none⟩) (by show p ≤ g; omega) _⟩)
end Go.Proofs.YtoggkigfijgbfaaGreatDoor.P6
namespace Go.Proofs.YtoggkigfijgbfaaGreatDoor.P6
set_option maxRecDepth 20000
open Go.RowKit

abbrev badV (c : Int) : Ending := .panicked [{ v := .iface 29 (iV c), recovered := false }]
abbrev voidV : Ending := .returned (.tuple #[])
/-- What a call leaves whose plain answer is r. -/
def WEnds (p : Nat) (r : WRes) (w : World) (e : Ending) (w' : World) : Prop :=
  match r with
  | .out => False
  | .bad c => e = badV c ∧ WK p w w'
  | .ok s k => e = voidV ∧ WAt w' p s k ∧ WK p w w'
/-- The same, ahead of what comes next. -/
def Step (p : Nat) (f : List UInt8 → Nat → WRes) (R : WRes) (w : World) (e : Ending) (w' : World) : Prop :=
  (∃ c, R = .bad c ∧ e = badV c ∧ WK p w w') ∨ ∃ s k, f s k = R ∧ e = voidV ∧ WAt w' p s k ∧ WK p w w'
theorem WEnds.step {p : Nat} {r R : WRes} {f : List UInt8 → Nat → WRes} {w w' : World} {e : Ending} (h : WEnds p r w e w') (hR : r.bind f = R) : Step p f R w e w' := by
  cases r with
  | out => exact h.elim
  | bad c => exact .inl ⟨c, hR.symm, h.1, h.2⟩
  | ok s k => exact .inr ⟨s, k, hR, h.1, h.2.1, h.2.2⟩
theorem bind_ok (r : WRes) : r.bind .ok = r := by cases r <;> rfl
theorem ok_bind (s : List UInt8) (k : Nat) (f : List UInt8 → Nat → WRes) : (WRes.ok s k).bind f = f s k := rfl
theorem bad_bind (c : Int) (f : List UInt8 → Nat → WRes) : (WRes.bad c).bind f = .bad c := rfl
theorem bind_bind (r : WRes) (f g : List UInt8 → Nat → WRes) : (r.bind f).bind g = r.bind fun s k => (f s k).bind g := by cases r <;> rfl
theorem ends_ok {p : Nat} {s : List UInt8} {k : Nat} {R : WRes} {w w' : World} (h : WRes.ok s k = R) (ha : WAt w' p s k) (hk : WK p w w') : WEnds p R w voidV w' := by subst h; exact ⟨rfl, ha, hk⟩
theorem ends_bad {p : Nat} {c : Int} {R : WRes} {w w1 w' : World} (h : R = .bad c) (h1 : WK p w w1) (hk : WK p w1 w') : WEnds p R w (badV c) w' := by subst h; exact ⟨rfl, h1.trans hk⟩
theorem WK.more {p : Nat} {a w : World} (h : WK p a w) (hp : p ≤ a.heap.size) (o : Obj) : WK p a (w.alloc o) := h.alloc (Nat.le_trans hp h.below.size) o
set_option maxHeartbeats 1000000 in
theorem begin_any {w : World} {p : Nat} {s : List UInt8} {k : Nat} (h : WAt w p s k) : Calls Tryz.prog 157 #[pV p] w (WEnds p (begT s k) w) := by
  obtain ⟨a, v, h⟩ := h
  have c2 := h.c2
  have f2 := h.warm 2
  have hf := h.few
  unfold begT
  by_cases hk : k = 65536
  · subst hk
    rw [if_pos rfl]
    go_enter Tryz.func157, Tryz.ntmps157
    go_wp2
    exact ⟨rfl, ends_bad rfl (WK.refl _ _) (WK.refl _ _)⟩
  · rw [if_neg hk]
    have hk2 : ¬ ((k : Nat) : Int) = 65536 := by omega
    go_enter Tryz.func157, Tryz.ntmps157
    go_wp2
    go_end0
    have e1 : wrap64 (((k : Nat) : Int) + 1) = ((k + 1 : Nat) : Int) := by rw [IntWalk.wrap64_in _ ⟨by omega, by omega⟩]; omega
    refine ⟨rfl, ⟨a, v, ?_, h.addr, ?_, h.short, by omega, h.full⟩, (WK.refl _ _).set _ _⟩
    · first | rw [e1] | skip
      simp [World.setCell, Array.getElem?_modify, h.blk]
    · refine h.own.kept (row := some p) ⟨rfl, rfl, rfl, by simp [World.setCell], fun k _ hk => Below.heap_setCell _ _ _ _ (fun e => hk (by simp [e]))⟩ (.inr fun e => ?_)
      have := h.ne p e
      omega
/-- The texts of a call, in their row. -/
def Texts (w : World) (g : Nat) (ts : List (List UInt8)) : Prop := ∃ fz, w.heap[g]? = some (.cells (ts.map sV).toArray 9 fz)
theorem Texts.keep {w w' : World} {p g : Nat} {ts : List (List UInt8)} (h : Texts w g ts) (hg : g ≠ p) (hk : WK p w w') : Texts w' g ts := by
  obtain ⟨fz, h⟩ := h
  exact ⟨fz, hk.block h hg (by intro c f e; injection e with _ e; exact absurd e (by decide))⟩
theorem Texts.cell {w : World} {g : Nat} {ts : List (List UInt8)} (h : Texts w g ts) (i : Nat) (t : List UInt8) (ht : ts[i]? = some t) : w.cell? ⟨g, i, none⟩ = some (sV t) := by
  obtain ⟨fz, h⟩ := h
  rw [Lib.cell_of_heap h]
  simp [ht]
theorem size_list (t : List UInt8) : (⟨t.toArray⟩ : ByteArray).size = t.length := by show t.toArray.size = _; simp
structure PutRel (p g : Nat) (ts : List (List UInt8)) (w0 : World) (R : WRes) (i : Nat) (wr : World) : Prop where
  rest : ∃ s k, WAt wr p s k ∧ putsT (ts.drop i) s k = R
  row : Texts wr g ts
  kept : WK p w0 wr
set_option maxHeartbeats 2000000 in
theorem puts_any {w : World} {p g n c : Nat} {s : List UInt8} {k : Nat} (ts : List (List UInt8)) (h : WAt w p s k) (hn : n = ts.length) (ht : Texts w g ts) (hg : g ≠ p) (hs : ∀ t, t ∈ ts → t.length ≤ 1099511627776) (hc : n ≤ 1000) : Calls Tryz.prog 116 #[pV p, .slice (some ⟨g, 0, none⟩) n c] w (WEnds p (putsT ts s k) w) := by
  subst hn
  have REL0 : Hid (PutRel p g ts w (putsT ts s k) 0 w) := Lib.hid ⟨⟨s, k, h, by rw [List.drop_zero]⟩, ht, WK.refl _ _⟩
  generalize putsT ts s k = R at REL0
  clear h ht
  have hs := Lib.hid hs
  go_enter Tryz.func116, Tryz.ntmps116
  go_wp2
  go_loopw [5, 8] (fun u i wr => ∃ j : Nat, j ≤ ts.length ∧ i = iV j ∧ Hid (PutRel p g ts w R j wr)) (fun _ i _ => ts.length - (intOf i).toNat)
  case atStart => exact ⟨0, Nat.zero_le _, rfl, REL0⟩
  case round =>
    obtain ⟨j, hj, rfl, hF⟩ := hrel
    clear REL0
    obtain ⟨s, k, hW, hR⟩ := hF.out.rest
    by_cases hlt : j < ts.length
    · obtain ⟨t, ht⟩ : ∃ t, ts[j]? = some t := ⟨_, List.getElem?_eq_getElem (by omega)⟩
      have htl := hs.out t (List.mem_of_getElem? ht)
      have hsz := size_list t
      have hc1 := hF.out.row.cell j t ht
      have hd : ts.drop j = t :: ts.drop (j + 1) := by
        rw [List.drop_eq_getElem_cons (by omega)]
        congr 1
        have := List.getElem?_eq_getElem (l := ts) (i := j) (by omega)
        rw [this] at ht
        exact Option.some.inj ht
      rw [hd] at hR
      unfold putsT putT at hR
      have hsl : s.length ≤ 32768 := by obtain ⟨_, _, h⟩ := hW; exact h.short
      have k0 : (0 : Int) ≤ (j : Int) := by omega
      have k1 : (j : Int) < (ts.length : Int) := by omega
      have LN := Lib.hid (Len_at hW)
      have e1 : wrap64 (32768 - (s.length : Int)) = 32768 - s.length := IntWalk.wrap64_in _ ⟨by omega, by omega⟩
      by_cases hb : 32768 < s.length + t.length
      · rw [if_pos hb, bad_bind] at hR
        have hb2 : 32768 - (s.length : Int) < (t.length : Int) := by omega
        clear ht hd hlt
        go_wp2_with (first
          | (go_at_call 139; refine LN.out.mono ?_; rintro e w1 ⟨rfl, hq⟩; obtain rfl := hq.symm))
        exact ⟨rfl, ends_bad hR.symm hF.out.kept (WK.refl _ _)⟩
      · rw [if_neg hb, ok_bind] at hR
        have hb2 : ¬ 32768 - (s.length : Int) < (t.length : Int) := by omega
        have WR := Lib.hid (Write_at t hW (by omega))
        clear ht hd hlt hW
        go_wp2_with (first
          | (go_at_call 139; refine LN.out.mono ?_; rintro e w1 ⟨rfl, hq⟩; obtain rfl := hq.symm)
          | (go_at_call 162; refine WR.out.mono ?_; rintro e w1 ⟨rfl, h1, hk1⟩))
        go_roundw
        case rel =>
          exact ⟨j + 1, by omega, by go_num, Lib.hid ⟨⟨_, _, h1, hR⟩, hF.out.row.keep hg hk1, hF.out.kept.trans hk1⟩⟩
        case measure => show _ - (((j : Int) + 1)).toNat < _ - ((j : Int)).toNat; omega
    · obtain rfl : j = ts.length := by omega
      rw [List.drop_eq_nil_of_le (by omega)] at hR
      have k1 : ¬ (ts.length : Int) < (ts.length : Int) := by omega
      go_wp2
      go_end0
      exact ends_ok hR hW hF.out.kept
end Go.Proofs.YtoggkigfijgbfaaGreatDoor.P6
namespace Go.Proofs.YtoggkigfijgbfaaGreatDoor.P6
set_option maxRecDepth 20000
open Go.RowKit

def Ints (w : World) (g : Nat) (ks : List Int) : Prop := ∃ fz, w.heap[g]? = some (.cells (ks.map iV).toArray 3 fz)
theorem Ints.cell {w : World} {g : Nat} {ks : List Int} (h : Ints w g ks) (i : Nat) (t : Int) (ht : ks[i]? = some t) : w.cell? ⟨g, i, none⟩ = some (iV t) := by
  obtain ⟨fz, h⟩ := h
  rw [Lib.cell_of_heap h]
  simp [ht]
set_option maxHeartbeats 1000000 in
theorem index_any {w : World} {g c : Nat} (ks : List Int) (x : Int) (h : Ints w g ks) (hn : ks.length ≤ 1000) : Calls Tryz.prog 259 #[.slice (some ⟨g, 0, none⟩) ks.length c, iV x] w fun e w' => (∃ i : Int, e = .returned (iV i) ∧ decide (0 ≤ i) = ks.contains x) ∧ w' = w := by
  have hI := Lib.hid h
  clear h
  go_enter Tryz.func259, Tryz.ntmps259
  go_wp2
  go_loopw [5, 8] (fun _ i wr => ∃ j : Nat, j ≤ ks.length ∧ i = iV j ∧ wr = w ∧ Hid (x ∉ ks.take j)) (fun _ i _ => ks.length - (intOf i).toNat)
  case atStart => exact ⟨0, Nat.zero_le _, rfl, rfl, Lib.hid (by simp)⟩
  case round =>
    obtain ⟨j, hj, rfl, rfl, hF⟩ := hrel
    by_cases hlt : j < ks.length
    · have k0 : (0 : Int) ≤ (j : Int) := by omega
      have k1 : (j : Int) < (ks.length : Int) := by omega
      obtain ⟨t, ht⟩ : ∃ t, ks[j]? = some t := ⟨_, List.getElem?_eq_getElem hlt⟩
      have hc := hI.out.cell j t ht
      by_cases hx : x = t
      · subst hx
        have hm := List.mem_of_getElem? ht
        clear ht hlt
        go_wp2
        go_ret
        exact ⟨⟨(j : Int), rfl, by simp [hm]⟩, rfl⟩
      · have hx2 : (x == t) = false := beq_eq_false_iff_ne.2 hx
        have hF2 : x ∉ ks.take (j + 1) := by
          rw [List.take_add_one, ht]
          simp [hF.out, hx]
        replace hF2 := Lib.hid hF2
        clear ht hlt hx
        go_wp2
        go_roundw
        case rel => exact ⟨j + 1, by omega, by go_num, by first | rfl | trivial, hF2⟩
        case measure => show _ - (((j : Int) + 1)).toNat < _ - ((j : Int)).toNat; omega
    · obtain rfl : j = ks.length := by omega
      have k1 : ¬ (ks.length : Int) < (ks.length : Int) := by omega
      have hm := hF.out
      rw [List.take_length] at hm
      replace hm := Lib.hid hm
      go_wp2
      go_ret
      exact ⟨⟨-1, rfl, by simp [hm.out]⟩, rfl⟩
theorem contains_any {w : World} {g c n : Nat} (ks : List Int) (x : Int) (h : Ints w g ks) (hl : n = ks.length) (hn : ks.length ≤ 1000) : Calls Tryz.prog 246 #[.slice (some ⟨g, 0, none⟩) n c, iV x] w fun e w' => e = .returned (.bool (ks.contains x)) ∧ w' = w := by
  subst hl
  have I := Lib.hid (index_any (c := c) ks x h hn)
  clear h
  go_enter Tryz.func246, Tryz.ntmps246
  go_wp2_with (go_at_call 259; refine I.out.mono ?_; rintro e w1 ⟨⟨i, rfl, hi⟩, hq⟩; obtain rfl := hq.symm; replace hi := Lib.hid hi)
  all_goals
    go_ret
    exact ⟨by rw [← hi.out]; simp [*], rfl⟩
/-- A value that is an expression of the tree at the beginning. -/
abbrev InB (b : World) : Nat → Prop := fun g => g < b.heap.size
structure TE (b : World) (t : Tree) (v : Value) : Prop where
  rd : At b (InB b) t v
  ok : okT .e t = true
/-- A slice that is a list of the tree at the beginning. -/
structure TL (b : World) (q : Srt) (t : Tree) (v : Value) : Prop where
  rd : Sl b (InB b) t v
  ok : okT q t = true
  few : lenT t ≤ 1048576
structure TS (b : World) (t : Tree) (v : Value) : Prop where
  rd : At b (InB b) t v
  ok : okT .s t = true
structure ExB (b : World) (t : Tree) (g : Nat) (l : Int) (va vb vk vs vp vy : Value) : Prop where
  is : isX t = true
  lt : g < b.heap.size
  c : ExC b g (kindT t) l (numT t) (nameT6 t) va vb vk vs vp vy
  l : TE b (leftT t) va
  r : TE b (rightT t) vb
  keys : TL b .es (keysT t) vk
  args : TL b .es (argsT t) vs
  pars : TL b .ts (parsT t) vp
  body : TL b .ss (bodyT t) vy
  short : (nameT6 t).length ≤ 32768
  n0 : -9223372036854775808 ≤ numT t
  n1 : numT t ≤ 9223372036854775807
structure StB (b : World) (t : Tree) (g : Nat) (l : Int) (va vb vo vx vy : Value) : Prop where
  is : isS t = true
  lt : g < b.heap.size
  c : StC b g (kindT t) l (nameT6 t) va vb vo vx vy
  l : TE b (leftT t) va
  r : TE b (rightT t) vb
  to : TE b (toT t) vo
  aa : TL b .ss (aT t) vx
  bb : TL b .ss (bT t) vy
  short : (nameT6 t).length ≤ 32768
theorem TE.cases {b : World} {t : Tree} {v : Value} (h : TE b t v) : (t = .nil ∧ v = .pointer none) ∨ ∃ g l va vb vk vs vp vy, v = pV g ∧ ExB b t g l va vb vk vs vp vy := by
  obtain ⟨hr, ho⟩ := h
  cases t with
  | nil => exact .inl ⟨rfl, hr⟩
  | ex k l n s x y ks xs ps bd =>
    obtain ⟨g, va, vb, Ak, ck, Ax, cx, Ap, cp, Ab, cb, rfl, hS, hc, h1, h2, h3, h4, h5, h6⟩ := hr
    simp only [okT, Bool.and_eq_true, decide_eq_true_eq] at ho
    obtain ⟨⟨o1, o2, o3⟩, o4, o5, ⟨z6, o6⟩, ⟨z7, o7⟩, ⟨z8, o8⟩, z9, o9⟩ := ho
    exact .inr ⟨g, l, va, vb, _, _, _, _, rfl, ⟨rfl, hS, hc, ⟨h1, o4⟩, ⟨h2, o5⟩, ⟨⟨_, _, rfl, h3⟩, o6, z6⟩, ⟨⟨_, _, rfl, h4⟩, o7, z7⟩, ⟨⟨_, _, rfl, h5⟩, o8, z8⟩, ⟨⟨_, _, rfl, h6⟩, o9, z9⟩, o1, o2, o3⟩⟩
  | _ => simp [okT] at ho
theorem TS.cases {b : World} {t : Tree} {v : Value} (h : TS b t v) : (t = .nil ∧ v = .pointer none) ∨ ∃ g l va vb vo vx vy, v = pV g ∧ StB b t g l va vb vo vx vy := by
  obtain ⟨hr, ho⟩ := h
  cases t with
  | nil => exact .inl ⟨rfl, hr⟩
  | st k l s x y o xs ys =>
    obtain ⟨g, va, vb, vc, Ax, cx, Ay, cy, rfl, hS, hc, h1, h2, h3, h4, h5⟩ := hr
    simp only [okT, Bool.and_eq_true, decide_eq_true_eq] at ho
    obtain ⟨o1, o2, o3, o4, ⟨z5, o5⟩, z6, o6⟩ := ho
    exact .inr ⟨g, l, va, vb, vc, _, _, rfl, ⟨rfl, hS, hc, ⟨h1, o2⟩, ⟨h2, o3⟩, ⟨h3, o4⟩, ⟨⟨_, _, rfl, h4⟩, o5, z5⟩, ⟨⟨_, _, rfl, h5⟩, o6, z6⟩, o1⟩⟩
  | _ => simp [okT] at ho
theorem TE.node {b : World} {t : Tree} {v : Value} (h : TE b t v) (hx : isX t = true) : ∃ g l va vb vk vs vp vy, v = pV g ∧ ExB b t g l va vb vk vs vp vy := by
  rcases h.cases with ⟨rfl, _⟩ | h
  · cases hx
  · exact h
theorem TS.node {b : World} {t : Tree} {v : Value} (h : TS b t v) (hx : isS t = true) : ∃ g l va vb vo vx vy, v = pV g ∧ StB b t g l va vb vo vx vy := by
  rcases h.cases with ⟨rfl, _⟩ | h
  · cases hx
  · exact h
/-- An element of a list. -/
theorem row_at {b : World} : ∀ {t : Tree} {A : Option Addr} {i : Nat} (j : Nat), RowT b (InB b) t A i → j < lenT t → ∃ g x, A = some ⟨g, 0, none⟩ ∧ g < b.heap.size ∧ b.cell? ⟨g, i + j, none⟩ = some x ∧ At b (InB b) (getT t j) x
  | .cons h t, A, i, 0, ⟨g, x, hA, hg, hc, ha, _⟩, _ => ⟨g, x, hA, hg, hc, ha⟩
  | .cons h t, A, i, j + 1, ⟨g, x, _, hg, hc, ha, hr⟩, hj => by
    obtain ⟨g2, x2, e, hg2, hc2, ha2⟩ := row_at j hr (by simp only [lenT] at hj; omega)
    refine ⟨g2, x2, e, hg2, ?_, ha2⟩
    rw [show i + (j + 1) = i + 1 + j by omega]
    exact hc2
theorem ok_e : ∀ {t : Tree} (j : Nat), okT .es t = true → j < lenT t → okT .e (getT t j) = true
  | .cons h t, 0, ho, _ => by simp only [okT, Bool.and_eq_true] at ho; exact ho.1
  | .cons h t, j + 1, ho, hj => by simp only [okT, Bool.and_eq_true] at ho; exact ok_e j ho.2 (by simp only [lenT] at hj; omega)
theorem ok_s : ∀ {t : Tree} (j : Nat), okT .ss t = true → j < lenT t → okT .s (getT t j) = true
  | .cons h t, 0, ho, _ => by simp only [okT, Bool.and_eq_true] at ho; exact ho.1
  | .cons h t, j + 1, ho, hj => by simp only [okT, Bool.and_eq_true] at ho; exact ok_s j ho.2 (by simp only [lenT] at hj; omega)
theorem ok_t : ∀ {t : Tree} (j : Nat), okT .ts t = true → j < lenT t → ∃ s, getT t j = .tx s ∧ s.length ≤ 32768
  | .cons (.tx s) t, 0, ho, _ => by simp only [okT, Bool.and_eq_true, decide_eq_true_eq] at ho; exact ⟨s, rfl, ho.1⟩
  | .cons (.tx s) t, j + 1, ho, hj => by simp only [okT, Bool.and_eq_true] at ho; exact ok_t j ho.2 (by simp only [lenT] at hj; omega)
  | .cons .nil t, _, ho, _ => by simp [okT] at ho
  | .cons (.ex ..) t, _, ho, _ => by simp [okT] at ho
  | .cons (.st ..) t, _, ho, _ => by simp [okT] at ho
  | .cons (.cons ..) t, _, ho, _ => by simp [okT] at ho
theorem TL.sl {b : World} {q : Srt} {t : Tree} {v : Value} (h : TL b q t v) : ∃ A c, v = .slice A (lenT t) c := by obtain ⟨A, c, rfl, _⟩ := h.rd; exact ⟨A, c, rfl⟩
theorem TL.getE {b : World} {t : Tree} {A : Option Addr} {n c : Nat} (h : TL b .es t (.slice A n c)) (j : Nat) (hj : j < lenT t) : ∃ g x, A = some ⟨g, 0, none⟩ ∧ g < b.heap.size ∧ b.cell? ⟨g, j, none⟩ = some x ∧ TE b (getT t j) x := by
  obtain ⟨A', c', e, hr⟩ := h.rd
  cases e
  obtain ⟨g, x, h1, h2, h3, h4⟩ := row_at j hr hj
  rw [Nat.zero_add] at h3
  exact ⟨g, x, h1, h2, h3, h4, ok_e j h.ok hj⟩
theorem TL.getS {b : World} {t : Tree} {A : Option Addr} {n c : Nat} (h : TL b .ss t (.slice A n c)) (j : Nat) (hj : j < lenT t) : ∃ g x, A = some ⟨g, 0, none⟩ ∧ g < b.heap.size ∧ b.cell? ⟨g, j, none⟩ = some x ∧ TS b (getT t j) x := by
  obtain ⟨A', c', e, hr⟩ := h.rd
  cases e
  obtain ⟨g, x, h1, h2, h3, h4⟩ := row_at j hr hj
  rw [Nat.zero_add] at h3
  exact ⟨g, x, h1, h2, h3, h4, ok_s j h.ok hj⟩
theorem TL.getP {b : World} {t : Tree} {A : Option Addr} {n c : Nat} (h : TL b .ts t (.slice A n c)) (j : Nat) (hj : j < lenT t) : ∃ g s, A = some ⟨g, 0, none⟩ ∧ g < b.heap.size ∧ b.cell? ⟨g, j, none⟩ = some (sV s) ∧ getT t j = .tx s ∧ s.length ≤ 32768 := by
  obtain ⟨A', c', e, hr⟩ := h.rd
  cases e
  obtain ⟨g, x, h1, h2, h3, h4⟩ := row_at j hr hj
  rw [Nat.zero_add] at h3
  obtain ⟨s, h5, h6⟩ := ok_t j h.ok hj
  rw [h5] at h4
  obtain rfl : x = sV s := h4
  exact ⟨g, s, h1, h2, h3, h5, h6⟩
set_option maxHeartbeats 1000000 in
theorem isOf_any {b w : World} {g c n : Nat} {t : Tree} {v : Value} (ks : List Int) (hB : Below b.heap.size b w) (ht : TE b t v) (h : Ints w g ks) (hl : n = ks.length) (hn : ks.length ≤ 1000) : Calls Tryz.prog 205 #[v, .slice (some ⟨g, 0, none⟩) n c] w fun e w' => e = .returned (.bool (isX t && ks.contains (kindT t))) ∧ w' = w := by
  subst hl
  have CO := Lib.hid (fun (x : Int) (w' : World) (h : Ints w' g ks) => contains_any (c := c) ks x h rfl hn)
  have HI := Lib.hid h
  rcases ht.cases with ⟨rfl, rfl⟩ | ⟨gt, l, va, vb, vk, vs, vp, vy, rfl, hx⟩
  · clear h
    go_enter Tryz.func205, Tryz.ntmps205
    go_wp2
    go_ret
    exact ⟨rfl, rfl⟩
  · have c0 := (hB.cell (p := ⟨gt, 0, none⟩) hx.lt).trans hx.c.c0
    have hi := hx.is
    generalize kindT t = k at c0 ⊢
    clear h hx
    go_enter Tryz.func205, Tryz.ntmps205
    go_wp2_with (go_at_call 246; (with_reducible refine (CO.out _ _ HI.out).mono ?_); rintro e w1 ⟨rfl, hq⟩; obtain rfl := hq.symm)
    go_ret
    exact ⟨by simp [hi], rfl⟩
theorem beq_no {a b : List UInt8} (h : a ≠ b) : (a == b) = false := beq_eq_false_iff_ne.2 h
set_option maxHeartbeats 2000000 in
theorem operator_any (s : List UInt8) (w : World) : Calls Tryz.prog 260 #[sV s] w fun e w' => e = .returned (iV (strengthT s)) ∧ w' = w := by
  unfold strengthT
  by_cases h0 : s = [111, 114]
  · subst h0; go_enter Tryz.func260, Tryz.ntmps260; go_wp2; go_ret; exact ⟨rfl, rfl⟩
  rw [if_neg h0]
  by_cases h1 : s = [97, 110, 100]
  · subst h1; go_enter Tryz.func260, Tryz.ntmps260; go_wp2; go_ret; exact ⟨rfl, rfl⟩
  rw [if_neg h1]
  by_cases h2 : s = [60]
  · subst h2; go_enter Tryz.func260, Tryz.ntmps260; go_wp2; go_ret; exact ⟨rfl, rfl⟩
  rw [if_neg h2]
  by_cases h3 : s = [60, 61]
  · subst h3; go_enter Tryz.func260, Tryz.ntmps260; go_wp2; go_ret; exact ⟨rfl, rfl⟩
  rw [if_neg h3]
  by_cases h4 : s = [62]
  · subst h4; go_enter Tryz.func260, Tryz.ntmps260; go_wp2; go_ret; exact ⟨rfl, rfl⟩
  rw [if_neg h4]
  by_cases h5 : s = [62, 61]
  · subst h5; go_enter Tryz.func260, Tryz.ntmps260; go_wp2; go_ret; exact ⟨rfl, rfl⟩
  rw [if_neg h5]
  by_cases h6 : s = [61, 61]
  · subst h6; go_enter Tryz.func260, Tryz.ntmps260; go_wp2; go_ret; exact ⟨rfl, rfl⟩
  rw [if_neg h6]
  by_cases h7 : s = [126, 61]
  · subst h7; go_enter Tryz.func260, Tryz.ntmps260; go_wp2; go_ret; exact ⟨rfl, rfl⟩
  rw [if_neg h7]
  by_cases h8 : s = [124]
  · subst h8; go_enter Tryz.func260, Tryz.ntmps260; go_wp2; go_ret; exact ⟨rfl, rfl⟩
  rw [if_neg h8]
  by_cases h9 : s = [126]
  · subst h9; go_enter Tryz.func260, Tryz.ntmps260; go_wp2; go_ret; exact ⟨rfl, rfl⟩
  rw [if_neg h9]
  by_cases h10 : s = [38]
  · subst h10; go_enter Tryz.func260, Tryz.ntmps260; go_wp2; go_ret; exact ⟨rfl, rfl⟩
  rw [if_neg h10]
  by_cases h11 : s = [60, 60]
  · subst h11; go_enter Tryz.func260, Tryz.ntmps260; go_wp2; go_ret; exact ⟨rfl, rfl⟩
  rw [if_neg h11]
  by_cases h12 : s = [62, 62]
  · subst h12; go_enter Tryz.func260, Tryz.ntmps260; go_wp2; go_ret; exact ⟨rfl, rfl⟩
  rw [if_neg h12]
  by_cases h13 : s = [46, 46]
  · subst h13; go_enter Tryz.func260, Tryz.ntmps260; go_wp2; go_ret; exact ⟨rfl, rfl⟩
  rw [if_neg h13]
  by_cases h14 : s = [43]
  · subst h14; go_enter Tryz.func260, Tryz.ntmps260; go_wp2; go_ret; exact ⟨rfl, rfl⟩
  rw [if_neg h14]
  by_cases h15 : s = [45]
  · subst h15; go_enter Tryz.func260, Tryz.ntmps260; go_wp2; go_ret; exact ⟨rfl, rfl⟩
  rw [if_neg h15]
  by_cases h16 : s = [42]
  · subst h16; go_enter Tryz.func260, Tryz.ntmps260; go_wp2; go_ret; exact ⟨rfl, rfl⟩
  rw [if_neg h16]
  by_cases h17 : s = [47, 47]
  · subst h17; go_enter Tryz.func260, Tryz.ntmps260; go_wp2; go_ret; exact ⟨rfl, rfl⟩
  rw [if_neg h17]
  by_cases h18 : s = [37]
  · subst h18; go_enter Tryz.func260, Tryz.ntmps260; go_wp2; go_ret; exact ⟨rfl, rfl⟩
  rw [if_neg h18]
  replace h0 := beq_no h0
  replace h1 := beq_no h1
  replace h2 := beq_no h2
  replace h3 := beq_no h3
  replace h4 := beq_no h4
  replace h5 := beq_no h5
  replace h6 := beq_no h6
  replace h7 := beq_no h7
  replace h8 := beq_no h8
  replace h9 := beq_no h9
  replace h10 := beq_no h10
  replace h11 := beq_no h11
  replace h12 := beq_no h12
  replace h13 := beq_no h13
  replace h14 := beq_no h14
  replace h15 := beq_no h15
  replace h16 := beq_no h16
  replace h17 := beq_no h17
  replace h18 := beq_no h18
  go_enter Tryz.func260, Tryz.ntmps260
  go_wp2
  go_ret
  exact ⟨rfl, rfl⟩
theorem isOf_one {b w : World} {g : Nat} {t : Tree} {v : Value} (k : Int) (hB : Below b.heap.size b w) (ht : TE b t v) (h : Ints w g [k]) : Calls Tryz.prog 205 #[v, .slice (some ⟨g, 0, none⟩) 1 1] w fun e w' => e = .returned (.bool (isOf t k)) ∧ w' = w := by
  refine (isOf_any (c := 1) (n := 1) [k] hB ht h rfl (by simp)).mono ?_
  rintro e w' ⟨rfl, rfl⟩
  refine ⟨?_, rfl⟩
  congr 2
  unfold isOf
  cases isX t
  · rfl
  · simp only [Bool.true_and, List.contains_cons, List.contains_nil, Bool.or_false]
abbrev intsO (k : Int) : Obj := .cells #[iV k] 3
theorem ints_new (w : World) (k : Int) : Ints (w.alloc (intsO k)) w.heap.size [k] := ⟨_, heap_alloc_new _ _⟩
set_option maxHeartbeats 1000000 in
theorem strength_any {b w : World} {t : Tree} {v : Value} (hB : Below b.heap.size b w) (ht : TE b t v) : Calls Tryz.prog 247 #[v] w fun e w' => e = .returned (iV (strE t)) ∧ Below w.heap.size w w' := by
  have B1 : Below w.heap.size w (w.alloc (intsO 11)) := (Below.refl _ w).alloc (Nat.le_refl _) _
  have B2 : Below w.heap.size w ((w.alloc (intsO 11)).alloc (intsO 10)) := B1.alloc B1.size _
  have CA := Lib.hid (isOf_one 11 (hB.trans (B1.mono hB.size)) ht (ints_new w 11))
  have CB := Lib.hid (isOf_one 10 (hB.trans (B2.mono hB.size)) ht (show Ints ((w.alloc (intsO 11)).alloc (intsO 10)) (w.heap.size + 1) [10] by have h := ints_new (w.alloc (intsO 11)) 10; rwa [show (w.alloc (intsO 11)).heap.size = w.heap.size + 1 by simp] at h))
  rcases ht.cases with ⟨rfl, rfl⟩ | ⟨gt, l, va, vb, vk, vs, vp, vy, rfl, hx⟩
  · rw [show isOf .nil 11 = false from rfl] at CA
    rw [show isOf .nil 10 = false from rfl] at CB
    clear ht hB
    go_enter Tryz.func247, Tryz.ntmps247
    go_wp2_with (first
      | (go_at_call 205; (with_reducible refine CA.out.mono ?_); rintro e w1 ⟨rfl, hq⟩; obtain rfl := hq.symm)
      | (go_at_call 205; (with_reducible refine CB.out.mono ?_); rintro e w1 ⟨rfl, hq⟩; obtain rfl := hq.symm)
      | (go_at_call 260; refine (operator_any _ _).mono ?_; rintro e w1 ⟨rfl, hq⟩; obtain rfl := hq.symm))
    (try simp only [Exit.inBlock, Exit.then])
    go_ret
    exact ⟨rfl, B2⟩
  · have c3 := ((hB.trans (B1.mono hB.size)).cell (p := ⟨gt, 3, none⟩) hx.lt).trans hx.c.c3
    have e11 : isOf t 11 = (kindT t == 11) := by simp [isOf, hx.is]
    have e10 : isOf t 10 = (kindT t == 10) := by simp [isOf, hx.is]
    have eS : strE t = if kindT t = 11 then strengthT (nameT6 t) else if kindT t = 10 then 11 else 12 := by
      unfold strE
      rw [e11, e10]
      simp only [beq_iff_eq]
    rw [eS]
    rw [e11] at CA
    rw [e10] at CB
    generalize kindT t = k at CA CB ⊢
    clear hx hB ht e10 e11 eS
    by_cases h1 : k = 11
    · rw [if_pos h1]
      rw [beq_iff_eq.2 h1] at CA
      clear h1
      go_enter Tryz.func247, Tryz.ntmps247
      go_wp2_with (first
        | (go_at_call 205; (with_reducible refine CA.out.mono ?_); rintro e w1 ⟨rfl, hq⟩; obtain rfl := hq.symm)
        | (go_at_call 205; (with_reducible refine CB.out.mono ?_); rintro e w1 ⟨rfl, hq⟩; obtain rfl := hq.symm)
        | (go_at_call 260; refine (operator_any _ _).mono ?_; rintro e w1 ⟨rfl, hq⟩; obtain rfl := hq.symm))
      (try simp only [Exit.inBlock, Exit.then])
      go_ret
      exact ⟨rfl, B1⟩
    · rw [if_neg h1]
      rw [beq_eq_false_iff_ne.2 h1] at CA
      by_cases h2 : k = 10
      · rw [if_pos h2]
        rw [beq_iff_eq.2 h2] at CB
        clear h1 h2
        go_enter Tryz.func247, Tryz.ntmps247
        go_wp2_with (first
          | (go_at_call 205; (with_reducible refine CA.out.mono ?_); rintro e w1 ⟨rfl, hq⟩; obtain rfl := hq.symm)
          | (go_at_call 205; (with_reducible refine CB.out.mono ?_); rintro e w1 ⟨rfl, hq⟩; obtain rfl := hq.symm)
          | (go_at_call 260; refine (operator_any _ _).mono ?_; rintro e w1 ⟨rfl, hq⟩; obtain rfl := hq.symm))
        (try simp only [Exit.inBlock, Exit.then])
        go_ret
        exact ⟨rfl, B2⟩
      · rw [if_neg h2]
        rw [beq_eq_false_iff_ne.2 h2] at CB
        clear h1 h2
        go_enter Tryz.func247, Tryz.ntmps247
        go_wp2_with (first
          | (go_at_call 205; (with_reducible refine CA.out.mono ?_); rintro e w1 ⟨rfl, hq⟩; obtain rfl := hq.symm)
          | (go_at_call 205; (with_reducible refine CB.out.mono ?_); rintro e w1 ⟨rfl, hq⟩; obtain rfl := hq.symm)
          | (go_at_call 260; refine (operator_any _ _).mono ?_; rintro e w1 ⟨rfl, hq⟩; obtain rfl := hq.symm))
        (try simp only [Exit.inBlock, Exit.then])
        go_ret
        exact ⟨rfl, B2⟩
end Go.Proofs.YtoggkigfijgbfaaGreatDoor.P6
namespace Go.Proofs.YtoggkigfijgbfaaGreatDoor.P6
set_option maxRecDepth 20000
open Go.RowKit

abbrev textsO (ts : List (List UInt8)) : Obj := .cells (ts.map sV).toArray 9 (0, 0)
theorem texts_new (w : World) (ts : List (List UInt8)) : Texts (w.alloc (textsO ts)) w.heap.size ts := ⟨_, heap_alloc_new _ _⟩
/-- Several texts, in a row that was just laid. -/
theorem puts_step {w : World} {p c n : Nat} {s : List UInt8} {k : Nat} {ts : List (List UInt8)} {f : List UInt8 → Nat → WRes} {R : WRes} (h : WAt w p s k) (hR : (putsT ts s k).bind f = R) (hn : n = ts.length) (hs : ∀ t, t ∈ ts → t.length ≤ 1099511627776) (hc : ts.length ≤ 1000) :
    Calls Tryz.prog 116 #[pV p, .slice (some ⟨w.heap.size, 0, none⟩) n c] (w.alloc (textsO ts)) (Step p f R w) := by
  subst hn
  refine (puts_any ts (h.alloc _) rfl (texts_new w ts) (by have := h.lt; omega) hs hc).mono ?_
  intro e w' he
  rcases he.step hR with ⟨c, h1, h2, h3⟩ | ⟨s2, k2, h1, h2, h3, h4⟩
  · exact .inl ⟨c, h1, h2, ((WK.refl p w).alloc (Nat.le_of_lt h.lt) _).trans h3⟩
  · exact .inr ⟨s2, k2, h1, h2, h3, ((WK.refl p w).alloc (Nat.le_of_lt h.lt) _).trans h4⟩
theorem puts_one (t : List UInt8) (s : List UInt8) (k : Nat) : putsT [t] s k = putT t s k := by unfold putsT; exact bind_ok _
theorem put_step {w : World} {p c g : Nat} {s t : List UInt8} {k : Nat} {f : List UInt8 → Nat → WRes} {R : WRes} (h : WAt w p s k) (hg : g = w.heap.size) (hR : (putT t s k).bind f = R) (hs : t.length ≤ 1099511627776) :
    Calls Tryz.prog 116 #[pV p, .slice (some ⟨g, 0, none⟩) 1 c] (w.alloc (.cells #[sV t] 9)) (Step p f R w) := by
  subst hg
  exact puts_step (ts := [t]) h (by rw [puts_one]; exact hR) rfl (by simpa using hs) (by simp)
theorem puts2_step {w : World} {p c g : Nat} {s t u : List UInt8} {k : Nat} {f : List UInt8 → Nat → WRes} {R : WRes} (h : WAt w p s k) (hg : g = w.heap.size) (hR : (putsT [t, u] s k).bind f = R) (hs : t.length + u.length ≤ 1099511627776) :
    Calls Tryz.prog 116 #[pV p, .slice (some ⟨g, 0, none⟩) 2 c] (w.alloc (.cells #[sV t, sV u] 9)) (Step p f R w) := by
  subst hg
  exact puts_step (ts := [t, u]) h hR rfl (by intro x hx; simp at hx; rcases hx with rfl | rfl <;> omega) (by simp)
theorem puts3_step {w : World} {p c g : Nat} {s t u v : List UInt8} {k : Nat} {f : List UInt8 → Nat → WRes} {R : WRes} (h : WAt w p s k) (hg : g = w.heap.size) (hR : (putsT [t, u, v] s k).bind f = R) (hs : t.length + u.length + v.length ≤ 1099511627776) :
    Calls Tryz.prog 116 #[pV p, .slice (some ⟨g, 0, none⟩) 3 c] (w.alloc (.cells #[sV t, sV u, sV v] 9)) (Step p f R w) := by
  subst hg
  exact puts_step (ts := [t, u, v]) h hR rfl (by intro x hx; simp at hx; rcases hx with rfl | rfl | rfl <;> omega) (by simp)
theorem begin_step {w : World} {p : Nat} {s : List UInt8} {k : Nat} {f : List UInt8 → Nat → WRes} {R : WRes} (h : WAt w p s k) (hR : (begT s k).bind f = R) :
    Calls Tryz.prog 157 #[pV p] w (Step p f R w) := (begin_any h).mono fun _ _ he => he.step hR
theorem bind_ne {r R : WRes} {f : List UInt8 → Nat → WRes} (hR : r.bind f = R) (hD : R ≠ .out) : r ≠ .out := by rintro rfl; exact hD hR.symm
set_option maxHeartbeats 2000000 in
theorem enclosed_any {w : World} {p K : Nat} {caps : Array Value} {s : List UInt8} {k : Nat} (first last : List UInt8) (f : List UInt8 → Nat → WRes) (h : WAt w p s k) (hf : first.length ≤ 1000) (hl : last.length ≤ 1000)
    (step : ∀ w1 s1 k1, WK p w w1 → WAt w1 p s1 k1 → f s1 k1 ≠ .out → Calls Tryz.prog K caps w1 (WEnds p (f s1 k1) w1))
    (hK : ∀ (args : Array Value) (w : World), (callFunc K args).run Tryz.prog w = .ok (.enter K args) w) (hD : encT first last f s k ≠ .out) :
    Calls Tryz.prog 241 #[pV p, sV first, sV last, .func (.func K) #[] caps] w (WEnds p (encT first last f s k) w) := by
  have hR0 : ((putT first s k).bind fun s k => (f s k).bind fun s k => (putT last s k).bind .ok) = encT first last f s k := by simp only [bind_ok]; rfl
  generalize encT first last f s k = R at hR0 hD
  have hR := Lib.hid hR0
  have H := Lib.hid h
  have KK := Lib.hid (WK.refl p w)
  have hp0 : p ≤ w.heap.size := Nat.le_of_lt h.lt
  have ST := Lib.hid step
  have HD := Lib.hid hD
  clear hR0 h step hD
  go_enter Tryz.func241, Tryz.ntmps241
  go_wp2_with (first
    | (go_at_call 116; (with_reducible refine (put_step ?_ ?_ hR.out ?_).mono ?_); (· exact ab10); (· rfl); (· omega); rintro e w1 hE; rcases hE with ⟨c, hq, rfl, hk⟩ | ⟨s1, k1, hq, rfl, hh, hk⟩; (· exact ⟨rfl, ends_bad hq KK.out hk⟩); replace hR := Lib.hid hq; replace H := Lib.hid hh; replace KK := Lib.hid (KK.out.trans hk); clear hq hh hk)
    | ((with_reducible refine ((ST.out _ _ _ KK.out H.out (bind_ne hR.out HD.out)).mono fun _ _ he => he.step hR.out).mono ?_); rintro e w1 hE; rcases hE with ⟨c, hq, rfl, hk⟩ | ⟨s1, k1, hq, rfl, hh, hk⟩; (· exact ⟨rfl, ends_bad hq KK.out hk⟩); replace hR := Lib.hid hq; replace H := Lib.hid hh; replace KK := Lib.hid (KK.out.trans hk); clear hq hh hk))
  go_end0
  exact ends_ok hR.out H.out KK.out
/-- A box of one value. -/
def Box (w : World) (q : Nat) (v : Value) : Prop := ∃ T fz, T ≠ 5 ∧ w.heap[q]? = some (.cells #[v] T fz)
theorem Box.cell {w : World} {q : Nat} {v : Value} (h : Box w q v) : w.cell? ⟨q, 0, none⟩ = some v := by
  obtain ⟨T, fz, _, h⟩ := h
  rw [Lib.cell_of_heap h]; rfl
theorem Box.keep {w w' : World} {p q : Nat} {v : Value} (h : Box w q v) (hq : q ≠ p) (hk : WK p w w') : Box w' q v := by
  obtain ⟨T, fz, hT, h⟩ := h
  exact ⟨T, fz, hT, hk.block h hq (by intro c f e; injection e with _ e; exact hT e)⟩
theorem Box.below {w w' : World} {q : Nat} {v : Value} (h : Box w q v) (hb : Below w.heap.size w w') : Box w' q v := by
  obtain ⟨T, fz, hT, h⟩ := h
  exact ⟨T, fz, hT, (hb.block q (lt_of_blk h)).trans h⟩
theorem Box.alloc {w : World} {q : Nat} {v : Value} (h : Box w q v) (o : Obj) : Box (w.alloc o) q v := h.below ((Below.refl _ _).alloc (Nat.le_refl _) o)
theorem box_new (w : World) (v : Value) (T : TypeId) (hT : T ≠ 5) : Box (w.alloc (.cells #[v] T)) w.heap.size v := ⟨T, _, hT, heap_alloc_new _ _⟩
structure Box3 (w : World) (p q0 q1 q2 : Nat) (v0 v1 v2 : Value) : Prop where
  b0 : Box w q0 v0
  b1 : Box w q1 v1
  b2 : Box w q2 v2
  n0 : q0 ≠ p
  n1 : q1 ≠ p
  n2 : q2 ≠ p
theorem Box3.c0 {w w' : World} {p q0 q1 q2 : Nat} {v0 v1 v2 : Value} (h : Box3 w p q0 q1 q2 v0 v1 v2) (hk : WK p w w') : w'.cell? ⟨q0, 0, none⟩ = some v0 := (h.b0.keep h.n0 hk).cell
theorem Box3.c1 {w w' : World} {p q0 q1 q2 : Nat} {v0 v1 v2 : Value} (h : Box3 w p q0 q1 q2 v0 v1 v2) (hk : WK p w w') : w'.cell? ⟨q1, 0, none⟩ = some v1 := (h.b1.keep h.n1 hk).cell
theorem Box3.c2 {w w' : World} {p q0 q1 q2 : Nat} {v0 v1 v2 : Value} (h : Box3 w p q0 q1 q2 v0 v1 v2) (hk : WK p w w') : w'.cell? ⟨q2, 0, none⟩ = some v2 := (h.b2.keep h.n2 hk).cell
structure ListRel (p n : Nat) (f : Nat → List UInt8 → Nat → WRes) (w0 : World) (R : WRes) (j : Nat) (wr : World) : Prop where
  rest : ∃ s k, WAt wr p s k ∧ loopT f j (n - j) s k = R
  kept : WK p w0 wr
set_option maxHeartbeats 4000000 in
theorem list1_any {w : World} {p K n q0 q1 q2 c1 c2 : Nat} {s : List UInt8} {k : Nat} (f : Nat → List UInt8 → Nat → WRes) (h : WAt w p s k) (hB : Box3 w p q0 q1 q2 (pV p) (iV n) (.func (.func K) #[] #[pV c1, pV c2])) (hn : n ≤ 1099511627776)
    (step : ∀ j w1 s1 k1, j < n → WK p w w1 → WAt w1 p s1 k1 → f j s1 k1 ≠ .out → Calls Tryz.prog K #[iV j, pV c1, pV c2] w1 (WEnds p (f j s1 k1) w1))
    (hK : ∀ (args : Array Value) (w : World), (callFunc K args).run Tryz.prog w = .ok (.enter K args) w) (hD : loopT f 0 n s k ≠ .out) :
    Calls Tryz.prog 243 #[pV q1, pV q0, pV q2] w (WEnds p (loopT f 0 n s k) w) := by
  have REL0 : Hid (ListRel p n f w (loopT f 0 n s k) 0 w) := Lib.hid ⟨⟨s, k, h, by rw [Nat.sub_zero]⟩, WK.refl _ _⟩
  generalize loopT f 0 n s k = R at REL0 hD
  have XB := Lib.hid hB
  have x0 := XB.out.c0 (WK.refl _ _)
  have x1 := XB.out.c1 (WK.refl _ _)
  have x2 := XB.out.c2 (WK.refl _ _)
  have ST := Lib.hid step
  have HD := Lib.hid hD
  have hp0 : p ≤ w.heap.size := Nat.le_of_lt h.lt
  clear h hB step hD
  go_enter Tryz.func243, Tryz.ntmps243
  go_wp2
  go_loopw [3, 5] (fun u i wr => ∃ j : Nat, j ≤ n ∧ i = iV j ∧ Hid (ListRel p n f w R j wr)) (fun _ i _ => n - (intOf i).toNat)
  case atStart => exact ⟨0, Nat.zero_le _, rfl, REL0⟩
  case round =>
    obtain ⟨j, hj, rfl, hF⟩ := hrel
    clear REL0 x0 x1 x2
    obtain ⟨s, k, hW, hR⟩ := hF.out.rest
    have KK := Lib.hid hF.out.kept
    have x0 := XB.out.c0 KK.out
    have x1 := XB.out.c1 KK.out
    have x2 := XB.out.c2 KK.out
    have H := Lib.hid hW
    by_cases hlt : j < n
    · have k1 : (j : Int) < (n : Int) := by omega
      have ST2 := Lib.hid (fun w1 s1 k1 a b c => ST.out j w1 s1 k1 hlt a b c)
      rw [show n - j = (n - (j + 1)) + 1 by omega] at hR
      unfold loopT at hR
      by_cases hj0 : j = 0
      · rw [if_pos hj0, ok_bind] at hR
        have k0 : ¬ (0 : Int) < (j : Int) := by omega
        replace hR := Lib.hid hR
        clear hj0 hlt hW
        go_wp2_with (first
          | ((with_reducible refine ((ST2.out _ _ _ KK.out H.out (bind_ne hR.out HD.out)).mono fun _ _ he => he.step hR.out).mono ?_); rintro e w1 hE; rcases hE with ⟨c, hq, rfl, hk⟩ | ⟨s1, k1, hq, rfl, hh, hk⟩; (· exact ⟨rfl, ends_bad hq KK.out hk⟩); replace hR := Lib.hid hq; replace H := Lib.hid hh; replace KK := Lib.hid (KK.out.trans hk); have x0 := XB.out.c0 KK.out; have x1 := XB.out.c1 KK.out; have x2 := XB.out.c2 KK.out; clear hq hh hk))
        go_roundw
        case rel => exact ⟨j + 1, by omega, by go_num, Lib.hid ⟨⟨_, _, H.out, hR.out⟩, KK.out⟩⟩
        case measure => show _ - (((j : Int) + 1)).toNat < _ - ((j : Int)).toNat; omega
      · rw [if_neg hj0] at hR
        have k0 : (0 : Int) < (j : Int) := by omega
        replace hR := Lib.hid hR
        clear hj0 hlt hW
        go_wp2_with (first
          | (go_at_call 116; (with_reducible refine (put_step ?_ ?_ hR.out ?_).mono ?_); (· exact ab10); (· rfl); (· simp); rintro e w1 hE; rcases hE with ⟨c, hq, rfl, hk⟩ | ⟨s1, k1, hq, rfl, hh, hk⟩; (· exact ⟨rfl, ends_bad hq KK.out hk⟩); replace hR := Lib.hid hq; replace H := Lib.hid hh; replace KK := Lib.hid (KK.out.trans hk); have x0 := XB.out.c0 KK.out; have x1 := XB.out.c1 KK.out; have x2 := XB.out.c2 KK.out; clear hq hh hk)
          | ((with_reducible refine ((ST2.out _ _ _ KK.out H.out (bind_ne hR.out HD.out)).mono fun _ _ he => he.step hR.out).mono ?_); rintro e w1 hE; rcases hE with ⟨c, hq, rfl, hk⟩ | ⟨s1, k1, hq, rfl, hh, hk⟩; (· exact ⟨rfl, ends_bad hq KK.out hk⟩); replace hR := Lib.hid hq; replace H := Lib.hid hh; replace KK := Lib.hid (KK.out.trans hk); have x0 := XB.out.c0 KK.out; have x1 := XB.out.c1 KK.out; have x2 := XB.out.c2 KK.out; clear hq hh hk))
        go_roundw
        case rel => exact ⟨j + 1, by omega, by go_num, Lib.hid ⟨⟨_, _, H.out, hR.out⟩, KK.out⟩⟩
        case measure => show _ - (((j : Int) + 1)).toNat < _ - ((j : Int)).toNat; omega
    · obtain rfl : j = n := by omega
      rw [Nat.sub_self] at hR
      have k1 : ¬ (j : Int) < (j : Int) := by omega
      go_wp2
      go_end0
      exact ends_ok hR hW hF.out.kept
theorem WEnds.after {p : Nat} {r : WRes} {w w1 w' : World} {e : Ending} (h : WEnds p r w1 e w') (hk : WK p w w1) : WEnds p r w e w' := by
  cases r with
  | out => exact h
  | bad c => exact ⟨h.1, hk.trans h.2⟩
  | ok s k => exact ⟨h.1, h.2.1, hk.trans h.2.2⟩
theorem Box3.keep {w w' : World} {p q0 q1 q2 : Nat} {v0 v1 v2 : Value} (h : Box3 w p q0 q1 q2 v0 v1 v2) (hk : WK p w w') : Box3 w' p q0 q1 q2 v0 v1 v2 := ⟨h.b0.keep h.n0 hk, h.b1.keep h.n1 hk, h.b2.keep h.n2 hk, h.n0, h.n1, h.n2⟩
theorem box3_new {w : World} {p : Nat} {v0 v1 v2 : Value} {T0 T1 T2 : TypeId} (hp : p < w.heap.size) (h0 : T0 ≠ 5) (h1 : T1 ≠ 5) (h2 : T2 ≠ 5) : Box3 (((w.alloc (.cells #[v0] T0)).alloc (.cells #[v1] T1)).alloc (.cells #[v2] T2)) p w.heap.size (w.heap.size + 1) (w.heap.size + 2) v0 v1 v2 := by
  have s1 : (w.alloc (.cells #[v0] T0)).heap.size = w.heap.size + 1 := by simp
  have s2 : ((w.alloc (.cells #[v0] T0)).alloc (.cells #[v1] T1)).heap.size = w.heap.size + 2 := by simp
  have a1 := box_new (w.alloc (.cells #[v0] T0)) v1 T1 h1
  have a2 := box_new ((w.alloc (.cells #[v0] T0)).alloc (.cells #[v1] T1)) v2 T2 h2
  rw [s1] at a1
  rw [s2] at a2
  exact ⟨((box_new w v0 T0 h0).alloc _).alloc _, a1.alloc _, a2, by omega, by omega, by omega⟩
theorem enter_list1 (args : Array Value) (w : World) : (callFunc 243 args).run Tryz.prog w = .ok (.enter 243 args) w := enters_of Tryz.func243 (by kernel_rfl) rfl args w
set_option maxHeartbeats 2000000 in
theorem list_any {w : World} {p K n c1 c2 : Nat} {s : List UInt8} {k : Nat} (first last : List UInt8) (f : Nat → List UInt8 → Nat → WRes) (h : WAt w p s k) (hf : first.length ≤ 1000) (hl : last.length ≤ 1000) (hn : n ≤ 1099511627776)
    (step : ∀ j w1 s1 k1, j < n → WK p w w1 → WAt w1 p s1 k1 → f j s1 k1 ≠ .out → Calls Tryz.prog K #[iV j, pV c1, pV c2] w1 (WEnds p (f j s1 k1) w1))
    (hK : ∀ (args : Array Value) (w : World), (callFunc K args).run Tryz.prog w = .ok (.enter K args) w) (hD : encT first last (loopT f 0 n) s k ≠ .out) :
    Calls Tryz.prog 201 #[pV p, sV first, sV last, iV n, .func (.func K) #[] #[pV c1, pV c2]] w (WEnds p (encT first last (loopT f 0 n) s k) w) := by
  have hB : Box3 _ p _ _ _ _ _ _ := box3_new (w := w) (v0 := pV p) (v1 := iV n) (v2 := .func (.func K) #[] #[pV c1, pV c2]) (T0 := 161) (T1 := 3) (T2 := 207) h.lt (by decide) (by decide) (by decide)
  have hk3 : WK p w (((w.alloc (.cells #[pV p] 161)).alloc (.cells #[iV n] 3)).alloc (.cells #[.func (.func K) #[] #[pV c1, pV c2]] 207)) := (((WK.refl p w).more (Nat.le_of_lt h.lt) _).more (Nat.le_of_lt h.lt) _).more (Nat.le_of_lt h.lt) _
  have E := Lib.hid (enclosed_any (caps := #[pV (w.heap.size + 1), pV w.heap.size, pV (w.heap.size + 2)]) first last (loopT f 0 n) (((h.alloc _).alloc _).alloc _) hf hl (fun w1 s1 k1 a b c => list1_any f b (hB.keep a) hn (fun j w2 s2 k2 e1 e2 e3 e4 => step j w2 s2 k2 e1 ((hk3.trans a).trans e2) e3 e4) hK c) enter_list1 hD)
  have KK := Lib.hid hk3
  generalize encT first last (loopT f 0 n) s k = R at E hD
  clear step hD hB hk3 h hK hf hl hn
  go_enter Tryz.func201, Tryz.ntmps201
  go_wp2_with (go_at_call 241; (with_reducible refine (E.out.mono fun _ _ he => he.step (bind_ok R)).mono ?_); rintro e w1 hE; rcases hE with ⟨c, hq, rfl, hk⟩ | ⟨s1, k1, hq, rfl, hh, hk⟩; (· exact ⟨rfl, ends_bad hq KK.out hk⟩); replace KK := Lib.hid (KK.out.trans hk))
  go_end0
  exact ends_ok hq hh KK.out
end Go.Proofs.YtoggkigfijgbfaaGreatDoor.P6
namespace Go.Proofs.YtoggkigfijgbfaaGreatDoor.P6
set_option maxRecDepth 20000
open Go.RowKit

theorem below_dN {B : Nat} {a w : World} (h : Below B a w) (n : Nat) : Below B a (w.drewN n) := ⟨h.os, h.tape, h.output, h.size, h.block⟩
/-- The first token in memory. -/
theorem row_first {w : World} {B : Nat} {v : Value} {t : Tok} {r : List Tok} (h : TokRow B v (t :: r) w) : ∃ g c, v = .slice (some ⟨g, 0, none⟩) (r.length + 1) c ∧ w.cell? ⟨g, 0, none⟩ = some (iV t.kind) ∧ w.cell? ⟨g, 1, none⟩ = some (sV t.text) := by
  have h1 := h.own
  rcases h1.2 with ⟨_, hz⟩ | ⟨g, cap, cur, rfl, _⟩
  · simp at hz
  · exact ⟨g, cap, rfl, h1.cells (g := g) rfl 0 _ (by simp [tokCells]), h1.cells (g := g) rfl 1 _ (by simp [tokCells])⟩
set_option maxHeartbeats 2000000 in
theorem isNamed_any {b w : World} {t : Tree} {v : Value} (hB : Below b.heap.size b w) (hE : Env4 b) (ht : TE b t v) : Calls Tryz.prog 240 #[v] w fun e w' => e = .returned (.bool (namedE t)) ∧ Below w.heap.size w w' := by
  have B1 : Below w.heap.size w (w.alloc (intsO 5)) := (Below.refl _ w).alloc (Nat.le_refl _) _
  have CA := Lib.hid (isOf_one 5 (hB.trans (B1.mono hB.size)) ht (ints_new w 5))
  have E4 : Env4 (w.alloc (intsO 5)) := hE.below (hB.trans (B1.mono hB.size))
  by_cases h5 : isOf t 5 = true
  · obtain ⟨gt, l, va, vb, vk, vs, vp, vy, rfl, hx⟩ := ht.node (by unfold isOf at h5; simp only [Bool.and_eq_true] at h5; exact h5.1)
    · have hn : namedE t = nameOK (nameT6 t) := by unfold namedE; rw [h5]; rfl
      have hg := hx.lt
      have hc := hx.c
      rw [h5] at CA
      rw [hn]
      generalize nameT6 t = s at hc ⊢
      have c3 := ((hB.trans (B1.mono hB.size)).cell (p := ⟨gt, 3, none⟩) hg).trans hc.c3
      have T2 := Tokens_any ⟨s.toArray⟩ _ E4
      have hs : (⟨s.toArray⟩ : ByteArray).data.toList = s := by simp
      rw [hs] at T2
      replace T2 := Lib.hid T2
      have HX := Lib.hid (hB.trans (B1.mono hB.size))
      have HC := Lib.hid hc
      unfold nameOK
      clear hx hc hB ht h5 E4 hs hE hn
      generalize hl : lexL s = L at T2
      obtain ⟨toks, err, line⟩ := L
      by_cases he : err = 0
      · subst he
        have hw := (P5.lex_wf hl).1
        clear hl
        cases toks with
        | nil => exact hw.elim
        | cons t0 r =>
          clear hw
          have k0 : (0 : Int) < ((r.length + 1 : Nat) : Int) := by omega
          have WK1 : ∀ w2, Below (w.alloc (intsO 5)).heap.size (w.alloc (intsO 5)) w2 → w2.cell? ⟨gt, 3, none⟩ = some (sV s) := fun w2 h2 => ((HX.out.trans (h2.mono HX.out.size)).cell (p := ⟨gt, 3, none⟩) hg).trans HC.out.c3
          by_cases hk : t0.kind = 1
          · have q1 : (((t0.kind : Nat) : Int) == 1) = true := by simp [hk]
            by_cases hx : t0.text = s
            · rw [if_pos ⟨rfl, hk, hx⟩]
              have q2 := P5.beq_yes hx
              clear hk hx
              go_enter Tryz.func240, Tryz.ntmps240
              go_wp2_with (first
                | (go_at_call 205; (with_reducible refine CA.out.mono ?_); rintro e w1 ⟨rfl, hq⟩; obtain rfl := hq.symm)
                | (go_at_call 23; (with_reducible refine T2.out.mono ?_); rintro e w2 (⟨h0, v, rfl, hr, hw2⟩ | ⟨h0, v, rfl, _, _, _, _, hw2⟩); rotate_left; (· exact absurd rfl h0); obtain ⟨g, c, rfl, d0, d1⟩ := row_first hr; have d3 := WK1 _ hw2; have HW := Lib.hid hw2; clear hw2 hr h0))
              go_quiet (fail)
              go_wp2
              go_ret
              exact ⟨rfl, B1.trans ((below_dN HW.out _).mono B1.size)⟩
            · rw [if_neg (fun h => hx h.2.2)]
              have q2 := P5.beq_no hx
              clear hk hx
              go_enter Tryz.func240, Tryz.ntmps240
              go_wp2_with (first
                | (go_at_call 205; (with_reducible refine CA.out.mono ?_); rintro e w1 ⟨rfl, hq⟩; obtain rfl := hq.symm)
                | (go_at_call 23; (with_reducible refine T2.out.mono ?_); rintro e w2 (⟨h0, v, rfl, hr, hw2⟩ | ⟨h0, v, rfl, _, _, _, _, hw2⟩); rotate_left; (· exact absurd rfl h0); obtain ⟨g, c, rfl, d0, d1⟩ := row_first hr; have d3 := WK1 _ hw2; have HW := Lib.hid hw2; clear hw2 hr h0))
              go_quiet (fail)
              go_wp2
              go_ret
              exact ⟨rfl, B1.trans ((below_dN HW.out _).mono B1.size)⟩
          · rw [if_neg (fun h => hk h.2.1)]
            have q1 : (((t0.kind : Nat) : Int) == 1) = false := beq_eq_false_iff_ne.2 (by omega)
            clear hk
            go_enter Tryz.func240, Tryz.ntmps240
            go_wp2_with (first
              | (go_at_call 205; (with_reducible refine CA.out.mono ?_); rintro e w1 ⟨rfl, hq⟩; obtain rfl := hq.symm)
              | (go_at_call 23; (with_reducible refine T2.out.mono ?_); rintro e w2 (⟨h0, v, rfl, hr, hw2⟩ | ⟨h0, v, rfl, _, _, _, _, hw2⟩); rotate_left; (· exact absurd rfl h0); obtain ⟨g, c, rfl, d0, d1⟩ := row_first hr; have d3 := WK1 _ hw2; have HW := Lib.hid hw2; clear hw2 hr h0))
            go_quiet (fail)
            go_wp2
            go_ret
            exact ⟨rfl, B1.trans ((below_dN HW.out _).mono B1.size)⟩
      · rw [if_neg (fun h => he h.1)]
        clear hl
        go_enter Tryz.func240, Tryz.ntmps240
        go_wp2_with (first
          | (go_at_call 205; (with_reducible refine CA.out.mono ?_); rintro e w1 ⟨rfl, hq⟩; obtain rfl := hq.symm)
          | (go_at_call 23; (with_reducible refine T2.out.mono ?_); rintro e w2 (⟨h0, v, rfl, hr, hw2⟩ | ⟨h0, v, rfl, _, _, _, _, hw2⟩); (· exact absurd h0 he); have HW := Lib.hid hw2; clear hw2 h0))
        go_quiet (fail)
        go_wp2
        go_ret
        exact ⟨rfl, B1.trans ((below_dN HW.out _).mono B1.size)⟩
  · have h5 : isOf t 5 = false := by simpa using h5
    have hn : namedE t = false := by unfold namedE; rw [h5]; rfl
    rw [hn]
    rw [h5] at CA
    clear ht hB hE E4 h5 hn
    go_enter Tryz.func240, Tryz.ntmps240
    go_wp2_with (first
      | (go_at_call 205; (with_reducible refine CA.out.mono ?_); rintro e w1 ⟨rfl, hq⟩; obtain rfl := hq.symm))
    go_ret
    exact ⟨rfl, B1⟩
end Go.Proofs.YtoggkigfijgbfaaGreatDoor.P6
namespace Go.Proofs.YtoggkigfijgbfaaGreatDoor.P6
set_option maxRecDepth 20000
open Go.RowKit

/-- The beginning of a print: the trees are there, the writer is newer. -/
structure Env6 (b : World) (p : Nat) : Prop where
  env : Env4 b
  le : b.heap.size ≤ p
structure Spec (b : World) (p n : Nat) : Prop where
  expr : ∀ {w : World} {e : Tree} {v : Value} {s : List UInt8} {k : Nat}, Below b.heap.size b w → WAt w p s k → TE b e v → printF n (.expr e) s k ≠ .out → Calls Tryz.prog 159 #[pV p, v] w (WEnds p (printF n (.expr e) s k) w)
  operand : ∀ {w : World} {e : Tree} {v : Value} {needs : Bool} {s : List UInt8} {k : Nat}, Below b.heap.size b w → WAt w p s k → TE b e v → printF n (.operand e needs) s k ≠ .out → Calls Tryz.prog 204 #[pV p, v, .bool needs] w (WEnds p (printF n (.operand e needs) s k) w)
  post : ∀ {w : World} {e : Tree} {v : Value} {s : List UInt8} {k : Nat}, Below b.heap.size b w → WAt w p s k → TE b e v → printF n (.post e) s k ≠ .out → Calls Tryz.prog 199 #[pV p, v] w (WEnds p (printF n (.post e) s k) w)
  operation : ∀ {w : World} {e : Tree} {v : Value} {s : List UInt8} {k : Nat}, Below b.heap.size b w → WAt w p s k → TE b e v → isX e = true → printF n (.operation e) s k ≠ .out → Calls Tryz.prog 206 #[pV p, v] w (WEnds p (printF n (.operation e) s k) w)
  index : ∀ {w : World} {e : Tree} {v : Value} {s : List UInt8} {k : Nat}, Below b.heap.size b w → WAt w p s k → TE b e v → printF n (.index e) s k ≠ .out → Calls Tryz.prog 200 #[pV p, v] w (WEnds p (printF n (.index e) s k) w)
  item : ∀ {w : World} {e key : Tree} {v kv : Value} {s : List UInt8} {k : Nat}, Below b.heap.size b w → WAt w p s k → TE b key kv → TE b e v → printF n (.item key e) s k ≠ .out → Calls Tryz.prog 208 #[pV p, kv, v] w (WEnds p (printF n (.item key e) s k) w)
  body : ∀ {w : World} {e : Tree} {v : Value} {s : List UInt8} {k : Nat}, Below b.heap.size b w → WAt w p s k → TE b e v → isX e = true → printF n (.body e) s k ≠ .out → Calls Tryz.prog 203 #[pV p, v] w (WEnds p (printF n (.body e) s k) w)
  stmts : ∀ {w : World} {t : Tree} {v : Value} {s : List UInt8} {k : Nat}, Below b.heap.size b w → WAt w p s k → TL b .ss t v → printF n (.stmts t) s k ≠ .out → Calls Tryz.prog 60 #[pV p, v] w (WEnds p (printF n (.stmts t) s k) w)
  block : ∀ {w : World} {t : Tree} {v : Value} {s : List UInt8} {k : Nat}, Below b.heap.size b w → WAt w p s k → TL b .ss t v → printF n (.block t) s k ≠ .out → Calls Tryz.prog 209 #[pV p, v] w (WEnds p (printF n (.block t) s k) w)
  stmt : ∀ {w : World} {t : Tree} {v : Value} {s : List UInt8} {k : Nat}, Below b.heap.size b w → WAt w p s k → TS b t v → printF n (.stmt t) s k ≠ .out → Calls Tryz.prog 115 #[pV p, v] w (WEnds p (printF n (.stmt t) s k) w)
  value : ∀ {w : World} {e : Tree} {v : Value} {ahead : List UInt8} {s : List UInt8} {k : Nat}, Below b.heap.size b w → WAt w p s k → ahead.length ≤ 1000 → TE b e v → printF n (.value ahead e) s k ≠ .out → Calls Tryz.prog 158 #[pV p, sV ahead, v] w (WEnds p (printF n (.value ahead e) s k) w)
  blocks : ∀ {w : World} {t : Tree} {v : Value} {s : List UInt8} {k : Nat}, Below b.heap.size b w → WAt w p s k → TS b t v → isS t = true → (kindT t = 4 ∨ kindT t = 5 ∨ kindT t = 6 ∨ kindT t = 7 ∨ kindT t = 10) → printF n (.blocks t) s k ≠ .out → Calls Tryz.prog 161 #[pV p, v] w (WEnds p (printF n (.blocks t) s k) w)
  choice : ∀ {w : World} {t : Tree} {v : Value} {s : List UInt8} {k : Nat}, Below b.heap.size b w → WAt w p s k → TS b t v → isS t = true → printF n (.choice t) s k ≠ .out → Calls Tryz.prog 210 #[pV p, v] w (WEnds p (printF n (.choice t) s k) w)
  named : ∀ {w : World} {t : Tree} {v : Value} {s : List UInt8} {k : Nat}, Below b.heap.size b w → WAt w p s k → TS b t v → isS t = true → printF n (.named t) s k ≠ .out → Calls Tryz.prog 160 #[pV p, v] w (WEnds p (printF n (.named t) s k) w)
theorem Spec.expr_step {b w : World} {p n : Nat} (S : Spec b p n) {e : Tree} {v : Value} {s : List UInt8} {k : Nat} {f : List UInt8 → Nat → WRes} {R : WRes} (hB : Below b.heap.size b w) (h : WAt w p s k) (q0 : TE b e v) (hR : (printF n (.expr e) s k).bind f = R) (hD : R ≠ .out) : Calls Tryz.prog 159 #[pV p, v] w (Step p f R w) := (S.expr hB h q0 (bind_ne hR hD)).mono fun _ _ he => he.step hR
theorem Spec.operand_step {b w : World} {p n : Nat} (S : Spec b p n) {e : Tree} {v : Value} {needs : Bool} {s : List UInt8} {k : Nat} {f : List UInt8 → Nat → WRes} {R : WRes} (hB : Below b.heap.size b w) (h : WAt w p s k) (q0 : TE b e v) (hR : (printF n (.operand e needs) s k).bind f = R) (hD : R ≠ .out) : Calls Tryz.prog 204 #[pV p, v, .bool needs] w (Step p f R w) := (S.operand hB h q0 (bind_ne hR hD)).mono fun _ _ he => he.step hR
theorem Spec.post_step {b w : World} {p n : Nat} (S : Spec b p n) {e : Tree} {v : Value} {s : List UInt8} {k : Nat} {f : List UInt8 → Nat → WRes} {R : WRes} (hB : Below b.heap.size b w) (h : WAt w p s k) (q0 : TE b e v) (hR : (printF n (.post e) s k).bind f = R) (hD : R ≠ .out) : Calls Tryz.prog 199 #[pV p, v] w (Step p f R w) := (S.post hB h q0 (bind_ne hR hD)).mono fun _ _ he => he.step hR
theorem Spec.operation_step {b w : World} {p n : Nat} (S : Spec b p n) {e : Tree} {v : Value} {s : List UInt8} {k : Nat} {f : List UInt8 → Nat → WRes} {R : WRes} (hB : Below b.heap.size b w) (h : WAt w p s k) (q0 : TE b e v) (q1 : isX e = true) (hR : (printF n (.operation e) s k).bind f = R) (hD : R ≠ .out) : Calls Tryz.prog 206 #[pV p, v] w (Step p f R w) := (S.operation hB h q0 q1 (bind_ne hR hD)).mono fun _ _ he => he.step hR
theorem Spec.index_step {b w : World} {p n : Nat} (S : Spec b p n) {e : Tree} {v : Value} {s : List UInt8} {k : Nat} {f : List UInt8 → Nat → WRes} {R : WRes} (hB : Below b.heap.size b w) (h : WAt w p s k) (q0 : TE b e v) (hR : (printF n (.index e) s k).bind f = R) (hD : R ≠ .out) : Calls Tryz.prog 200 #[pV p, v] w (Step p f R w) := (S.index hB h q0 (bind_ne hR hD)).mono fun _ _ he => he.step hR
theorem Spec.item_step {b w : World} {p n : Nat} (S : Spec b p n) {e key : Tree} {v kv : Value} {s : List UInt8} {k : Nat} {f : List UInt8 → Nat → WRes} {R : WRes} (hB : Below b.heap.size b w) (h : WAt w p s k) (q0 : TE b key kv) (q1 : TE b e v) (hR : (printF n (.item key e) s k).bind f = R) (hD : R ≠ .out) : Calls Tryz.prog 208 #[pV p, kv, v] w (Step p f R w) := (S.item hB h q0 q1 (bind_ne hR hD)).mono fun _ _ he => he.step hR
theorem Spec.body_step {b w : World} {p n : Nat} (S : Spec b p n) {e : Tree} {v : Value} {s : List UInt8} {k : Nat} {f : List UInt8 → Nat → WRes} {R : WRes} (hB : Below b.heap.size b w) (h : WAt w p s k) (q0 : TE b e v) (q1 : isX e = true) (hR : (printF n (.body e) s k).bind f = R) (hD : R ≠ .out) : Calls Tryz.prog 203 #[pV p, v] w (Step p f R w) := (S.body hB h q0 q1 (bind_ne hR hD)).mono fun _ _ he => he.step hR
theorem Spec.stmts_step {b w : World} {p n : Nat} (S : Spec b p n) {t : Tree} {v : Value} {s : List UInt8} {k : Nat} {f : List UInt8 → Nat → WRes} {R : WRes} (hB : Below b.heap.size b w) (h : WAt w p s k) (q0 : TL b .ss t v) (hR : (printF n (.stmts t) s k).bind f = R) (hD : R ≠ .out) : Calls Tryz.prog 60 #[pV p, v] w (Step p f R w) := (S.stmts hB h q0 (bind_ne hR hD)).mono fun _ _ he => he.step hR
theorem Spec.block_step {b w : World} {p n : Nat} (S : Spec b p n) {t : Tree} {v : Value} {s : List UInt8} {k : Nat} {f : List UInt8 → Nat → WRes} {R : WRes} (hB : Below b.heap.size b w) (h : WAt w p s k) (q0 : TL b .ss t v) (hR : (printF n (.block t) s k).bind f = R) (hD : R ≠ .out) : Calls Tryz.prog 209 #[pV p, v] w (Step p f R w) := (S.block hB h q0 (bind_ne hR hD)).mono fun _ _ he => he.step hR
theorem Spec.stmt_step {b w : World} {p n : Nat} (S : Spec b p n) {t : Tree} {v : Value} {s : List UInt8} {k : Nat} {f : List UInt8 → Nat → WRes} {R : WRes} (hB : Below b.heap.size b w) (h : WAt w p s k) (q0 : TS b t v) (hR : (printF n (.stmt t) s k).bind f = R) (hD : R ≠ .out) : Calls Tryz.prog 115 #[pV p, v] w (Step p f R w) := (S.stmt hB h q0 (bind_ne hR hD)).mono fun _ _ he => he.step hR
theorem Spec.value_step {b w : World} {p n : Nat} (S : Spec b p n) {e : Tree} {v : Value} {ahead : List UInt8} {s : List UInt8} {k : Nat} {f : List UInt8 → Nat → WRes} {R : WRes} (hB : Below b.heap.size b w) (h : WAt w p s k) (q0 : ahead.length ≤ 1000) (q1 : TE b e v) (hR : (printF n (.value ahead e) s k).bind f = R) (hD : R ≠ .out) : Calls Tryz.prog 158 #[pV p, sV ahead, v] w (Step p f R w) := (S.value hB h q0 q1 (bind_ne hR hD)).mono fun _ _ he => he.step hR
theorem Spec.blocks_step {b w : World} {p n : Nat} (S : Spec b p n) {t : Tree} {v : Value} {s : List UInt8} {k : Nat} {f : List UInt8 → Nat → WRes} {R : WRes} (hB : Below b.heap.size b w) (h : WAt w p s k) (q0 : TS b t v) (q1 : isS t = true) (q2 : (kindT t = 4 ∨ kindT t = 5 ∨ kindT t = 6 ∨ kindT t = 7 ∨ kindT t = 10)) (hR : (printF n (.blocks t) s k).bind f = R) (hD : R ≠ .out) : Calls Tryz.prog 161 #[pV p, v] w (Step p f R w) := (S.blocks hB h q0 q1 q2 (bind_ne hR hD)).mono fun _ _ he => he.step hR
theorem Spec.choice_step {b w : World} {p n : Nat} (S : Spec b p n) {t : Tree} {v : Value} {s : List UInt8} {k : Nat} {f : List UInt8 → Nat → WRes} {R : WRes} (hB : Below b.heap.size b w) (h : WAt w p s k) (q0 : TS b t v) (q1 : isS t = true) (hR : (printF n (.choice t) s k).bind f = R) (hD : R ≠ .out) : Calls Tryz.prog 210 #[pV p, v] w (Step p f R w) := (S.choice hB h q0 q1 (bind_ne hR hD)).mono fun _ _ he => he.step hR
theorem Spec.named_step {b w : World} {p n : Nat} (S : Spec b p n) {t : Tree} {v : Value} {s : List UInt8} {k : Nat} {f : List UInt8 → Nat → WRes} {R : WRes} (hB : Below b.heap.size b w) (h : WAt w p s k) (q0 : TS b t v) (q1 : isS t = true) (hR : (printF n (.named t) s k).bind f = R) (hD : R ≠ .out) : Calls Tryz.prog 160 #[pV p, v] w (Step p f R w) := (S.named hB h q0 q1 (bind_ne hR hD)).mono fun _ _ he => he.step hR
theorem below_al {b w : World} (h : Below b.heap.size b w) (o : Obj) : Below b.heap.size b (w.alloc o) := h.alloc h.size o
theorem Spec.quoted_step {w : World} {p : Nat} {t s : List UInt8} {k : Nat} {f : List UInt8 → Nat → WRes} {R : WRes} (h : WAt w p s k) (ht : t.length ≤ 32768) (hR : (putT (quoteL t) s k).bind f = R) : Calls Tryz.prog 198 #[pV p, sV t] w (Step p f R w) := by
  have hst := size_list t
  have Q := Quote_any ⟨t.toArray⟩ w (by rw [hst]; omega)
  have hs : (⟨t.toArray⟩ : ByteArray).data.toList = t := by simp
  rw [hs] at Q
  replace Q := Lib.hid Q
  have H := Lib.hid h
  have hp0 : p ≤ w.heap.size := Nat.le_of_lt h.lt
  have KK := Lib.hid (WK.refl p w)
  have HR := Lib.hid hR
  have hq : (quoteL t).length ≤ 1099511627776 := by
    have : ∀ l : List UInt8, (bodyL l).length ≤ 4 * l.length := by
      intro l
      induction l with
      | nil => simp [bodyL]
      | cons c r ih =>
        have e : bodyL (c :: r) = escL c ++ bodyL r := rfl
        have hc : (escL c).length ≤ 4 := by unfold escL; split <;> (try split) <;> simp
        rw [e, List.length_append, List.length_cons]
        omega
    have := this t
    unfold quoteL
    simp only [List.length_cons, List.length_append, List.length_nil]
    omega
  have nl : ¬ (32768 : Int) < (t.length : Int) := by omega
  clear h hR hs
  go_enter Tryz.func198, Tryz.ntmps198
  go_wp2_with (first
    | (go_at_call 239; (with_reducible refine Q.out.mono ?_); rintro e w1 ⟨rfl, hb⟩; replace H := Lib.hid (H.out.below hb); replace KK := Lib.hid (KK.out.newer hp0 hb); clear hb)
    | (go_at_call 116; (with_reducible refine (put_step H.out ?_ HR.out hq).mono ?_); (· rfl); rintro e w1 hE; rcases hE with ⟨c, hq, rfl, hk⟩ | ⟨s1, k1, hq, rfl, hh, hk⟩; (· exact ⟨rfl, .inl ⟨c, hq, rfl, KK.out.trans hk⟩⟩)))
  go_end0
  exact .inr ⟨s1, k1, hq, rfl, hh, KK.out.trans hk⟩
end Go.Proofs.YtoggkigfijgbfaaGreatDoor.P6
