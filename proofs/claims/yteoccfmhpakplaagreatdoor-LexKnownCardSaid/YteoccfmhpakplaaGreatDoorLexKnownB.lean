/- LexKnown's drawn region: three line feeds, a quoted text and a text that is too long, joined in whatever order, and read. -/
import Derived.Test.YteoccfmhpakplaaGreatDoorLexFill
import Derived.Test.YteoccfmhpakplaaGreatDoorLexKnownM
import Derived.Deep.RegionHeld3
import Derived.Deep.CutRange
namespace Go.Proofs.YteoccfmhpakplaaGreatDoor.lexKnown
set_option maxRecDepth 20000
open Go.ChangeShapes Go.WideShapes Go.ChangeAt Go.RowKit

/-- A fault in memory. -/
structure FaultAt (w : World) (b : Nat) (c L : Int) : Prop where
  lt : b < w.heap.size
  c0 : w.cell? ⟨b, 0, none⟩ = some (.int .i64 c)
  c1 : w.cell? ⟨b, 1, none⟩ = some (.int .i64 L)
theorem FaultAt.below {w w' : World} {b : Nat} {c L : Int} (h : FaultAt w b c L) (hb : Below w.heap.size w w') : FaultAt w' b c L :=
  ⟨Nat.lt_of_lt_of_le h.lt hb.size, (hb.cell (p := ⟨b, 0, none⟩) h.lt).trans h.c0, (hb.cell (p := ⟨b, 1, none⟩) h.lt).trans h.c1⟩
/-- What holds of a world, and of each that only adds to it. -/
structure Keeps (w : World) (P : World → Prop) : Prop where
  at_ : P w
  keep : ∀ w', Below w.heap.size w w' → P w'
theorem Keeps.below {w w' : World} {P : World → Prop} (h : Keeps w P) (hb : Below w.heap.size w w') : Keeps w' P :=
  ⟨h.keep _ hb, fun _ hb2 => h.keep _ (hb.trans (hb2.mono hb.size))⟩
theorem Keeps.and {w : World} {P Q : World → Prop} (h : Keeps w P) (g : Keeps w Q) : Keeps w fun x => P x ∧ Q x := ⟨⟨h.at_, g.at_⟩, fun _ hb => ⟨h.keep _ hb, g.keep _ hb⟩⟩
theorem Keeps.fault {w : World} {b : Nat} {c L : Int} (h : FaultAt w b c L) : Keeps w fun x => FaultAt x b c L := ⟨h, fun _ hb => h.below hb⟩
theorem Keeps.cells {w : World} {g k : Nat} {t : Tok} (h : CellsOf w g k t) : Keeps w fun x => CellsOf x g k t := ⟨h, fun _ hb => h.below hb⟩
theorem Keeps.toks {w : World} {A : Option Addr} {l : List Tok} (h : TokAt w A l) : Keeps w fun x => TokAt x A l := ⟨h, fun _ hb => h.below hb⟩
theorem Keeps.env {w : World} (h : Env4 w) : Keeps w Env4 := ⟨h, fun _ hb => h.below hb⟩
theorem bad_at (s : ByteArray) (c : Int) (at_ : Nat) (L : Int) (h : lexL s.data.toList = ⟨[], c, at_⟩) (hc : c ≠ 0) (hL : (at_ : Int) = L) (w : World) (hE : Env4 w) :
    Calls Tryz.prog 9 #[.string s] w fun e w' => ∃ b, e = .returned (.tuple #[.slice none 0 0, .iface 48 (.pointer (some ⟨b, 0, none⟩))]) ∧ FaultAt w' b c L ∧ Below w.heap.size w w' := by
  refine (Tokens_bad s _ c at_ L w hE h hc hL).mono ?_
  rintro e w' ⟨b, rfl, h1, h2, h3, hb⟩
  exact ⟨b, rfl, ⟨h1, h2, h3⟩, hb⟩
theorem ok_at (s : ByteArray) (l : List Tok) (n at_ : Nat) (h : lexL s.data.toList = ⟨l, 0, at_⟩) (hn : l.length = n) (h0 : l ≠ []) (w : World) (hE : Env4 w) :
    Calls Tryz.prog 9 #[.string s] w fun e w' => ∃ g c, e = .returned (.tuple #[.slice (some ⟨g, 0, none⟩) n c, .nilIface]) ∧ TokAt w' (some ⟨g, 0, none⟩) l ∧ Below w.heap.size w w' := by
  refine (Tokens_ok s l n at_ w hE h hn).mono ?_
  rintro e w' ⟨A, c, rfl, hA, hb⟩
  obtain ⟨g, rfl⟩ := hA.blk h0
  exact ⟨g, c, rfl, hA, hb⟩
theorem made_str {wm : World} {base n : Nat} {a : Option Addr} (h : wm.ownsRow base 5 1 (.slice a n n) n (madeCells (Value.int .u8 0).cells (n * 1)).toList) :
    (convert 36 9 (.slice a n n)).run Tryz.prog wm = .ok (.string ⟨(List.replicate n (0 : UInt8)).toArray⟩) wm := by
  have e : (madeCells (Value.int .u8 0).cells (n * 1)).toList = Lib.byteCells (List.replicate n 0) := by
    unfold Lib.byteCells
    apply List.ext_getElem?
    intro j
    rw [List.getElem?_map, List.getElem?_replicate, Array.getElem?_toList]
    by_cases hj : j < n
    · rw [if_pos hj]; simp [madeCells, Value.cells, hj, Nat.mod_one]
    · rw [if_neg hj]; simp [madeCells, Value.cells, hj]
  refine str_of_own (base := base) (l := List.replicate n 0) ?_
  rw [List.length_replicate, ← e]; exact h
theorem below_made {w wm : World} (hg : w.grownBy wm none) : Below w.heap.size w wm := (Below.refl _ _).grown hg (Nat.le_refl _) (fun j hj => by cases hj)
theorem row_keep {w w1 w2 : World} {v : Value} {l : List UInt8} (h : Row w v l w1) (hb : Below w1.heap.size w1 w2) : Row w v l w2 := ⟨own_below h.own hb, h.below.trans (hb.mono h.below.size)⟩
theorem bytes3 (a b c : List UInt8) : ((⟨a.toArray⟩ : ByteArray) ++ ⟨b.toArray⟩ ++ ⟨c.toArray⟩).data.toList = a ++ b ++ c := by
  rw [ByteArray.mk_append_mk, ByteArray.mk_append_mk]
theorem bytes5 (a b c d e : List UInt8) : ((⟨a.toArray⟩ : ByteArray) ++ ⟨b.toArray⟩ ++ ⟨c.toArray⟩ ++ ⟨d.toArray⟩ ++ ⟨e.toArray⟩).data.toList = a ++ b ++ c ++ d ++ e := by
  rw [ByteArray.mk_append_mk, ByteArray.mk_append_mk, ByteArray.mk_append_mk, ByteArray.mk_append_mk]
theorem rep_size (n : Nat) (c : UInt8) : (⟨(List.replicate n c).toArray⟩ : ByteArray).size = n := by
  show (List.replicate n c).toArray.size = n
  rw [List.size_toArray, List.length_replicate]
theorem make_2000 (x : World) : ∃ a x', (Instr.makeSlice 36 (.int .i64 2000) (.int .i64 2000)).run Tryz.prog x = .ok (.slice a 2000 2000) x' ∧ x'.ownsRow x.heap.size 5 1 (.slice a 2000 2000) 2000 (madeCells (Value.int .u8 0).cells (2000 * 1)).toList ∧ x.grownBy x' none := by
  obtain ⟨i9, hi, hz0, hz1, hz2⟩ := info_parts byte_info
  obtain ⟨x', h1, h2, h3⟩ := run_make_full (P := Tryz.prog) x x.heap.size 36 5 i9 _ 1 Tryz.underlying36 hi hz0 hz1 .i64 .i64 2000 (by rw [hz2]; omega) (by unfold maxLen; omega) (Nat.le_refl _)
  exact ⟨_, x', h1, h2, h3⟩
/-- The big texts of the tail, and what is done with them. -/
structure Lits (b1 b3 bz bq b7 b6 : ByteArray) (l3 l7 l6 : List UInt8) : Prop where
  t1 : ∀ w, Env4 w → Calls Tryz.prog 9 #[.string b1] w fun e w' => ∃ b, e = .returned (.tuple #[.slice none 0 0, .iface 48 (.pointer (some ⟨b, 0, none⟩))]) ∧ FaultAt w' b 3 0 ∧ Below w.heap.size w w'
  m1 : ∀ (wm : World) (base : Nat) (a : Option Addr), wm.ownsRow base 5 1 (.slice a 32769 32769) 32769 (madeCells (Value.int .u8 0).cells (32769 * 1)).toList → (convert 36 9 (.slice a 32769 32769)).run Tryz.prog wm = .ok (.string b1) wm
  t4 : ∀ w, Env4 w → Calls Tryz.prog 9 #[.string (b3 ++ bq ++ ⟨#[34]⟩ ++ b7 ++ ⟨#[34]⟩)] w fun e w' => ∃ b, e = .returned (.tuple #[.slice none 0 0, .iface 48 (.pointer (some ⟨b, 0, none⟩))]) ∧ FaultAt w' b 3 3 ∧ Below w.heap.size w w'
  q4 : ∀ w, Calls Tryz.prog 18 #[.string bz] w fun e w' => e = .returned (.string bq) ∧ Below w.heap.size w w'
  mz : ∀ (wm : World) (base : Nat) (a : Option Addr), wm.ownsRow base 5 1 (.slice a 2000 2000) 2000 (madeCells (Value.int .u8 0).cells (2000 * 1)).toList → (convert 36 9 (.slice a 2000 2000)).run Tryz.prog wm = .ok (.string bz) wm
  l4 : ∀ w, Calls Tryz.prog 17 #[.int .u8 3] w fun e w' => ∃ v, e = .returned v ∧ Row w v l3 w'
  v3 : ∀ (w w' : World) (v : Value), Row w v l3 w' → (convert 36 9 v).run Tryz.prog w' = .ok (.string b3) w'
  m7 : ∀ w, Calls Tryz.prog 19 #[.int .i64 4097] w fun e w' => ∃ v, e = .returned v ∧ Row w v l7 w'
  v7 : ∀ (w w' : World) (v : Value), Row w v l7 w' → (convert 36 9 v).run Tryz.prog w' = .ok (.string b7) w'
  m6 : ∀ w, Calls Tryz.prog 19 #[.int .i64 4096] w fun e w' => ∃ v, e = .returned v ∧ Row w v l6 w'
  v6 : ∀ (w w' : World) (v : Value), Row w v l6 w' → (convert 36 9 v).run Tryz.prog w' = .ok (.string b6) w'
  t6 : ∀ w, Env4 w → Calls Tryz.prog 9 #[.string (⟨#[34]⟩ ++ b6 ++ ⟨#[34]⟩)] w fun e w' => ∃ g c, e = .returned (.tuple #[.slice (some ⟨g, 0, none⟩) 2 c, .nilIface]) ∧ Keeps w' (fun x => x.cell? ⟨g, 1, none⟩ = some (.string b6)) ∧ Below w.heap.size w w'
  s3 : b3.size ≤ 3
  sq : bq.size ≤ 8002
  s7 : b7.size ≤ 4097
  s6 : b6.size = 4096
theorem t4_any (l3 lq l7 : List UInt8) (h : lexL (l3 ++ lq ++ [34] ++ l7 ++ [34]) = ⟨[], 3, 3⟩) : ∀ w, Env4 w → Calls Tryz.prog 9 #[.string ((⟨l3.toArray⟩ : ByteArray) ++ ⟨lq.toArray⟩ ++ ⟨#[34]⟩ ++ ⟨l7.toArray⟩ ++ ⟨#[34]⟩)] w fun e w' => ∃ b, e = .returned (.tuple #[.slice none 0 0, .iface 48 (.pointer (some ⟨b, 0, none⟩))]) ∧ FaultAt w' b 3 3 ∧ Below w.heap.size w w' := by
  have e : ((⟨l3.toArray⟩ : ByteArray) ++ ⟨lq.toArray⟩ ++ ⟨#[34]⟩ ++ ⟨l7.toArray⟩ ++ ⟨#[34]⟩).data.toList = l3 ++ lq ++ [34] ++ l7 ++ [34] := bytes5 l3 lq [34] l7 [34]
  rw [← e] at h
  exact bad_at _ 3 3 3 h (by decide) rfl
theorem t6_any (l6 : List UInt8) (h : lexL ([34] ++ l6 ++ [34]) = ⟨[⟨3, l6, 0, 0⟩, ⟨5, [], 0, 0⟩], 0, 0⟩) : ∀ w, Env4 w → Calls Tryz.prog 9 #[.string ((⟨#[34]⟩ : ByteArray) ++ ⟨l6.toArray⟩ ++ ⟨#[34]⟩)] w fun e w' => ∃ g c, e = .returned (.tuple #[.slice (some ⟨g, 0, none⟩) 2 c, .nilIface]) ∧ Keeps w' (fun x => x.cell? ⟨g, 1, none⟩ = some (.string ⟨l6.toArray⟩)) ∧ Below w.heap.size w w' := by
  intro w hE
  have e : ((⟨#[34]⟩ : ByteArray) ++ ⟨l6.toArray⟩ ++ ⟨#[34]⟩).data.toList = [34] ++ l6 ++ [34] := bytes3 [34] l6 [34]
  rw [← e] at h
  refine (ok_at _ _ 2 0 h rfl (by simp) w hE).mono ?_
  rintro e w' ⟨g, c, rfl, hA, hb⟩
  have x := hA.get 0 _ rfl
  exact ⟨g, c, rfl, ⟨x.c1, fun w2 hb2 => (x.below hb2).c1⟩, hb⟩
theorem big_texts : ∃ b1 b3 bz bq b7 b6 l3 l7 l6, Lits b1 b3 bz bq b7 b6 l3 l7 l6 := by
  refine ⟨⟨(List.replicate 32769 (0 : UInt8)).toArray⟩, ⟨(List.replicate 3 (10 : UInt8)).toArray⟩, ⟨(List.replicate 2000 (0 : UInt8)).toArray⟩, ⟨(quoteL (List.replicate 2000 (0 : UInt8))).toArray⟩, ⟨(List.replicate 4097 (97 : UInt8)).toArray⟩, ⟨(List.replicate 4096 (97 : UInt8)).toArray⟩, List.replicate 3 10, List.replicate 4097 97, List.replicate 4096 97, ?_⟩
  refine ⟨?_, ?_, ?_, ?_, ?_, ?_, ?_, ?_, ?_, ?_, ?_, ?_, ?_, ?_, ?_, ?_⟩
  · exact bad_at ⟨(List.replicate 32769 (0 : UInt8)).toArray⟩ 3 0 0 (long_text _ (by show _ < (List.replicate 32769 (0 : UInt8)).length; rw [List.length_replicate]; omega)) (by decide) rfl
  · exact fun wm base a h => made_str (n := 32769) h
  · exact t4_any (List.replicate 3 10) (quoteL (List.replicate 2000 0)) (List.replicate 4097 97) long_string
  · exact fun w => Quote_any ⟨(List.replicate 2000 (0 : UInt8)).toArray⟩ w (by rw [rep_size]; omega)
  · exact fun wm base a h => made_str (n := 2000) h
  · exact lines_any 3 (by omega)
  · exact fun w w' v h => str_of_own h.own
  · exact many_any 4097 (by omega)
  · exact fun w w' v h => str_of_own h.own
  · exact many_any 4096 (by omega)
  · exact fun w w' v h => str_of_own h.own
  · exact t6_any (List.replicate 4096 97) most_string
  · rw [rep_size]; omega
  · have := body_length (List.replicate 2000 (0 : UInt8))
    rw [List.length_replicate] at this
    show (quoteL (List.replicate 2000 (0 : UInt8))).toArray.size ≤ _
    rw [List.size_toArray, quote_length]; omega
  · rw [rep_size]; omega
  · rw [rep_size]
/-- Does a statement begin with that region? -/
def begins (n : Nat) : Code → Bool
  | .region id _ _ => id == n
  | .seq a _ => begins n a
  | _ => false
/-- The statements from a region on. -/
def fromR (n : Nat) : Code → Option Code
  | .seq a b => if begins n a then some (.seq a b) else fromR n b
  | .region id ops d => if id == n then some (.region id ops d) else none
  | _ => none
def headC : Code → Code
  | .seq a _ => a
  | c => c
noncomputable def region18 : Code := headC ((Tryz.f8.body.bind (fromR 18)).getD .skip)
noncomputable def region15 : Code := headC ((Tryz.f8.body.bind (fromR 15)).getD .skip)
noncomputable def rest16 : Code := (Tryz.f8.body.bind (fromR 16)).getD .skip
set_option maxHeartbeats 40000000 in
set_option linter.unusedVariables false in
theorem drawn {b1 b3 bz bq b7 b6 : ByteArray} {l3 l7 l6 : List UInt8} (HL : Hid (Lits b1 b3 bz bq b7 b6 l3 l7 l6)) (w3 : World) (hE : Env4 w3) (K : Act → World → Prop) (Q' : Exit → Act → World → Prop) {c0 c1 c2 c3 c4 c5 c6 c7 c8 c9 c10 c11 c12 c13 c14 c15 c16 c17 c18 c19 c20 c21 c22 c23 c24 c25 c26 c27 c28 c29 c30 c31 c32 c33 c34 c35 c36 c37 c38 c39 c40 c41 c42 c43 c44 c45 c46 c47 c48 c49 c50 c51 c52 c53 c54 c55 c56 c57 c58 c59 c60 c61 c62 c63 c64 c65 c66 c67 c68 c69 c70 c71 c72 c73 c74 c75 c76 c77 c78 c79 c80 c81 c82 c83 c84 c85 c86 c87 c88 c89 c90 c91 c92 c93 c94 c95 c96 c97 c98 c99 c100 c101 c102 c103 c104 c105 c106 c107 c108 c109 c110 c111 c112 c113 c114 c115 c116 c117 c118 c119 c120 c121 c122 c123 c124 c125 c126 c127 c128 c129 c130 c131 c132 c133 c134 c135 c136 c137 c138 c139 c140 c141 c142 c143 c144 c145 c146 c147 c148 c149 c150 c151 c152 c153 c154 c155 c156 c157 c158 c159 c160 c161 c162 c163 c164 c165 c166 c167 c168 c169 c170 c171 c172 c173 c174 c175 c176 c177 c178 c179 c180 c181 c182 c183 c184 c185 c186 c187 c188 c189 c190 c191 c192 c193 c194 c195 c196 c197 c198 c199 c200 c201 c202 c203 c204 c205 c206 c207 c208 c209 c210 c211 c212 c213 c214 c215 c216 c217 c218 c219 c220 c221 c222 c223 c224 c225 c226 c227 c228 c229 c230 c231 c232 c233 c234 c235 c236 : Value}
    (hK : ∀ (x15 x97 x98 x99 x100 x101 x102 x103 x104 x105 x106 x107 x108 x109 x110 x111 : Value) (f : Nat) (wX : World), FaultAt wX f 3 3 → Below w3.heap.size w3 wX → K ⟨#[c0, c1, c2, c3, c4, c5, c6, c7, c8, c9, c10, c11, c12, c13, c14, x15, .iface 48 (.pointer (some ⟨f, 0, none⟩)), c17, c18, c19, c20, c21, c22, c23, c24, c25, c26, c27, c28, c29, c30, c31, c32, c33, c34, c35, c36, c37, c38, c39, c40, c41, c42, c43, c44, c45, c46, c47, c48, c49, c50, c51, c52, c53, c54, c55, c56, c57, c58, c59, c60, c61, c62, c63, c64, c65, c66, c67, c68, c69, c70, c71, c72, c73, c74, c75, c76, c77, c78, c79, c80, c81, c82, c83, c84, c85, c86, c87, c88, c89, c90, c91, c92, c93, c94, c95, c96, x97, x98, x99, x100, x101, x102, x103, x104, x105, x106, x107, x108, x109, x110, x111, c112, c113, c114, c115, c116, c117, c118, c119, c120, c121, c122, c123, c124, c125, c126, c127, c128, c129, c130, c131, c132, c133, c134, c135, c136, c137, c138, c139, c140, c141, c142, c143, c144, c145, c146, c147, c148, c149, c150, c151, c152, c153, c154, c155, c156, c157, c158, c159, c160, c161, c162, c163, c164, c165, c166, c167, c168, c169, c170, c171, c172, c173, c174, c175, c176, c177, c178, c179, c180, c181, c182, c183, c184, c185, c186, c187, c188, c189, c190, c191, c192, c193, c194, c195, c196, c197, c198, c199, c200, c201, c202, c203, c204, c205, c206, c207, c208, c209, c210, c211, c212, c213, c214, c215, c216, c217, c218, c219, c220, c221, c222, c223, c224, c225, c226, c227, c228, c229, c230, c231, c232, c233, c234, c235, c236], []⟩ wX) : Code.wp Tryz.prog region18 (Exit.then K Q') ⟨#[c0, c1, c2, c3, c4, c5, c6, c7, c8, c9, c10, c11, c12, c13, c14, c15, c16, c17, c18, c19, c20, c21, c22, c23, c24, c25, c26, c27, c28, c29, c30, c31, c32, c33, c34, c35, c36, c37, c38, c39, c40, c41, c42, c43, c44, c45, c46, c47, c48, c49, c50, c51, c52, c53, c54, c55, c56, c57, c58, c59, c60, c61, c62, c63, c64, c65, c66, c67, c68, c69, c70, c71, c72, c73, c74, c75, c76, c77, c78, c79, c80, c81, c82, c83, c84, c85, c86, c87, c88, c89, c90, c91, c92, c93, c94, c95, c96, c97, c98, c99, c100, c101, c102, c103, c104, c105, c106, c107, c108, c109, c110, c111, c112, c113, c114, c115, c116, c117, c118, c119, c120, c121, c122, c123, c124, c125, c126, c127, c128, c129, c130, c131, c132, c133, c134, c135, c136, c137, c138, c139, c140, c141, c142, c143, c144, c145, c146, c147, c148, c149, c150, c151, c152, c153, c154, c155, c156, c157, c158, c159, c160, c161, c162, c163, c164, c165, c166, c167, c168, c169, c170, c171, c172, c173, c174, c175, c176, c177, c178, c179, c180, c181, c182, c183, c184, c185, c186, c187, c188, c189, c190, c191, c192, c193, c194, c195, c196, c197, c198, c199, c200, c201, c202, c203, c204, c205, c206, c207, c208, c209, c210, c211, c212, c213, c214, c215, c216, c217, c218, c219, c220, c221, c222, c223, c224, c225, c226, c227, c228, c229, c230, c231, c232, c233, c234, c235, c236], []⟩ w3 := by
  have HK := Lib.hid hK
  clear hK
  obtain ⟨i9, hi, hz0, hz1, hz2⟩ := info_parts byte_info
  conv => arg 2; whnf
  have B5 := Lib.hid (show Below w3.heap.size w3 w3.drew from (Below.refl _ _).drew)
  have E5 := Lib.hid hE
  have z3 := HL.out.s3
  have zq := HL.out.sq
  have z7 := HL.out.s7
  have za : (b3 ++ bq).size ≤ 8005 := by rw [ByteArray.size_append]; omega
  have zb : (b3 ++ bq ++ ⟨#[34]⟩).size ≤ 8006 := by rw [ByteArray.size_append]; show (b3 ++ bq).size + 1 ≤ _; omega
  have zc : (b3 ++ bq ++ ⟨#[34]⟩ ++ b7).size ≤ 12103 := by rw [ByteArray.size_append]; omega
  have na1 : ¬ 9223372036854775807 < b3.size + bq.size := by omega
  have na2 : ¬ 9223372036854775807 < b3.size + bq.size + 1 := by omega
  have na3 : ¬ 9223372036854775807 < b3.size + bq.size + 1 + b7.size := by omega
  have na4 : ¬ 9223372036854775807 < b3.size + bq.size + 1 + b7.size + 1 := by omega
  have nb2 : ¬ 9223372036854775807 < (b3 ++ bq).size + 1 := by omega
  have nb3 : ¬ 9223372036854775807 < (b3 ++ bq ++ ⟨#[34]⟩).size + b7.size := by omega
  have nb4 : ¬ 9223372036854775807 < (b3 ++ bq ++ ⟨#[34]⟩ ++ b7).size + 1 := by omega
  have MK := make_2000
  have MK := Lib.hid MK
  obtain ⟨aA, wmA, hrunA, ownA, growA⟩ := MK.out w3.drew
  have hbA := below_made growA
  have BA := Lib.hid (B5.out.trans (hbA.mono B5.out.size))
  have MA := Lib.hid ownA
  have CMA := HL.out.mz _ _ _ ownA
  clear hE growA hbA ownA
  refine wp_region_noPanic ?_
  go_region_with (first
    | (go_at_call 17; refine (HL.out.l4 _).mono ?_; rintro e w4 ⟨v, rfl, hR⟩; have hb := hR.below; have R1 := Lib.hid hR; have C1 := HL.out.v3 _ _ _ R1.out; (first
        | (have B6 := Lib.hid (B5.out.trans (hb.mono B5.out.size)); obtain ⟨aB, wmB, hrunB, ownB, growB⟩ := MK.out w4; have hbB := below_made growB; have B7 := Lib.hid (B6.out.trans (hbB.mono B6.out.size)); have CM := HL.out.mz _ _ _ ownB; have RQ := Lib.hid (row_keep R1.out hbB); have C3 := HL.out.v3 _ _ _ RQ.out; clear growB hbB ownB)
        | (have B7 := Lib.hid (BA.out.trans (hb.mono BA.out.size)); have CM := HL.out.mz _ _ _ (own_below MA.out hb); have RQ := R1)); clear hR hb)
    | (go_at_call 18; refine (HL.out.q4 _).mono ?_; rintro e w5 ⟨rfl, hb⟩; have B8 := Lib.hid (B7.out.trans (hb.mono B7.out.size)); have R5 := Lib.hid (row_keep RQ.out hb); have C5 := HL.out.v3 _ _ _ R5.out; clear hb)
    | (go_at_call 19; refine (HL.out.m7 _).mono ?_; rintro e w6 ⟨v2, rfl, hR⟩; have hb := hR.below; have B9 := Lib.hid (B8.out.trans (hb.mono B8.out.size)); have C6 := HL.out.v3 _ _ _ (row_keep R5.out hb); have C7 := HL.out.v7 _ _ _ hR; clear hR hb)
    | (go_at_call 9; refine (HL.out.t4 _ (E5.out.below B9.out)).mono ?_; rintro e w7 ⟨f5, rfl, hF, hb⟩; have BX := Lib.hid (B9.out.trans (hb.mono B9.out.size)); have F5 := Lib.hid hF; clear hF hb))
  all_goals
    change K _ _
    exact HK.out _ _ _ _ _ _ _ _ _ _ _ _ _ _ _ _ _ _ F5.out BX.out
end Go.Proofs.YteoccfmhpakplaaGreatDoor.lexKnown
