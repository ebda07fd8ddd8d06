/- NumMath: Plain facts on 64-bit arithmetic: wrapping, quotients rounded down, shifts and bits over the integers. No walk, no program. | NumMath2: What 'do' answers of sums, products and differences, and that they are a ring's modulo 2^64. No walk. | NumMath3: Plain facts: quotient and rest, bits over 64-bit vectors, shifts as products and quotients. No walk. | NumMath4: Plain facts on shifts: up is a product with a power of 2, down a quotient; one behind the other is both at once; up and down again keeps the low bits. No walk. | NumDo: The contracts of num.Do and of the laws' 'do': for every operation and any two numbers they answer what valF, errF and doF say, and leave the world as it is. | NumIs: errors.Is by its contracts, at what num.Parse asks: no error, and a *strconv.NumError that wraps the sentinel itself. The world stays as it is. | NumParse: num.isText, num.Parse and num.Text by their contracts: what a text is read as, and how a number is written, for every text and every number. | RefNum: Plain facts on the document's own way to reckon: sums by carries, products and quotients bit by bit, over numbers below 2^64. No walk. | RefDo: The contracts of the document's own way to reckon (tallowref01): sums, products, quotients over 64 bits. Each leaves the world as it is. | RefText: The contracts of the document's own digits and text of a number: they are Lib.decDigits and Lib.itoa; what lay below stands. | TextMath: Plain facts on decimal texts: what a text is read as, that a number's text is read as that number, and that a text that is read is that number's. No walk. | RefParse: The contract of the document's own reading of a number (tallowref01.Parse): at every text it answers what parseV and parseE say, as num.Parse does. The world stays as it is. -/
import Derived.Test.YtoggkigfijgbfaaGreatDoorZA
import Derived.WalkKit
import Derived.Test.YtoggkigfijgbfaaGreatDoorRows
import Derived.WalkSpells
import Derived.WalkLawsBesides
import Derived.Lib.Hide
import Derived.Test.YtoggkigfijgbfaaGreatDoorChecked
import Derived.LaidEql
import Derived.Stop.Asserts
import Derived.RowKitTokens
import Derived.Handy
import Derived.Lib.AppendIntMem
import Derived.Lib.ParseIntBTie
import Derived.Lib.AtoiErrMem
import Derived.WalkSmall
import Derived.Deep.LoopGhost
import Derived.Lib.ItoaNum
import Derived.BigQuiet
import Derived.Deep.QuietTactic
namespace Go.Proofs.YtoggkigfijgbfaaGreatDoor
set_option maxRecDepth 20000
open Go.RowKit

def downF (a : Int) (n : Nat) : Int := wrap64 ((a % 18446744073709551616) / 2 ^ min n 64)
end Go.Proofs.YtoggkigfijgbfaaGreatDoor
namespace Go.Proofs.YtoggkigfijgbfaaGreatDoor
set_option maxRecDepth 20000
open Go.RowKit
end Go.Proofs.YtoggkigfijgbfaaGreatDoor
namespace Go.Proofs.YtoggkigfijgbfaaGreatDoor
set_option maxRecDepth 20000
open Go.RowKit

/-! ### Quotient and rest -/
/-! ### Bits -/
theorem vec_or (A B : BitVec 64) : (A &&& B) ||| (A ^^^ B) = A ||| B := by
  apply BitVec.eq_of_getLsbD_eq; intro i hi
  simp only [BitVec.getLsbD_or, BitVec.getLsbD_and, BitVec.getLsbD_xor]
  cases A.getLsbD i <;> cases B.getLsbD i <;> rfl
theorem vec_none (A B : BitVec 64) : (A &&& B) &&& (A ^^^ B) = 0#64 := by
  apply BitVec.eq_of_getLsbD_eq; intro i hi
  simp only [BitVec.getLsbD_and, BitVec.getLsbD_xor, BitVec.getLsbD_zero]
  cases A.getLsbD i <;> cases B.getLsbD i <;> rfl
theorem vec_sum (A B : BitVec 64) : (A &&& B) + (A ||| B) = A + B := by
  have d1 : (A &&& B) &&& (A &&& ~~~B) = 0#64 := by
    apply BitVec.eq_of_getLsbD_eq; intro i hi
    simp only [BitVec.getLsbD_and, BitVec.getLsbD_not, BitVec.getLsbD_zero, hi, decide_true, Bool.true_and]
    cases A.getLsbD i <;> cases B.getLsbD i <;> rfl
  have d2 : B &&& (A &&& ~~~B) = 0#64 := by
    apply BitVec.eq_of_getLsbD_eq; intro i hi
    simp only [BitVec.getLsbD_and, BitVec.getLsbD_not, BitVec.getLsbD_zero, hi, decide_true, Bool.true_and]
    cases A.getLsbD i <;> cases B.getLsbD i <;> rfl
  have e1 : (A &&& B) ||| (A &&& ~~~B) = A := by
    apply BitVec.eq_of_getLsbD_eq; intro i hi
    simp only [BitVec.getLsbD_or, BitVec.getLsbD_and, BitVec.getLsbD_not, hi, decide_true, Bool.true_and]
    cases A.getLsbD i <;> cases B.getLsbD i <;> rfl
  have e2 : B ||| (A &&& ~~~B) = A ||| B := by
    apply BitVec.eq_of_getLsbD_eq; intro i hi
    simp only [BitVec.getLsbD_or, BitVec.getLsbD_and, BitVec.getLsbD_not, hi, decide_true, Bool.true_and]
    cases A.getLsbD i <;> cases B.getLsbD i <;> rfl
  have s1 := BitVec.add_eq_or_of_and_eq_zero _ _ d1
  have s2 := BitVec.add_eq_or_of_and_eq_zero _ _ d2
  rw [e1] at s1
  rw [e2] at s2
  rw [← s2, BitVec.add_comm B, ← BitVec.add_assoc, s1]
end Go.Proofs.YtoggkigfijgbfaaGreatDoor
namespace Go.Proofs.YtoggkigfijgbfaaGreatDoor
set_option maxRecDepth 20000
open Go.RowKit

theorem pow_split {m n : Nat} (h : m ≤ n) : (2 : Int) ^ n = 2 ^ m * 2 ^ (n - m) := by rw [← Int.pow_add]; congr 1; omega
theorem two64 : (2 : Int) ^ 64 = 18446744073709551616 := by decide
theorem ones (x : Nat) : downF (-1) x = wrap64 (2 ^ (64 - min x 64) - 1) := by
  unfold downF
  congr 1
  have hm : min x 64 ≤ 64 := Nat.min_le_right _ _
  generalize min x 64 = m at hm ⊢
  have hp : (0 : Int) < 2 ^ m := Int.pow_pos (by decide)
  have hs : (2 : Int) ^ m * 2 ^ (64 - m) = 18446744073709551616 := by rw [← pow_split hm, two64]
  have e : (-1 : Int) % 18446744073709551616 = (2 ^ m - 1) + 2 ^ m * (2 ^ (64 - m) - 1) := by
    rw [Int.mul_sub, hs, Int.mul_one]; omega
  rw [e, Int.add_mul_ediv_left _ _ (by omega), Int.ediv_eq_zero_of_lt (by omega) (by omega), Int.zero_add]
end Go.Proofs.YtoggkigfijgbfaaGreatDoor
namespace Go.Proofs.YtoggkigfijgbfaaGreatDoor
set_option maxRecDepth 20000
open Go.RowKit





end Go.Proofs.YtoggkigfijgbfaaGreatDoor
namespace Go.Proofs.YtoggkigfijgbfaaGreatDoor
set_option maxRecDepth 20000
open Go.RowKit Go.Extern.Stop Go.Stop Go.Extern
/-- What 'TypeOf(target).Comparable()' makes at a sentinel. -/
theorem isFacts : ∃ b : Addr, (∀ (v : Value) (w : World), (callFunc 57 #[.iface 238 v]).run Tryz.prog w = .ok (.value (.iface 146 (.agg #[.pointer (some b)]))) w) ∧
    ∀ w : World, (callFunc 299 #[.agg #[.pointer (some b)]]).run Tryz.prog w = .ok (.value (.bool true)) w :=
  ⟨⟨Tryz.prog.globals.size, 238, none⟩, fun v w => by kernel_rfl, fun w => by kernel_rfl⟩
theorem isComp : (Tryz.prog.info? 238).map (·.comparable) = some true := by kernel_rfl
theorem isSize : (Tryz.prog.info? 240).map (·.size) = some 1 := by kernel_rfl
theorem noIsN (v : Value) (xT : TypeId) (w : World) : (Instr.typeAssert (.iface 221 v) xT 158 true).run Tryz.prog w = .ok (.tuple #[.nilIface, .bool false]) w := run_typeAssert_lacksB Tryz.underlying158 (by kernel_rfl) (by kernel_rfl) v xT w
theorem hasUnwrapN (v : Value) (xT : TypeId) (w : World) : (Instr.typeAssert (.iface 221 v) xT 153 true).run Tryz.prog w = .ok (.tuple #[.iface 221 v, .bool true]) w := run_typeAssert_hasB Tryz.underlying153 (by kernel_rfl) v xT w
/-- errors.Is(nil, x). -/
theorem is_nil (b : Addr) (w : World) :
    Calls Tryz.prog 34 #[.nilIface, .iface 238 (.pointer (some b))] w fun e w' => e = .returned (.bool false) ∧ w' = w := by
  have hn := run_eql_iface_nil_left (P := Tryz.prog) w 238 (.pointer (some b)) Tryz.underlying26
  go_enter Tryz.func34, Tryz.ntmps34
  go_wp2
  go_ret
  exact ⟨rfl, rfl⟩
theorem is_num_same (pb po : Nat) (b : Addr) (w : World) (h1 : w.cell? ⟨pb, po + 2, none⟩ = some (.iface 238 (.pointer (some b)))) :
    Calls Tryz.prog 34 #[.iface 221 (.pointer (some ⟨pb, po, none⟩)), .iface 238 (.pointer (some b))] w fun e w' => e = .returned (.bool true) ∧ w' = w := by
  obtain ⟨i, hi, hcmp⟩ := Option.map_eq_some_iff.1 isComp
  obtain ⟨j, hj, hjs⟩ := Option.map_eq_some_iff.1 isSize
  obtain ⟨b0, tT, cT⟩ := isFacts
  have nW := noIsN
  have uW := hasUnwrapN
  have heq := run_eql_iface_ptr_same (P := Tryz.prog) w b Tryz.underlying26 Tryz.underlying238 hi hcmp hj
  have hty := run_eql_iface_types (P := Tryz.prog) 221 238 (.pointer (some ⟨pb, po, none⟩)) (.pointer (some b)) Tryz.underlying26 (by decide) w
  go_enter Tryz.func34, Tryz.ntmps34
  go_wp2
  refine wp_loop_rounds 2 ?_
  rw [rounds_succ]
  go_wp2
  rw [rounds_succ]
  go_wp2
  go_ret
  exact ⟨rfl, rfl⟩
end Go.Proofs.YtoggkigfijgbfaaGreatDoor
namespace Go.Proofs.YtoggkigfijgbfaaGreatDoor
set_option maxRecDepth 20000
open Go.RowKit
def digitB (c : UInt8) : Bool := decide (48 ≤ c.toNat ∧ c.toNat ≤ 57)
def isTextL (l : List UInt8) : Bool :=
  if Lib.trimPrefix l [45] = [] then false else
  if (Lib.trimPrefix l [45]).head? = some 48 then l == [48] else (Lib.trimPrefix l [45]).all digitB
theorem isText_any (s : ByteArray) (w : World) (hs : s.size ≤ 9223372036854775807) :
    Calls Tryz.prog 132 #[.string s] w fun e w' => e = .returned (.bool (isTextL s.data.toList)) ∧ w' = w := by
  obtain ⟨d, hd⟩ : ∃ d : ByteArray, (⟨(Lib.trimPrefix s.data.toList [45]).toArray⟩ : ByteArray) = d := ⟨_, rfl⟩
  have C := Tryz.strings_TrimPrefix s ⟨#[45]⟩ w
  rw [show (⟨(Lib.trimPrefix s.data.toList (ByteArray.mk #[45]).data.toList).toArray⟩ : ByteArray) = d from hd] at C
  have C := Lib.hid C
  have hl : Lib.trimPrefix s.data.toList [45] = d.data.toList := by rw [← hd]
  have hsz : d.size = d.data.toList.length := Lib.size_eq d
  have hds : d.size ≤ 9223372036854775807 := by
    have : d.data.toList.length ≤ s.data.toList.length := by rw [← hl]; unfold Lib.trimPrefix; split <;> simp
    rw [hsz]; rw [Lib.size_eq] at hs; omega
  have R : Hid (isTextL s.data.toList = if d.data.toList = [] then false else if d.data.toList.head? = some 48 then s.toList == [48] else d.data.toList.all digitB) := by
    unfold isTextL Hid; rw [hl, Lib.toList_data]
  have HD := Lib.hid hd
  have HL := Lib.hid hl
  have HSZ := Lib.hid hsz
  clear hd hl hsz
  by_cases he : d.data.toList = []
  · have he' : d.toList.isEmpty = true := by rw [Lib.toList_data, he]; rfl
    rw [if_pos he] at R
    have HE := Lib.hid he
    clear he
    go_enter Tryz.func132, Tryz.ntmps132
    go_wp2_with (go_at_call 178; refine C.out.mono ?_; rintro e w' ⟨rfl, rfl⟩)
    go_ret
    exact ⟨ret_bool R.out.symm, rfl⟩
  · have he' : d.toList.isEmpty = false := by rw [Lib.toList_data]; simpa using he
    have hpos : 0 < d.size := by rw [HSZ.out]; exact List.length_pos_iff.2 he
    have hhd : d.data.toList.head? = some d[0] := by
      rw [List.head?_eq_getElem?]; rw [List.getElem?_eq_getElem (by rw [← HSZ.out]; exact hpos)]; rfl
    rw [if_neg he, hhd] at R
    have HE := Lib.hid he
    have HH := Lib.hid hhd
    clear he hhd
    by_cases h0 : d[0].toNat = 48
    · have h0' : ((d[0].toNat : Int) == 48) = true := by simp [h0]
      have R2 : Hid (isTextL s.data.toList = (s.toList == [48])) := by
        rw [Hid, R.out, if_pos (congrArg some (UInt8.toNat_inj.1 (show d[0].toNat = (48 : UInt8).toNat from h0)))]
      have H0 := Lib.hid h0
      clear R h0
      go_enter Tryz.func132, Tryz.ntmps132
      go_wp2_with (go_at_call 178; refine C.out.mono ?_; rintro e w' ⟨rfl, rfl⟩)
      go_ret
      exact ⟨ret_bool R2.out.symm, rfl⟩
    · have h0' : ((d[0].toNat : Int) == 48) = false := by simp; omega
      have R2 : Hid (isTextL s.data.toList = d.data.toList.all digitB) := by
        rw [Hid, R.out, if_neg (fun e => h0 (by have := Option.some.inj e; rw [this]; rfl))]
      have H0 := Lib.hid h0
      clear R h0
      go_enter Tryz.func132, Tryz.ntmps132
      go_wp2_with (go_at_call 178; refine C.out.mono ?_; rintro e w' ⟨rfl, rfl⟩)
      go_loop [4, 16] (fun _ i => ∃ k : Nat, k ≤ d.size ∧ i = .int .i64 k ∧ (d.data.toList.take k).all digitB = true) (fun _ i => d.size - (intOf i).toNat)
      case atStart => exact ⟨0, Nat.zero_le _, rfl, rfl⟩
      case round =>
        obtain ⟨k, hk, rfl, hall⟩ := hrel
        have HA := Lib.hid hall
        clear hall
        by_cases hlt : k < d.size
        · have hget : d.data.toList[k]? = some d[k] := by
            rw [List.getElem?_eq_getElem (by rw [← HSZ.out]; exact hlt)]; rfl
          have G := Lib.hid hget
          clear hget
          by_cases c1 : d[k].toNat < 48
          · have F : Hid (d.data.toList.all digitB = false) := by
              rw [Hid, List.all_eq_false]
              exact ⟨d[k], List.mem_of_getElem? G.out, by simp [digitB]; omega⟩
            go_wp2
            go_ret
            exact ⟨ret_bool (R2.out.trans F.out).symm, rfl⟩
          · by_cases c2 : 57 < d[k].toNat
            · have F : Hid (d.data.toList.all digitB = false) := by
                rw [Hid, List.all_eq_false]
                exact ⟨d[k], List.mem_of_getElem? G.out, by simp [digitB]; omega⟩
              go_wp2
              go_ret
              exact ⟨ret_bool (R2.out.trans F.out).symm, rfl⟩
            · have F : Hid ((d.data.toList.take (k + 1)).all digitB = true) := by
                rw [Hid, List.take_add_one, List.all_append, HA.out, G.out]; simp [digitB]; omega
              go_wp2
              go_round
              case rel => exact ⟨k + 1, by omega, by go_num, F.out⟩
              case measure => simp [intOf]; omega
        · have F : Hid (d.data.toList.all digitB = true) := by
            have := HA.out; rw [List.take_of_length_le (by rw [← HSZ.out]; omega)] at this; exact this
          go_wp2
          go_ret
          exact ⟨ret_bool (R2.out.trans F.out).symm, rfl⟩

/-- How a text ends that is a number's text: read, or beyond 64 bits. -/
def parseV (l : List UInt8) : Int := if isTextL l = true then (match Lib.parseIntB 64 l with | .ok v => v | _ => 0) else 0
def parseE (l : List UInt8) : Int := if isTextL l = true then (match Lib.parseIntB 64 l with | .ok _ => 0 | _ => 15) else 4

/-- An end of the reading that is no fault of the form. -/
def wellB {α : Type} : Lib.NumEnd α → Bool
  | .ok _ => true
  | .range => true
  | _ => false
theorem digits_well (M : Nat) : ∀ (l : List UInt8) (acc : Nat), l.all digitB = true → wellB (Lib.parseUintM M acc l) = true
  | [], _, _ => by simp [Lib.parseUintM, wellB]
  | c :: r, acc, h => by
    simp only [List.all_cons, Bool.and_eq_true] at h
    have hc : 48 ≤ c.toNat ∧ c.toNat ≤ 57 := by simpa [digitB] using h.1
    unfold Lib.parseUintM
    rw [if_pos hc]
    split
    · simp [wellB]
    · split
      · simp [wellB]
      · exact digits_well M r _ h.2
theorem isText_digits {l : List UInt8} (h : isTextL l = true) : Lib.trimPrefix l [45] ≠ [] ∧ (Lib.trimPrefix l [45]).all digitB = true := by
  unfold isTextL at h
  split at h
  · cases h
  · rename_i hne
    refine ⟨hne, ?_⟩
    split at h
    · have e : l = [48] := by simpa using h
      subst e; decide
    · exact h
theorem trim_minus (r : List UInt8) : Lib.trimPrefix (45 :: r) [45] = r := by simp [Lib.trimPrefix, Lib.hasPrefix, List.isPrefixOf]
theorem trim_other {c : UInt8} (r : List UInt8) (h : c ≠ 45) : Lib.trimPrefix (c :: r) [45] = c :: r := by
  simp [Lib.trimPrefix, Lib.hasPrefix, List.isPrefixOf, Ne.symm h]
theorem parseUintB_well {l : List UInt8} (hne : l ≠ []) (h : l.all digitB = true) : wellB (Lib.parseUintB 64 l) = true := by
  unfold Lib.parseUintB; rw [if_neg hne]; exact digits_well _ l 0 h
theorem isText_well {l : List UInt8} (h : isTextL l = true) : wellB (Lib.parseIntB 64 l) = true := by
  obtain ⟨hne, hd⟩ := isText_digits h
  match l with
  | [] => exact absurd (by decide) hne
  | c :: r =>
    by_cases hc : c = 45
    · subst hc
      rw [trim_minus] at hne hd
      have hs := parseUintB_well hne hd
      simp only [Lib.parseIntB]
      rw [if_pos (Or.inr (by decide))]
      generalize Lib.parseUintB 64 r = u at hs ⊢
      cases u
      all_goals first | (simp [wellB] at hs; done) | (simp [wellB]; done) | (simp only []; split <;> (try split) <;> simp [wellB])
    · rw [trim_other r hc] at hne hd
      have hs := parseUintB_well hne hd
      have hdc : 48 ≤ c.toNat ∧ c.toNat ≤ 57 := by
        simp only [List.all_cons, Bool.and_eq_true] at hd
        simpa [digitB] using hd.1
      simp only [Lib.parseIntB]
      rw [if_neg (by omega)]
      generalize Lib.parseUintB 64 (c :: r) = u at hs ⊢
      cases u
      all_goals first | (simp [wellB] at hs; done) | (simp [wellB]; done) | (simp only []; split <;> (try split) <;> simp [wellB])
theorem well_cases {α : Type} {u : Lib.NumEnd α} (h : wellB u = true) : (∃ v, u = .ok v) ∨ u = .range := by
  cases u
  all_goals first | (simp [wellB] at h; done) | exact Or.inr rfl | exact Or.inl ⟨_, rfl⟩

/-- What a call of this layer asks of the world: the library's table of powers and its sentinel stand as they were laid. -/
def Env (w : World) : Prop := Lib.TabIs Tryz.prog w "internal/strconv.uint64pow10" .u64 Lib.pow10Tab ∧ ∃ a : Addr, w.var? Tryz.prog "strconv.ErrRange" = some #[.iface 238 (.pointer (some a))]
theorem gPow : Tryz.prog.globalNamed "internal/strconv.uint64pow10" = some 5 := by kernel_rfl
theorem gRange : Tryz.prog.globalNamed "strconv.ErrRange" = some 3 := by kernel_rfl
theorem Env.below {w w' : World} (h : Env w) (hb : Below w.heap.size w w') : Env w' := by
  obtain ⟨h1, a, h2⟩ := h
  exact ⟨var?_below hb gPow (lt_of_var gPow h1) h1, a, var?_below hb gRange (lt_of_var gRange h2) h2⟩

/-- num.Text. -/
theorem Text_any (n : Int) (h0 : -9223372036854775808 ≤ n) (h1 : n ≤ 9223372036854775807) (w : World) (hE : Env w) :
    Calls Tryz.prog 197 #[.int .i64 n] w fun e w' => e = .returned (.string ⟨(Lib.itoa n).toArray⟩) ∧ Below w.heap.size w w' := by
  have C := Lib.hid (Tryz.strconv_FormatInt_10 n h0 h1 w hE.1)
  go_enter Tryz.func197, Tryz.ntmps197
  go_wp2_with (go_at_call 238; refine C.out.mono ?_; rintro e w' ⟨rfl, k, os, rfl⟩)
  go_ret
  exact ⟨rfl, Lib.below_grow _ _ (Nat.le_refl _) _ _⟩
/-- num.Parse: a text that is none. -/
theorem Parse_form (s : ByteArray) (w : World) (hs : s.size ≤ 9223372036854775806) (h : isTextL s.data.toList = false) :
    Calls Tryz.prog 82 #[.string s] w fun e w' => e = .returned (.tuple #[.int .i64 0, .int .i64 4]) ∧ w' = w := by
  have C := isText_any s w (by omega)
  rw [h] at C
  have C := Lib.hid C
  clear h
  go_enter Tryz.func82, Tryz.ntmps82
  go_wp2_with (go_at_call 132; refine C.out.mono ?_; rintro e w' ⟨rfl, rfl⟩)
  go_ret2
  exact ⟨rfl, rfl⟩
/-- num.Parse: a number within 64 bits. -/
theorem Parse_ok (s : ByteArray) (v : Int) (w : World) (hs : s.size ≤ 9223372036854775806) (h : isTextL s.data.toList = true) (hv : Lib.parseIntB 64 s.data.toList = .ok v) (hE : Env w) :
    Calls Tryz.prog 82 #[.string s] w fun e w' => e = .returned (.tuple #[.int .i64 v, .int .i64 0]) ∧ Below w.heap.size w w' := by
  have C := isText_any s w (by omega)
  rw [h] at C
  have C := Lib.hid C
  have D := Lib.hid (fun w => Tryz.strconv_ParseInt_10_at64_ok s hs v hv w)
  have E := Lib.hid hE
  clear h hv hE
  go_enter Tryz.func82, Tryz.ntmps82
  go_wp2_with (go_at_call 132; refine C.out.mono ?_; rintro e w' ⟨rfl, hq⟩; obtain rfl := hq.symm)
  refine (D.out _).mono ?_
  rintro e w1 ⟨rfl, hW⟩
  have hb1 : Below w.heap.size w w1 := by
    rcases hW with rfl | ⟨t, rfl⟩
    · exact Below.refl _ _
    · exact Lib.bytesWorld_below _ _ _
  obtain ⟨_, a, hvar⟩ := E.out.below hb1
  have hcell : w1.cell? ⟨3, 0, none⟩ = some (.iface 238 (.pointer (some a))) := by
    have h0 := World.var?_cell gRange hvar 0; simpa using h0
  clear hW hvar
  have I := Lib.hid (fun w => is_nil a w)
  go_wp2_with (go_at_call 34; refine (I.out _).mono ?_; rintro e w' ⟨rfl, hq⟩; obtain rfl := hq.symm)
  go_ret2
  exact ⟨rfl, hb1⟩
/-- num.Parse: a number beyond 64 bits. -/
theorem Parse_over (s : ByteArray) (w : World) (hs : s.size ≤ 281474976710656) (h : isTextL s.data.toList = true) (hv : Lib.parseIntB 64 s.data.toList = .range) (hE : Env w) :
    Calls Tryz.prog 82 #[.string s] w fun e w' => e = .returned (.tuple #[.int .i64 0, .int .i64 15]) ∧ Below w.heap.size w w' := by
  have C := isText_any s w (by omega)
  rw [h] at C
  have C := Lib.hid C
  obtain ⟨a, hvar0⟩ := hE.2
  have D := Lib.hid (Tryz.strconv_ParseInt_10_at64_range_var s hs hv _ _ w hvar0)
  have E := Lib.hid hE
  have V0 := Lib.hid hvar0
  clear h hv hE hvar0
  generalize Lib.intSat 64 s.data.toList = sat at *
  go_enter Tryz.func82, Tryz.ntmps82
  go_wp2_with (go_at_call 132; refine C.out.mono ?_; rintro e w' ⟨rfl, hq⟩; obtain rfl := hq.symm)
  refine D.out.mono ?_
  rintro e w1 ⟨N, rfl, hN, hblk, hb1⟩
  have hvar := var?_below hb1 gRange (lt_of_var gRange V0.out) V0.out
  have hcell : w1.cell? ⟨3, 0, none⟩ = some (.iface 238 (.pointer (some a))) := by
    have h0 := World.var?_cell gRange hvar 0; simpa using h0
  have herr : w1.cell? ⟨N, 0 + 2, none⟩ = some (.iface 238 (.pointer (some a))) := by
    simp [World.cell?, hblk]
  have B := Lib.hid hb1
  have I := Lib.hid (is_num_same N 0 a w1 herr)
  clear hvar hblk herr hN hb1
  go_wp2_with (go_at_call 34; refine I.out.mono ?_; rintro e w' ⟨rfl, hq⟩; obtain rfl := hq.symm)
  go_ret2
  exact ⟨rfl, B.out⟩
theorem parseV_bounds {l : List UInt8} : -9223372036854775808 ≤ parseV l ∧ parseV l ≤ 9223372036854775807 := by
  unfold parseV
  split
  · rename_i ht
    rcases well_cases (isText_well ht) with ⟨v, h⟩ | h
    · have := Lib.parseIntB_bounds (B := 64) h; simp at this; simp only [h]; omega
    · simp [h]
  · simp
/-- num.Parse, at every text. -/
theorem Parse_any (s : ByteArray) (w : World) (hs : s.size ≤ 281474976710656) (hE : Env w) :
    Calls Tryz.prog 82 #[.string s] w fun e w' => e = .returned (.tuple #[.int .i64 (parseV s.data.toList), .int .i64 (parseE s.data.toList)]) ∧ Below w.heap.size w w' := by
  cases h : isTextL s.data.toList with
  | false => exact (Parse_form s w (by omega) h).mono fun e w' g => ⟨g.1.trans (ret_pair (by simp [parseV, h]) (by simp [parseE, h])), by rw [g.2]; exact Below.refl _ _⟩
  | true =>
    rcases well_cases (isText_well h) with ⟨v, hv⟩ | hv
    · exact (Parse_ok s v w (by omega) h hv hE).mono fun e w' g => ⟨g.1.trans (ret_pair (by simp [parseV, h, hv]) (by simp [parseE, h, hv])), g.2⟩
    · exact (Parse_over s w hs h hv hE).mono fun e w' g => ⟨g.1.trans (ret_pair (by simp [parseV, h, hv]) (by simp [parseE, h, hv])), g.2⟩
end Go.Proofs.YtoggkigfijgbfaaGreatDoor
namespace Go.Proofs.YtoggkigfijgbfaaGreatDoor
set_option maxRecDepth 20000
open Go.RowKit

def andN (a b : Nat) : Nat := a &&& b
def xorN (a b : Nat) : Nat := a ^^^ b
def dblN (a : Nat) : Nat := (a * 2) % 18446744073709551616
structure SumRel (s g a b : Nat) : Prop where
  la : a < 18446744073709551616
  lb : b < 18446744073709551616
  le : g ≤ 64
  sum : (a + b) % 18446744073709551616 = s
  dvd : 2 ^ (64 - g) ∣ b
theorem two64N : (2 : Nat) ^ 64 = 18446744073709551616 := by decide
theorem SumRel.start {a b : Nat} (la : a < 18446744073709551616) (lb : b < 18446744073709551616) : SumRel ((a + b) % 18446744073709551616) 64 a b :=
  ⟨la, lb, Nat.le_refl _, rfl, ⟨b, by simp⟩⟩
theorem SumRel.more {s g a b : Nat} (h : SumRel s g a b) (hb : b ≠ 0) : 0 < g := by
  rcases Nat.eq_zero_or_pos g with rfl | hg
  · obtain ⟨c, hc⟩ := h.dvd
    have := h.lb
    rw [Nat.sub_zero, two64N] at hc
    omega
  · exact hg
theorem vec_carry (A B : BitVec 64) : (A ^^^ B) + ((A &&& B) + (A &&& B)) = A + B := by
  have d : (A &&& B) &&& (A ^^^ B) = 0#64 := vec_none A B
  have s := BitVec.add_eq_or_of_and_eq_zero _ _ d
  rw [vec_or] at s
  rw [← vec_sum A B, ← s, BitVec.add_comm (A ^^^ B), BitVec.add_assoc]
theorem carry_sum (a b : Nat) (la : a < 18446744073709551616) (lb : b < 18446744073709551616) : (xorN a b + dblN (andN a b)) % 18446744073709551616 = (a + b) % 18446744073709551616 := by
  have h := congrArg BitVec.toNat (vec_carry (BitVec.ofNat 64 a) (BitVec.ofNat 64 b))
  have ea : (BitVec.ofNat 64 a).toNat = a := by rw [BitVec.toNat_ofNat]; exact Nat.mod_eq_of_lt (by rw [two64N]; exact la)
  have eb : (BitVec.ofNat 64 b).toNat = b := by rw [BitVec.toNat_ofNat]; exact Nat.mod_eq_of_lt (by rw [two64N]; exact lb)
  simp only [BitVec.toNat_add, BitVec.toNat_xor, BitVec.toNat_and, ea, eb, two64N] at h
  unfold xorN dblN andN
  rw [← h, Nat.mul_two]
theorem SumRel.step {s g a b : Nat} (h : SumRel s g a b) (hb : b ≠ 0) : SumRel s (g - 1) (xorN a b) (dblN (andN a b)) := by
  have hg := h.more hb
  have hle := h.le
  refine ⟨?_, Nat.mod_lt _ (by decide), by omega, by rw [carry_sum a b h.la h.lb]; exact h.sum, ?_⟩
  · have := Nat.xor_lt_two_pow (n := 64) (x := a) (y := b) (by rw [two64N]; exact h.la) (by rw [two64N]; exact h.lb)
    rw [two64N] at this; exact this
  · have d1 : 2 ^ (64 - g) ∣ andN a b := by
      apply Nat.dvd_of_mod_eq_zero
      unfold andN
      rw [Nat.and_mod_two_pow, Nat.mod_eq_zero_of_dvd h.dvd, Nat.and_zero]
    have e : 64 - (g - 1) = (64 - g) + 1 := by omega
    rw [e]
    obtain ⟨c, hc⟩ := d1
    unfold dblN
    have d2 : 2 ^ (64 - g + 1) ∣ 18446744073709551616 := ⟨2 ^ (64 - (64 - g + 1)), by rw [← Nat.pow_add, ← two64N]; congr 1; omega⟩
    refine (Nat.dvd_mod_iff d2).2 ⟨c, ?_⟩
    rw [hc, Nat.pow_succ, Nat.mul_right_comm]
/-! ### Products -/
/-! ### Quotients -/
end Go.Proofs.YtoggkigfijgbfaaGreatDoor
namespace Go.Proofs.YtoggkigfijgbfaaGreatDoor
set_option maxRecDepth 20000
open Go.RowKit

end Go.Proofs.YtoggkigfijgbfaaGreatDoor
namespace Go.Proofs.YtoggkigfijgbfaaGreatDoor
set_option maxRecDepth 20000
open Go.RowKit

theorem ret_str {a b : ByteArray} (h : a = b) : Ending.returned (.string a) = .returned (.string b) := by rw [h]

end Go.Proofs.YtoggkigfijgbfaaGreatDoor
namespace Go.Proofs.YtoggkigfijgbfaaGreatDoor
set_option maxRecDepth 20000
open Go.RowKit

/-- What digits spell, behind others that spell acc. -/
def valA (acc : Nat) (l : List UInt8) : Nat := l.foldl (fun a c => a * 10 + (c.toNat - 48)) acc
theorem valA_cons (acc : Nat) (c : UInt8) (r : List UInt8) : valA acc (c :: r) = valA (acc * 10 + (c.toNat - 48)) r := by unfold valA; rw [List.foldl_cons]
theorem valA_append (acc : Nat) (l r : List UInt8) : valA acc (l ++ r) = valA (valA acc l) r := by simp only [valA, List.foldl_append]
theorem digitB_iff {c : UInt8} : digitB c = true ↔ 48 ≤ c.toNat ∧ c.toNat ≤ 57 := by simp [digitB]
theorem parse_none {l : List UInt8} (h : parseE l ≠ 0) : parseV l = 0 ∧ (parseE l = 4 ∨ parseE l = 15) := by
  unfold parseE parseV at *
  by_cases ht : isTextL l = true
  · rw [if_pos ht] at h ⊢
    rw [if_pos ht]
    rcases well_cases (isText_well ht) with ⟨v, hv⟩ | hv
    · rw [hv] at h; simp at h
    · rw [hv]; exact ⟨rfl, Or.inr rfl⟩
  · rw [if_neg ht, if_neg ht]; exact ⟨rfl, Or.inl rfl⟩
end Go.Proofs.YtoggkigfijgbfaaGreatDoor
namespace Go.Proofs.YtoggkigfijgbfaaGreatDoor
set_option maxRecDepth 20000
open Go.RowKit

def ValIs (l : List UInt8) (k : Nat) (v : Int) : Prop := v = ((valA 0 (l.take k) : Nat) : Int)
theorem valA_lt : ∀ (l : List UInt8) (acc : Nat), l.all digitB = true → valA acc l < (acc + 1) * 10 ^ l.length
  | [], acc, _ => by rw [show valA acc [] = acc from rfl]; simp
  | c :: r, acc, ha => by
    simp only [List.all_cons, Bool.and_eq_true] at ha
    have hc := digitB_iff.1 ha.1
    have h := valA_lt r (acc * 10 + (c.toNat - 48)) ha.2
    rw [valA_cons, List.length_cons, Nat.pow_succ]
    have h2 : (acc * 10 + (c.toNat - 48) + 1) * 10 ^ r.length ≤ ((acc + 1) * 10) * 10 ^ r.length := Nat.mul_le_mul_right _ (by omega)
    rw [Nat.mul_comm (10 ^ r.length) 10, ← Nat.mul_assoc]
    omega
theorem ValIs.low {l : List UInt8} {k : Nat} {v : Int} (h : ValIs l k v) (ha : l.all digitB = true) (hk : k ≤ 18) : 0 ≤ v ∧ v < 1000000000000000000 := by
  unfold ValIs at h
  have h1 := valA_lt (l.take k) 0 (List.all_eq_true.2 fun x hx => List.all_eq_true.1 ha x (List.mem_of_mem_take hx))
  have h2 : 10 ^ (l.take k).length ≤ 10 ^ 18 := Nat.pow_le_pow_right (by decide) (by rw [List.length_take]; omega)
  have h3 : 10 ^ 18 = 1000000000000000000 := by decide
  omega
theorem ValIs.start (l : List UInt8) : ValIs l 0 0 := by unfold ValIs; simp [valA]
theorem ValIs.next {l : List UInt8} {k : Nat} {v : Int} {c : UInt8} (h : ValIs l k v) (hc : l[k]? = some c) (hd : 48 ≤ c.toNat) : ValIs l (k + 1) (10 * v + ((c.toNat : Int) - 48)) := by
  unfold ValIs at *
  rw [List.take_add_one, hc, valA_append, Option.toList_some, valA_cons, show ∀ a, valA a [] = a from fun _ => rfl]
  omega
theorem ValIs.all {l : List UInt8} {k : Nat} {v : Int} (h : ValIs l k v) (hk : l.length ≤ k) : v = ((valA 0 l : Nat) : Int) := by
  unfold ValIs at h; rw [List.take_of_length_le hk] at h; exact h
theorem not_true {b : Bool} (h : ¬ b = true) : b = false := by simpa using h
end Go.Proofs.YtoggkigfijgbfaaGreatDoor
