/- NumKnown: the examples of the chapter on numbers: a closed statement; it has no arguments. Conditions: none but the tied package-level variables. -/
import Derived.Test.YtfbhbodimdlldaaDoorCards
import Derived.Test.YtfbhbodimdlldaaDoorTie
import Derived.Test.YtfbhbodimdlldaaDoorNumWorks
import Derived.Test.YtfbhbodimdlldaaDoorSigns
import Derived.Test.YtfbhbodimdlldaaDoorTextMath
import Derived.Test.YtfbhbodimdlldaaDoorNumFrame
import Derived.Deep.QuietTactic
import Derived.BigQuiet
import Derived.Deep.LoopGhost
import Derived.Deep.CutRange
namespace Go.Proofs.YtfbhbodimdlldaaDoor.numKnown
open Go.ChangeShapes Go.WideShapes Go.ChangeAt Go.RowKit

/-- The examples' rows: an operation, two numbers, the answer. -/
def rowsT : List (List Int) := [[3, 7, 2, 3], [3, -7, 2, -4], [3, 7, -2, -4], [3, -7, -2, 3], [3, -9223372036854775808, -1, -9223372036854775808], [3, 6, -3, -2], [3, -9223372036854775808, 1, -9223372036854775808], [3, 9223372036854775807, -9223372036854775808, -1], [4, 7, 3, 1], [4, -7, 3, 2], [4, 7, -3, -2], [4, -7, -3, -1], [4, 5, -1, 0], [4, -9223372036854775808, -1, 0], [8, 1, 63, -9223372036854775808], [8, 1, 64, 0], [8, -1, -1, 9223372036854775807], [9, -1, 60, 15], [9, 1, -3, 8], [9, 5, -9223372036854775808, 0], [8, 5, -9223372036854775808, 0], [8, 5, 9223372036854775807, 0], [9, 5, 0, 5], [9, -9223372036854775808, 63, 1], [2, 4611686018427387904, 4, 0], [2, -9223372036854775808, -1, -9223372036854775808], [5, 12, 10, 8], [6, 12, 10, 14], [7, 12, 10, 6], [0, 9223372036854775807, 1, -9223372036854775808], [1, -9223372036854775808, 1, 9223372036854775807]]
def flatT : List Int := rowsT.flatten
def cellT (i : Nat) : Int := flatT.getD i 0
def Table (b : Nat) (w : World) : Prop := b < w.heap.size ∧ ∀ i, i < 124 → w.cell? ⟨b, i, none⟩ = some (.int .i64 (cellT i))
theorem new_cells (w : World) (arr : Array Value) (T : TypeId) (l : List Value) (h : arr = l.toArray) (i : Nat) : (w.alloc (.cells arr T)).cell? ⟨w.heap.size, i, none⟩ = l[i]? := by
  subst h; simp [go_sem]
theorem table_of (w : World) (arr : Array Value) (T : TypeId) (h : arr = (flatT.map (Value.int .i64)).toArray) : Table w.heap.size (w.alloc (.cells arr T)) := by
  refine ⟨by simp, fun i hi => ?_⟩
  rw [new_cells w arr T _ h i, List.getElem?_map]
  have hl : i < flatT.length := by have : flatT.length = 124 := by decide +kernel
                                   omega
  unfold cellT
  rw [List.getElem?_eq_getElem hl, List.getD_eq_getElem?_getD, List.getElem?_eq_getElem hl]; rfl
theorem Table.below {b : Nat} {w w' : World} (h : Table b w) (hb : Below w.heap.size w w') : Table b w' :=
  ⟨Nat.lt_of_lt_of_le h.1 hb.size, fun i hi => (hb.cell (p := ⟨b, i, none⟩) h.1).trans (h.2 i hi)⟩
theorem rows_all : (List.range 31).all (fun k => decide (doF (cellT (k * 4)) (cellT (k * 4 + 1)) (cellT (k * 4 + 2)) = cellT (k * 4 + 3) ∧ -9223372036854775808 ≤ cellT (k * 4 + 2) ∧ cellT (k * 4 + 2) ≤ 9223372036854775807)) = true := by decide +kernel
theorem row_ok (k : Nat) (hk : k < 31) : doF (cellT (k * 4)) (cellT (k * 4 + 1)) (cellT (k * 4 + 2)) = cellT (k * 4 + 3) ∧ -9223372036854775808 ≤ cellT (k * 4 + 2) ∧ cellT (k * 4 + 2) ≤ 9223372036854775807 :=
  of_decide_eq_true (List.all_eq_true.1 rows_all k (List.mem_range.2 hk))
/-- The texts that are none, or beyond 64 bits. -/
def textsT : List (List UInt8) := [[48, 49], [45, 48], [], [45], [43, 49], [48, 48, 48, 48, 48, 48, 48, 48, 48, 48, 48, 48, 48, 48, 48, 48, 48, 48, 48, 48, 48, 48, 48], [49, 32], [32, 49], [45, 45, 49], [49, 97], [57, 50, 50, 51, 51, 55, 50, 48, 51, 54, 56, 53, 52, 55, 55, 53, 56, 48, 56], [45, 57, 50, 50, 51, 51, 55, 50, 48, 51, 54, 56, 53, 52, 55, 55, 53, 56, 48, 57], [57, 57, 57, 57, 57, 57, 57, 57, 57, 57, 57, 57, 57, 57, 57, 57, 57, 57, 57, 57, 57, 57, 57, 57, 57, 57]]
def textL (k : Nat) : List UInt8 := textsT.getD k []
def textB (k : Nat) : ByteArray := ⟨(textL k).toArray⟩
def Texts (b : Nat) (w : World) : Prop := b < w.heap.size ∧ ∀ i, i < 13 → w.cell? ⟨b, i, none⟩ = some (.string (textB i))
theorem texts_of (w : World) (arr : Array Value) (T : TypeId) (h : arr = (textsT.map fun l => Value.string ⟨l.toArray⟩).toArray) : Texts w.heap.size (w.alloc (.cells arr T)) := by
  refine ⟨by simp, fun i hi => ?_⟩
  rw [new_cells w arr T _ h i, List.getElem?_map]
  have hl : i < textsT.length := by have : textsT.length = 13 := by decide +kernel
                                    omega
  unfold textB textL
  rw [List.getElem?_eq_getElem hl, List.getD_eq_getElem?_getD, List.getElem?_eq_getElem hl]; rfl
theorem Texts.below {b : Nat} {w w' : World} (h : Texts b w) (hb : Below w.heap.size w w') : Texts b w' :=
  ⟨Nat.lt_of_lt_of_le h.1 hb.size, fun i hi => (hb.cell (p := ⟨b, i, none⟩) h.1).trans (h.2 i hi)⟩
theorem texts_all : (List.range 13).all (fun k => decide (parseV (textL k) = 0 ∧ parseE (textL k) = (if k ≤ 9 then 4 else 15) ∧ (textL k).length ≤ 100)) = true := by decide +kernel
theorem text_ok (k : Nat) (hk : k < 13) (w : World) (hE : Env w) :
    Calls Tryd.prog 18 #[.string (textB k)] w fun e w' => e = .returned (.tuple #[.int .i64 0, .int .i64 (if k ≤ 9 then 4 else 15)]) ∧ Below w.heap.size w w' := by
  have h := of_decide_eq_true (List.all_eq_true.1 texts_all k (List.mem_range.2 hk))
  have p := Parse_any (textB k) w (by unfold textB; simp only [ByteArray.size, List.size_toArray]; omega) hE
  rw [show (textB k).data.toList = textL k from rfl, h.1, h.2.1] at p
  exact p
/-- The signs, one behind the other. -/
def accB : Nat → ByteArray
  | 0 => ⟨#[]⟩
  | k + 1 => accB k ++ signB ((k : Int) - 1) ++ ⟨#[32]⟩
theorem acc_all : (List.range 13).all (fun k => decide ((accB k).data.size ≤ 1000 ∧ (signB ((k : Int) - 1)).data.size ≤ 1000)) = true := by decide +kernel
theorem acc_ok (k : Nat) (hk : k < 13) : ((accB k).size : Int) ≤ 1000 ∧ ((signB ((k : Int) - 1)).size : Int) ≤ 1000 := by
  have h := of_decide_eq_true (List.all_eq_true.1 acc_all k (List.mem_range.2 hk))
  have e1 : (accB k).size = (accB k).data.size := rfl
  have e2 : (signB ((k : Int) - 1)).size = (signB ((k : Int) - 1)).data.size := rfl
  omega
theorem acc_end : accB 12 = ⟨#[32, 43, 32, 45, 32, 42, 32, 47, 47, 32, 37, 32, 38, 32, 124, 32, 126, 32, 60, 60, 32, 62, 62, 32, 32]⟩ := by decide +kernel
theorem lit1 : parseV (ByteArray.mk #[45, 57, 50, 50, 51, 51, 55, 50, 48, 51, 54, 56, 53, 52, 55, 55, 53, 56, 48, 56]).data.toList = -9223372036854775808 ∧ parseE (ByteArray.mk #[45, 57, 50, 50, 51, 51, 55, 50, 48, 51, 54, 56, 53, 52, 55, 55, 53, 56, 48, 56]).data.toList = 0 := by decide +kernel
theorem lit2 : parseV (ByteArray.mk #[57, 50, 50, 51, 51, 55, 50, 48, 51, 54, 56, 53, 52, 55, 55, 53, 56, 48, 55]).data.toList = 9223372036854775807 ∧ parseE (ByteArray.mk #[57, 50, 50, 51, 51, 55, 50, 48, 51, 54, 56, 53, 52, 55, 55, 53, 56, 48, 55]).data.toList = 0 := by decide +kernel
theorem lit3 : parseV (ByteArray.mk #[48]).data.toList = 0 ∧ parseE (ByteArray.mk #[48]).data.toList = 0 := by decide +kernel
theorem sgn1 : opI ⟨#[126]⟩ = 7 := by decide +kernel
theorem sgn2 : opI ⟨#[47]⟩ = -1 := by decide +kernel
theorem sgn3 : opI ⟨#[]⟩ = -1 := by decide +kernel
theorem itoa1 : (ByteArray.mk (Lib.itoa (-9223372036854775808)).toArray) = ⟨#[45, 57, 50, 50, 51, 51, 55, 50, 48, 51, 54, 56, 53, 52, 55, 55, 53, 56, 48, 56]⟩ := by
  have h := itoa_parse lit1.2
  rw [lit1.1] at h
  rw [h]
theorem itoa2 : (ByteArray.mk (Lib.itoa 0).toArray) = ⟨#[48]⟩ := by
  have h := itoa_parse lit3.2
  rw [lit3.1] at h
  rw [h]
set_option maxHeartbeats 4000000 in
set_option maxRecDepth 100000 in
theorem walk (w : World) (hE : Env w) (hS : SignsEnv w) :
    Calls Tryd.prog 12 #[] w fun e w' => e = .returned (.bool true) ∧ Below w.heap.size w w' := by
  have E := Lib.hid hE
  have S := Lib.hid hS
  clear hE hS
  go_enter Tryd.func12, Tryd.ntmps12
  go_upto_region 1 with (fail)
  go_cut [1] from 22 (fun v wc => v = .slice (some ⟨w.heap.size, 0, none⟩) 31 31 ∧ Table w.heap.size wc ∧ Below w.heap.size w wc)
  case first =>
    go_wp2_with fail
    go_meet
    case rel =>
      exact ⟨rfl, table_of _ _ _ (by rfl), (Below.refl _ _).alloc (Nat.le_refl _) _⟩
  case rest =>
    obtain ⟨rfl, hT, hb⟩ := hcut
    have T := Lib.hid hT
    have B := Lib.hid hb
    clear hT hb
    go_upto_region 7 with (fail)
    go_loopw [2] (fun i wr => ∃ k : Nat, k ≤ 31 ∧ i = .int .i64 k ∧ Hid (Table w.heap.size wr) ∧ Hid (Below w.heap.size w wr)) (fun i _ => 31 - (intOf i).toNat)
    case atStart => exact ⟨0, by omega, rfl, T, B⟩
    case round =>
      obtain ⟨k, hk, rfl, HT, HB⟩ := hrel
      by_cases hlt : k < 31
      · have hr := row_ok k hlt
        have c0 := HT.out.2 (k * 4) (by omega)
        have c1 := HT.out.2 (k * 4 + 1) (by omega)
        have c2 := HT.out.2 (k * 4 + 2) (by omega)
        have c3 := HT.out.2 (k * 4 + 3) (by omega)
        generalize cellT (k * 4) = r0 at hr c0
        generalize cellT (k * 4 + 1) = r1 at hr c1
        generalize cellT (k * 4 + 2) = r2 at hr c2
        generalize cellT (k * 4 + 3) = r3 at hr c3
        obtain ⟨hr, hr0, hr1⟩ := hr
        have ht : (doF r0 r1 r2 != r3) = false := neq_false hr
        have k0 : (0 : Int) ≤ (k : Int) := by omega
        have k1 : (k : Int) < (31 : Int) := by omega
        clear hr
        have D := Lib.hid (fun w => do_any r0 r1 r2 w hr0 hr1)
        go_upto_region 5 with (fail)
        go_quiet ((go_at_call 24; exact Calls.quiet_of_same (D.out _)))
        go_wp2_with fail
        go_roundw
        case rel => exact ⟨k + 1, by omega, by go_num, HT.out.below (below_drewN (Below.refl _ _) nq), below_drewN HB.out nq⟩
        case measure => simp [intOf]; omega
      · have hge : (31 : Int) ≤ (k : Int) := by omega
        obtain ⟨w1, hw1⟩ : ∃ w1 : World, w1 = wr := ⟨_, rfl⟩
        subst hw1
        have E1 := Lib.hid (E.out.below HB.out)
        have S1 := Lib.hid (S.out.below HB.out)
        clear HT T B
        go_upto_region 7 with (fail)
        go_cut [82, 83, 84] from 82 to 84 (fun a b c wc => a = .slice (some ⟨w1.heap.size, 0, none⟩) 13 13 ∧ b = .int .i64 13 ∧ c = .int .i64 0 ∧ Texts w1.heap.size wc ∧ Below w1.heap.size w1 wc)
        case first =>
          go_wp2_with fail
          go_meet
          case rel => exact ⟨rfl, rfl, rfl, texts_of _ _ _ (by rfl), (Below.refl _ _).alloc (Nat.le_refl _) _⟩
        case rest =>
          obtain ⟨rfl, rfl, rfl, hX, hb⟩ := hcut
          have X := Lib.hid hX
          have E2 := Lib.hid (E1.out.below hb)
          have S2 := Lib.hid (S1.out.below hb)
          have B2 := Lib.hid (HB.out.trans (hb.mono HB.out.size))
          clear hX hb
          go_wp2_with fail
          go_loopw [84] (fun i wr => ∃ k : Nat, k ≤ 13 ∧ i = .int .i64 k ∧ Hid (Texts w1.heap.size wr) ∧ Hid (Env wr) ∧ Hid (SignsEnv wr) ∧ Hid (Below w.heap.size w wr)) (fun i _ => 13 - (intOf i).toNat)
          case atStart => exact ⟨0, by omega, rfl, X, E2, S2, B2⟩
          case round =>
            obtain ⟨k, hk, rfl, HX, HE, HS, HB2⟩ := hrel
            by_cases hlt : k < 13
            · have c0 := HX.out.2 k hlt
              have P := text_ok k hlt wr HE.out
              generalize textB k = t at c0 P
              have k0 : (0 : Int) ≤ (k : Int) := by omega
              have k1 : (k : Int) < (13 : Int) := by omega
              by_cases h9 : k ≤ 9
              · rw [if_pos h9] at P
                have P := Lib.hid P
                go_wp2_with (go_at_call 18; refine P.out.mono ?_; rintro e w3 ⟨rfl, hb3⟩)
                go_roundw
                case rel => exact ⟨k + 1, by omega, by go_num, HX.out.below hb3, HE.out.below hb3, HS.out.below hb3, HB2.out.trans (hb3.mono HB2.out.size)⟩
                case measure => simp [intOf]; omega
              · rw [if_neg h9] at P
                have P := Lib.hid P
                go_wp2_with (go_at_call 18; refine P.out.mono ?_; rintro e w3 ⟨rfl, hb3⟩)
                go_roundw
                case rel => exact ⟨k + 1, by omega, by go_num, HX.out.below hb3, HE.out.below hb3, HS.out.below hb3, HB2.out.trans (hb3.mono HB2.out.size)⟩
                case measure => simp [intOf]; omega
            · have hge2 : (13 : Int) ≤ (k : Int) := by omega
              have k0 : (0 : Int) ≤ (k : Int) := by omega
              have P1 := fun w h => Parse_any ⟨#[45, 57, 50, 50, 51, 51, 55, 50, 48, 51, 54, 56, 53, 52, 55, 55, 53, 56, 48, 56]⟩ w (by decide) h
              have P2 := fun w h => Parse_any ⟨#[57, 50, 50, 51, 51, 55, 50, 48, 51, 54, 56, 53, 52, 55, 55, 53, 56, 48, 55]⟩ w (by decide) h
              have P3 := fun w h => Parse_any ⟨#[48]⟩ w (by decide) h
              rw [lit1.1, lit1.2] at P1
              rw [lit2.1, lit2.2] at P2
              rw [lit3.1, lit3.2] at P3
              have P1 := Lib.hid P1
              have P2 := Lib.hid P2
              have P3 := Lib.hid P3
              have D1 := Lib.hid (fun w => Do_bad 10 1 1 w (by omega))
              have D2 := Lib.hid (fun w => Do_bad (-1) 1 0 w (by omega))
              have D3 := Lib.hid (fun w => Do_zero 4 1 w (by omega))
              go_wp2_with fail
              refine (P1.out _ HE.out).mono ?_
              rintro e w3 ⟨rfl, b3⟩
              have E3 := Lib.hid (HE.out.below b3)
              have S3 := Lib.hid (HS.out.below b3)
              have B3 := Lib.hid (HB2.out.trans (b3.mono HB2.out.size))
              clear b3 HX
              go_wp2_with fail
              refine (P2.out _ E3.out).mono ?_
              rintro e w4 ⟨rfl, b4⟩
              have E4 := Lib.hid (E3.out.below b4)
              have S4 := Lib.hid (S3.out.below b4)
              have B4 := Lib.hid (B3.out.trans (b4.mono B3.out.size))
              clear b4
              go_wp2_with fail
              refine (P3.out _ E4.out).mono ?_
              rintro e w5 ⟨rfl, b5⟩
              have E5 := Lib.hid (E4.out.below b5)
              have S5 := Lib.hid (S4.out.below b5)
              have B5 := Lib.hid (B4.out.trans (b5.mono B4.out.size))
              clear b5
              go_wp2_with (go_at_call 13; (first | (with_reducible refine (D1.out _).mono ?_) | (with_reducible refine (D2.out _).mono ?_) | (with_reducible refine (D3.out _).mono ?_)); rintro e w' ⟨rfl, hq⟩; obtain rfl := hq.symm)
              go_loop [20, 21] (fun a i => ∃ k : Nat, k ≤ 12 ∧ i = .int .i64 ((k : Int) - 1) ∧ a = .string (accB k)) (fun _ i => (11 - intOf i).toNat)
              case atStart => exact ⟨0, by omega, rfl, rfl⟩
              case round =>
                obtain ⟨j, hj, rfl, rfl⟩ := hrel
                by_cases hj2 : j < 12
                · have hb := acc_ok j (by omega)
                  have N := Lib.hid (Sign_any ((j : Int) - 1))
                  have A : Hid (accB (j + 1) = accB j ++ signB ((j : Int) - 1) ++ ⟨#[32]⟩) := rfl
                  generalize accB j = x at hb A
                  generalize signB ((j : Int) - 1) = y at hb A N
                  have z1 : (x.size : Int) ≤ 8388608 := by omega
                  have z2 : (y.size : Int) ≤ 8388608 := by omega
                  have z3 : ((x ++ y).size : Int) ≤ 8388608 := by rw [ByteArray.size_append]; omega
                  have z4 : ((ByteArray.mk #[32]).size : Int) ≤ 8388608 := by decide
                  clear hb
                  go_wp2_with (go_at_call 20; refine (N.out _ S5.out).mono ?_; rintro e w' ⟨rfl, hq⟩; obtain rfl := hq.symm)
                  go_round
                  case rel => exact ⟨j + 1, by omega, by go_num, by rw [A.out]⟩
                  case measure => simp [intOf]; omega
                · have hge3 : (12 : Int) ≤ (j : Int) := by omega
                  have ha : ((accB j).toList == [32, 43, 32, 45, 32, 42, 32, 47, 47, 32, 37, 32, 38, 32, 124, 32, 126, 32, 60, 60, 32, 62, 62, 32, 32]) = true := by
                    rw [show j = 12 by omega, acc_end, Lib.toList_data]; rfl
                  have O1 := fun w h => Op_any ⟨#[126]⟩ w h
                  have O2 := fun w h => Op_any ⟨#[47]⟩ w h
                  have O3 := fun w h => Op_any ⟨#[]⟩ w h
                  rw [sgn1] at O1
                  rw [sgn2] at O2
                  rw [sgn3] at O3
                  have O1 := Lib.hid O1
                  have O2 := Lib.hid O2
                  have O3 := Lib.hid O3
                  have T1 := fun w h => Text_any (-9223372036854775808) (by omega) (by omega) w h
                  have T2 := fun w h => Text_any 0 (by omega) (by omega) w h
                  rw [itoa1] at T1
                  rw [itoa2] at T2
                  have T1 := Lib.hid T1
                  have T2 := Lib.hid T2
                  generalize accB j = x at ha
                  go_wp2_with (go_at_call 22; (first | (with_reducible refine (O1.out _ S5.out).mono ?_) | (with_reducible refine (O2.out _ S5.out).mono ?_) | (with_reducible refine (O3.out _ S5.out).mono ?_)); rintro e w' ⟨rfl, hq⟩; obtain rfl := hq.symm)
                  refine (T1.out _ E5.out).mono ?_
                  rintro e w6 ⟨rfl, b6⟩
                  have E6 := Lib.hid (E5.out.below b6)
                  have B6 := Lib.hid (B5.out.trans (b6.mono B5.out.size))
                  clear b6
                  go_wp2_with fail
                  refine (T2.out _ E6.out).mono ?_
                  rintro e w7 ⟨rfl, b7⟩
                  have E7 := Lib.hid (E6.out.below b7)
                  have B7 := Lib.hid (B6.out.trans (b7.mono B6.out.size))
                  clear b7
                  have WK := Lib.hid (works_true w7 E7.out)
                  go_wp2_with (go_at_call 15; refine WK.out.mono ?_; rintro e w8 ⟨rfl, b8⟩)
                  go_ret
                  exact ⟨rfl, B7.out.trans (b8.mono B7.out.size)⟩
set_option maxRecDepth 100000 in
theorem contract (H : Type) (enc : TypeId × Value → H) (W : World) (base : Nat) (args : Array Value) (ds gs : List (DataW H)) (before : List MemPlace)
    (hval : ∀ (j : Nat) t v, Tryd.f12.params[j]? = some t → args[j]? = some v → Value.okWide Tryd.prog W .any base t v)
    (hW : DataW.Whole enc Tryd.prog Tryd.f12.params.toList Rows.numKnownSpec.vars false W args.toList ds gs before)
    (hsz0 : (DataW.weightsEach Tryd.prog (Tryd.f12.params.toList ++ (OpenSpec.ofChange Rows.numKnownSpec).bare.plain.varTypes Tryd.prog) (ds ++ gs)).all (· ≤ reachBytes) = true) (hL : laidMetH Tryd.prog Rows.numKnownRow.laid W) :
    Calls Tryd.prog 12 args W fun e W' => ∃ v, e = .returned v ∧ Rows.numKnownSpec.post enc Tryd.prog Tryd.f12 false true false false W args v W' := by
  have hW' := hW
  obtain ⟨p, q, hA0, hV, rfl, hfz, hnd⟩ := hW
  have hA : DataW.TrodAll enc Tryd.prog W 0 (fun _ => true) true Tryd.f12.params.toList args.toList ds p := hA0
  have hsz := hsz0
  rw [Tryd.params12] at hA hval hsz
  obtain ⟨hargs, rfl, rfl⟩ := trodAll_nil hA
  obtain rfl : args = #[] := by cases args; simp_all
  obtain ⟨rfl, rfl⟩ := trodVars_none hV
  clear hA0 hsz hsz0
  simp only [List.append_nil] at hW'
  refine (walk  W (env_of_laid hL) (signs_of_laid (laidMet.tail (laidMet.tail (laidMet.tail (laidMet.tail (laidMet.tail hL))))))).mono fun e W' ⟨he, hb⟩ => ?_
  subst he
  refine ⟨_, rfl, _, _, _, [], [], [], hW', ?_, ?_, rfl, hb.frame _, fun h => by cases h⟩
  · exact trodAll_cons_mk (shut_bool Tryd.underlying4 _) trodAll_mk0
  · exact trodAll_mk0

theorem laid_met (os : Os) : laidMet Tryd.prog Rows.numKnownRow.laid ((laidWorld os).forCall (fun _ _ => 0) ⟨#[], #[], []⟩).memory :=
  laidMet_of_run' 8 (by kernel_rfl) (by kernel_rfl)
theorem reads (os : Os) {H : Type} (enc : TypeId × Value → H) : ∃ places, DataW.whole enc Tryd.prog ((laidWorld os).forCall (fun _ _ => 0) ⟨#[], #[], []⟩).memory Tryd.f12.params.toList Rows.numKnownSpec.vars false #[].toList 8 = some ([], [], places) :=
  ⟨[], by kernel_rfl⟩

set_option maxRecDepth 100000 in
theorem lifted (os : Os) (started : os.Started) (H : Type) (enc : TypeId × Value → H) (F : Stop.Interp) :
    ReturnsInHanded {} Tryd.checked os 12 .any ((OpenSpec.ofChange Rows.numKnownSpec).preRow enc Tryd.prog Tryd.f12 Rows.numKnownRow.domain false Rows.numKnownRow.laid) (((OpenSpec.ofChange Rows.numKnownSpec).at F).post enc Tryd.prog Tryd.f12 false true false false) := by
  obtain ⟨places, hx⟩ := reads os enc
  refine returnsInHanded_of_row (C := Tryd.checked) (s := OpenSpec.ofChange Rows.numKnownSpec) own started (by kernel_rfl) Tryd.func12
    (witness_row_atRef (enc := enc) (C := Tryd.checked) false (laidWorld os) #[] rfl (by kernel_rfl) (by kernel_rfl) (by kernel_rfl)
      (OpenSpec.preRow_of_cond 8 hx (by kernel_rfl) (fun k hk => by cases hk) (by kernel_rfl) (laid_met os))) ?_
  intro W base args ds gs before hval hW _ _ hsz hL _ _
  exact contract H enc W base args ds gs before hval hW hsz hL

theorem said : Rows.NumKnownSaid :=
  OpenClaim.holds_of_cond 12 Tryd.f12 rfl rfl rfl rfl rfl rfl rfl ⟨rfl, rfl, rfl, rfl, rfl⟩ rfl rfl rfl rfl rfl (by kernel_rfl) Tryd.func12 (by kernel_rfl)
    (of_decide_eq_true (by kernel_rfl)) (by unfold Func.isWrapper; first | (rw [if_pos (by decide +kernel)]; kernel_rfl) | (rw [if_neg (by decide +kernel)]; exact ⟨rfl, rfl⟩))
    (fun os started H enc _ F => by rw [OpenClaim.pre_eq_preRow]; exact lifted os started H enc F)

/-- No parameter wants a stand-in; the program's own looks are off: what the card asks. -/
theorem plain (f : FuncId) (fn : Func) (hf : Tryd.pinned.checked.prog.funcNamed "tallow/tallowlaw01.NumKnown" = some f) (hfn : Tryd.pinned.checked.prog.funcs[f]? = some fn) :
    true = Tryd.pinned.checked.prog.looks [] ∧ ∀ (j : Nat) t, fn.params[j]? = some t → Tryd.pinned.checked.prog.wantsStandIn t = false := by
  obtain rfl : f = 12 := Option.some.inj ((show Tryd.prog.funcNamed "tallow/tallowlaw01.NumKnown" = some 12 by kernel_rfl).symm.trans hf) |>.symm
  obtain rfl : fn = Tryd.f12 := (Option.some.inj (Tryd.func12.symm.trans hfn)).symm
  refine ⟨by kernel_rfl, fun j t ht => ?_⟩
  rw [Tryd.params12] at ht
  simp at ht

/-- THE CARD. -/
theorem card : Rows.NumKnownCardSaid :=
  Claim7.holds_tied_plain_at .later [] _ _ _ _ said (fun _ h => by cases h) (by kernel_rfl) (fun _ h => by cases h) numKnown_row_tie rfl ⟨rfl, rfl⟩ (by kernel_rfl) rfl plain (by kernel_rfl)
end Go.Proofs.YtfbhbodimdlldaaDoor.numKnown
