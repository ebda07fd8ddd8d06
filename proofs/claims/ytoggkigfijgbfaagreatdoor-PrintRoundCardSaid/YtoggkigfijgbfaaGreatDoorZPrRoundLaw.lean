/- PrintRound: parentheses around what stands behind 'a =' change nothing of what is written of any text of an expression (a thousand bytes at most); the argument reads as it did. Conditions: none but the form's own reach; the listed variables as the program's text lays them. -/
import Derived.Test.YtoggkigfijgbfaaGreatDoorZPrFrame
import Derived.Test.YtoggkigfijgbfaaGreatDoorZL
import Derived.Test.YtoggkigfijgbfaaGreatDoorZJ
import Derived.Test.YtoggkigfijgbfaaGreatDoorTie
import Derived.Test.YtoggkigfijgbfaaGreatDoorCards
namespace Go.Proofs.YtoggkigfijgbfaaGreatDoor.printRound
set_option maxRecDepth 20000
open Go.ChangeShapes Go.WideShapes Go.ChangeAt Go.RowKit Go.Proofs.YtoggkigfijgbfaaGreatDoor.P5 Go.Proofs.YtoggkigfijgbfaaGreatDoor.P6

theorem cut_size (s : ByteArray) (m : Nat) : (s.extract 0 (min (s.size : Int) (m : Int)).toNat).size ≤ m := by
  rw [← size_toList, Lib.extract_data, List.length_take]; omega
theorem bytes3 (a c : List UInt8) (b : ByteArray) : ((⟨a.toArray⟩ : ByteArray) ++ b ++ ⟨c.toArray⟩).data.toList = a ++ b.data.toList ++ c := by
  rw [Joins.data_append, Joins.data_append]
theorem print_same {x y : Tree} (h1 : textF x = textF y) (h2 : ∀ z, eqT z x = eqT z y) : printR x = printR y := by
  unfold printR
  rw [h1]
  simp only [h2]
theorem parse6 {w : World} (hE : Env4 w) (s : ByteArray) : Calls Tryz.prog 11 #[.string s] w (P5.GivesP (P6.readF s.data.toList) w) :=
  P5.Parse_all 1100000 (by omega) s w hE (by simpa [P6.readF] using (read_ends s.data.toList).1)
set_option maxHeartbeats 16000000 in
theorem walk_cut (s : ByteArray) (_u0 : s.size ≤ 281474976710656) (t : ByteArray) (ht : s.extract 0 (min (s.size : Int) 1000).toNat = t) (hts : t.size ≤ 1000) (w : World) (hE : Env4 w) :
    Calls Tryz.prog 8 #[.string s] w fun e w' => e = .returned (.bool true) ∧ Below w.heap.size w w' := by
  have HE := Lib.hid hE
  have WK := Lib.hid (works_true6 hE)
  have B := Lib.hid (Below.refl w.heap.size w)
  have n1 : ¬ 9223372036854775807 < 4 + t.size := by omega
  have n2 : ¬ 9223372036854775807 < 4 + t.size + 7 := by omega
  have n3 : ¬ 9223372036854775807 < 5 + t.size := by omega
  have n4 : ¬ 9223372036854775807 < 5 + t.size + 9 := by omega
  have eA : ((⟨#[97, 32, 61, 32]⟩ : ByteArray) ++ t ++ ⟨#[10, 114, 101, 116, 117, 114, 110]⟩).data.toList = srcA t.data.toList := (bytes3 [97, 32, 61, 32] [10, 114, 101, 116, 117, 114, 110] t).trans (by simp [srcA, retW])
  have eB : ((⟨#[97, 32, 61, 32, 40]⟩ : ByteArray) ++ t ++ ⟨#[10, 41, 10, 114, 101, 116, 117, 114, 110]⟩).data.toList = srcB t.data.toList := (bytes3 [97, 32, 61, 32, 40] [10, 41, 10, 114, 101, 116, 117, 114, 110] t).trans (by simp [srcB, retW])
  have PA := fun (w1 : World) (hb : Below w.heap.size w w1) => parse6 (HE.out.below hb) ((⟨#[97, 32, 61, 32]⟩ : ByteArray) ++ t ++ ⟨#[10, 114, 101, 116, 117, 114, 110]⟩)
  have PB := fun (w1 : World) (hb : Below w.heap.size w w1) => parse6 (HE.out.below hb) ((⟨#[97, 32, 61, 32, 40]⟩ : ByteArray) ++ t ++ ⟨#[10, 41, 10, 114, 101, 116, 117, 114, 110]⟩)
  simp only [eA] at PA
  simp only [eB] at PB
  have RA := read_ends (srcA t.data.toList)
  have RB := read_ends (srcB t.data.toList)
  have RO := fun {x y : Tree} {ts us : List Tok} => round_all t.data.toList (by rw [size_toList]; exact hts) (x := x) (y := y) (ts := ts) (us := us)
  clear eA eB hE hts
  generalize P6.readF (srcA t.data.toList) = ra at PA RA RO
  generalize P6.readF (srcB t.data.toList) = rb at PB RB RO
  cases ra with
  | out => exact absurd rfl RA.1
  | bad c l =>
    clear RO RA
    cases rb with
    | out => exact absurd rfl RB.1
    | bad c2 l2 =>
      clear RB
      replace PA := Lib.hid PA
      replace PB := Lib.hid PB
      go_enter Tryz.func8, Tryz.ntmps8
      go_wp2_with (first
        | (go_at_call 19; (with_reducible refine WK.out.mono ?_); rintro e w1 ⟨rfl, hb1⟩; replace B := Lib.hid hb1; clear hb1)
        | (go_at_call 11; (with_reducible refine (PA.out _ B.out).mono ?_); rintro e w2 ⟨hb2, bb, rfl, _, _⟩; replace B := Lib.hid (B.out.trans (hb2.mono B.out.size)); clear hb2)
        | (go_at_call 11; (with_reducible refine (PB.out _ B.out).mono ?_); rintro e w2 ⟨hb2, bb, rfl, _, _⟩; replace B := Lib.hid (B.out.trans (hb2.mono B.out.size)); clear hb2))
      go_ret
      exact ⟨rfl, B.out⟩
    | ok y us =>
      clear RB
      replace PA := Lib.hid PA
      replace PB := Lib.hid PB
      go_enter Tryz.func8, Tryz.ntmps8
      go_wp2_with (first
        | (go_at_call 19; (with_reducible refine WK.out.mono ?_); rintro e w1 ⟨rfl, hb1⟩; replace B := Lib.hid hb1; clear hb1)
        | (go_at_call 11; (with_reducible refine (PA.out _ B.out).mono ?_); rintro e w2 ⟨hb2, bb, rfl, _, _⟩; replace B := Lib.hid (B.out.trans (hb2.mono B.out.size)); clear hb2)
        | (go_at_call 11; (with_reducible refine (PB.out _ B.out).mono ?_); rintro e w2 ⟨hb2, vr, rfl, hv⟩; replace B := Lib.hid (B.out.trans (hb2.mono B.out.size)); clear hb2 hv))
      go_ret
      exact ⟨rfl, B.out⟩
  | ok x ts =>
    cases rb with
    | out => exact absurd rfl RB.1
    | bad c2 l2 =>
      clear RB RO
      have ox := Lib.hid (RA.2 x ts rfl)
      clear RA
      replace PA := Lib.hid PA
      replace PB := Lib.hid PB
      go_enter Tryz.func8, Tryz.ntmps8
      go_wp2_with (first
        | (go_at_call 19; (with_reducible refine WK.out.mono ?_); rintro e w1 ⟨rfl, hb1⟩; replace B := Lib.hid hb1; clear hb1)
        | (go_at_call 11; (with_reducible refine (PA.out _ B.out).mono ?_); rintro e w2 ⟨hb2, vr, rfl, hv⟩; replace B := Lib.hid (B.out.trans (hb2.mono B.out.size)); have TX := Lib.hid (tl_read hv ox.out); obtain ⟨AX, cX, rfl⟩ := TX.out.sl; clear hb2 hv)
        | (go_at_call 11; (with_reducible refine (PB.out _ B.out).mono ?_); rintro e w2 ⟨hb2, bb, rfl, _, _⟩; replace B := Lib.hid (B.out.trans (hb2.mono B.out.size)); clear hb2))
      go_ret
      exact ⟨rfl, B.out⟩
    | ok y us =>
      have ox := Lib.hid (RA.2 x ts rfl)
      have oy := Lib.hid (RB.2 y us rfl)
      clear RA RB
      by_cases hl : lenT x = 2
      · obtain ⟨h1, h2, h3, h4⟩ := RO rfl rfl hl
        have hp := print_same h3 h4
        have PX := fun (W : World) (v : Value) (hW : Env4 W) (hT : TL W .ss x v) => Print_any hW hT
        have PY := fun (W : World) (v : Value) (hW : Env4 W) (hT : TL W .ss y v) => Print_any hW hT
        rw [hp] at PX
        have SM := fun (W : World) (u v : Value) (a1 : TL W .ss x u) (a2 : TL W .ss y v) => Same_any (Below.refl _ W) a1 a2
        rw [h1, decide_eq_true h2, Bool.and_self] at SM
        have k2 : (((lenT x : Nat) : Int) != 2) = false := by rw [hl]; rfl
        generalize printR y = r at PX PY
        obtain ⟨r1, r2⟩ := r
        have k3 : (r1 == r1) = true := by simp
        have k4 : (r2 == r2) = true := by simp
        clear RO h1 h2 h3 h4 hp hl
        replace PA := Lib.hid PA
        replace PB := Lib.hid PB
        replace PX := Lib.hid PX
        replace PY := Lib.hid PY
        replace SM := Lib.hid SM
        go_enter Tryz.func8, Tryz.ntmps8
        go_wp2_with (first
          | (go_at_call 19; (with_reducible refine WK.out.mono ?_); rintro e w1 ⟨rfl, hb1⟩; replace B := Lib.hid hb1; clear hb1)
          | (go_at_call 11; (with_reducible refine (PA.out _ B.out).mono ?_); rintro e w2 ⟨hb2, vr, rfl, hv⟩; replace B := Lib.hid (B.out.trans (hb2.mono B.out.size)); have TX := Lib.hid (tl_read hv ox.out); obtain ⟨AX, cX, rfl⟩ := TX.out.sl; clear hb2 hv)
          | (go_at_call 11; (with_reducible refine (PB.out _ B.out).mono ?_); rintro e w2 ⟨hb2, vr, rfl, hv⟩; replace B := Lib.hid (B.out.trans (hb2.mono B.out.size)); replace TX := Lib.hid (TX.out.below hb2); have TY := Lib.hid (tl_read hv oy.out); clear hb2 hv)
          | (go_at_call 16; (with_reducible refine (PX.out _ _ (HE.out.below B.out) TX.out).mono ?_); rintro e w3 ⟨rfl, hb3⟩; replace B := Lib.hid (B.out.trans (hb3.mono B.out.size)); replace TX := Lib.hid (TX.out.below hb3); replace TY := Lib.hid (TY.out.below hb3); clear hb3)
          | (go_at_call 16; (with_reducible refine (PY.out _ _ (HE.out.below B.out) TY.out).mono ?_); rintro e w3 ⟨rfl, hb3⟩; replace B := Lib.hid (B.out.trans (hb3.mono B.out.size)); replace TX := Lib.hid (TX.out.below hb3); replace TY := Lib.hid (TY.out.below hb3); clear hb3)
          | (go_at_call 20; (with_reducible refine (SM.out _ _ _ TX.out TY.out).mono ?_); rintro e w3 ⟨rfl, hb3⟩; replace B := Lib.hid (B.out.trans (hb3.mono B.out.size)); replace TX := Lib.hid (TX.out.below hb3); replace TY := Lib.hid (TY.out.below hb3); clear hb3))
        go_ret
        exact ⟨rfl, B.out⟩
      · have k2 : (((lenT x : Nat) : Int) != 2) = true := by simp; omega
        clear RO hl
        replace PA := Lib.hid PA
        replace PB := Lib.hid PB
        go_enter Tryz.func8, Tryz.ntmps8
        go_wp2_with (first
          | (go_at_call 19; (with_reducible refine WK.out.mono ?_); rintro e w1 ⟨rfl, hb1⟩; replace B := Lib.hid hb1; clear hb1)
          | (go_at_call 11; (with_reducible refine (PA.out _ B.out).mono ?_); rintro e w2 ⟨hb2, vr, rfl, hv⟩; replace B := Lib.hid (B.out.trans (hb2.mono B.out.size)); have TX := Lib.hid (tl_read hv ox.out); obtain ⟨AX, cX, rfl⟩ := TX.out.sl; clear hb2 hv)
          | (go_at_call 11; (with_reducible refine (PB.out _ B.out).mono ?_); rintro e w2 ⟨hb2, vr, rfl, hv⟩; replace B := Lib.hid (B.out.trans (hb2.mono B.out.size)); replace TX := Lib.hid (TX.out.below hb2); have TY := Lib.hid (tl_read hv oy.out); clear hb2 hv))
        go_ret
        exact ⟨rfl, B.out⟩
theorem walk (s : ByteArray) (u0 : s.size ≤ 281474976710656) (w : World) (hE : Env4 w) :
    Calls Tryz.prog 8 #[.string s] w fun e w' => e = .returned (.bool true) ∧ Below w.heap.size w w' := walk_cut s u0 _ rfl (cut_size s 1000) w hE
set_option maxRecDepth 100000 in
theorem contract (H : Type) (enc : TypeId × Value → H) (W : World) (base : Nat) (args : Array Value) (ds gs : List (DataW H)) (before : List MemPlace)
    (hval : ∀ (j : Nat) t v, Tryz.f8.params[j]? = some t → args[j]? = some v → Value.okWide Tryz.prog W .any base t v)
    (hW : DataW.Whole enc Tryz.prog Tryz.f8.params.toList Rows.printRoundSpec.vars false W args.toList ds gs before)
    (hsz0 : (DataW.weightsEach Tryz.prog (Tryz.f8.params.toList ++ (OpenSpec.ofChange Rows.printRoundSpec).bare.plain.varTypes Tryz.prog) (ds ++ gs)).all (· ≤ reachBytes) = true) (hL : laidMetH Tryz.prog Rows.printRoundRow.laid W) :
    Calls Tryz.prog 8 args W fun e W' => ∃ v, e = .returned v ∧ Rows.printRoundSpec.post enc Tryz.prog Tryz.f8 false true false false W args v W' := by
  have hW' := hW
  obtain ⟨p, q, hA0, hV, rfl, hfz, hnd⟩ := hW
  have hA : DataW.TrodAll enc Tryz.prog W 0 (fun _ => true) true Tryz.f8.params.toList args.toList ds p := hA0
  have hsz := hsz0
  rw [Tryz.params8] at hA hval hsz
  obtain ⟨v0, vs0, d0, ds0, p0, q0, hargs, rfl, rfl, h0, r0⟩ := trodAll_cons hA
  obtain ⟨rfl, rfl, rfl⟩ := trodAll_nil r0
  obtain rfl : args = #[v0] := by cases args; simp_all
  obtain ⟨rfl, rfl⟩ := trodVars_none hV
  obtain ⟨a0, rfl, rfl, rfl, w0⟩ := Go.ChangeMaps.open_string Tryz.underlying9 (hval 0 9 v0 rfl rfl) h0
  have u0 := str_reach (sized_string hsz (j := 0) (t := 9) rfl rfl)
  clear hA0 hsz hsz0
  simp only [List.append_nil] at hW'
  refine (walk a0 u0 W (env_of_laid hL)).mono fun e W' ⟨he, hb⟩ => ?_
  subst he
  exact ⟨_, rfl, law_post laidOut (by kernel_rfl) (by kernel_rfl) Tryz.underlying4 hW' hb rfl⟩

theorem laid_met (os : Os) : laidMetH Tryz.prog Rows.printRoundRow.laid ((laidWorld os).forCall (fun _ _ => 0) ⟨#[], #[.string ⟨#[]⟩], []⟩).memory :=
  laid_metH os _ (laidMet_of_run' 8 (by kernel_rfl) (by kernel_rfl)) (by kernel_rfl)
theorem reads (os : Os) {H : Type} (enc : TypeId × Value → H) : ∃ places, DataW.whole enc Tryz.prog ((laidWorld os).forCall (fun _ _ => 0) ⟨#[], #[.string ⟨#[]⟩], []⟩).memory Tryz.f8.params.toList Rows.printRoundSpec.vars false (#[.string ⟨#[]⟩] : Array Value).toList 8 = some ([.lit (.string [])], [], places) :=
  ⟨[], by kernel_rfl⟩

set_option maxRecDepth 100000 in
theorem lifted (os : Os) (started : os.Started) (H : Type) (enc : TypeId × Value → H) (F : Stop.Interp) :
    ReturnsInHanded {} Tryz.checked os 8 .any ((OpenSpec.ofChange Rows.printRoundSpec).preRow enc Tryz.prog Tryz.f8 Rows.printRoundRow.domain false Rows.printRoundRow.laid) (((OpenSpec.ofChange Rows.printRoundSpec).at F).post enc Tryz.prog Tryz.f8 false true false false) := by
  obtain ⟨places, hx⟩ := reads os enc
  refine returnsInHanded_of_row (C := Tryz.checked) (s := (OpenSpec.ofChange Rows.printRoundSpec)) own started (by kernel_rfl) Tryz.func8
    (witness_row_atRef (enc := enc) (C := Tryz.checked) false (laidWorld os) #[.string ⟨#[]⟩] rfl (by kernel_rfl) (by kernel_rfl) (by kernel_rfl)
      (OpenSpec.preRow_of_cond 8 hx (by kernel_rfl) (fun k hk => by cases hk) (by kernel_rfl) (laid_met os))) ?_
  intro W base args ds gs before hval hW _ _ hsz hL _ _
  exact contract H enc W base args ds gs before hval hW hsz hL

theorem said : Rows.PrintRoundSaid :=
  OpenClaim.holds_of_cond 8 Tryz.f8 rfl rfl rfl rfl rfl rfl rfl ⟨rfl, rfl, rfl, rfl, rfl⟩ rfl rfl rfl rfl rfl (by kernel_rfl) Tryz.func8 (by kernel_rfl)
    (of_decide_eq_true (by kernel_rfl)) (by unfold Func.isWrapper; first | (rw [if_pos (by decide +kernel)]; kernel_rfl) | (rw [if_neg (by decide +kernel)]; exact ⟨rfl, rfl⟩))
    (fun os started H enc _ F => by rw [OpenClaim.pre_eq_preRow]; exact lifted os started H enc F)

/-- No parameter wants a stand-in; the program's own looks are off: what the card asks. -/
theorem plain (f : FuncId) (fn : Func) (hf : Tryz.pinned.checked.prog.funcNamed "tallow/tallowlaw06.PrintRound" = some f) (hfn : Tryz.pinned.checked.prog.funcs[f]? = some fn) :
    Rows.printRoundCard.stood.looks = Tryz.pinned.checked.prog.looks [] ∧ ∀ (j : Nat) t, fn.params[j]? = some t → Tryz.pinned.checked.prog.wantsStandIn t = false := by
  obtain rfl : f = 8 := Option.some.inj ((show Tryz.prog.funcNamed "tallow/tallowlaw06.PrintRound" = some 8 by kernel_rfl).symm.trans hf) |>.symm
  obtain rfl : fn = Tryz.f8 := (Option.some.inj (Tryz.func8.symm.trans hfn)).symm
  refine ⟨by kernel_rfl, fun j t ht => ?_⟩
  rw [Tryz.params8] at ht
  have hm : t ∈ ([9] : List TypeId) := by simpa using Array.mem_of_getElem? ht
  have ha : ([9] : List TypeId).all (fun t => !Tryz.prog.wantsStandIn t) = true := by kernel_rfl
  have hb := List.all_eq_true.1 ha t hm
  have hc : Tryz.prog.wantsStandIn t = false := by simpa using hb
  exact hc

/-- THE CARD. -/
theorem card : Rows.PrintRoundCardSaid :=
  Claim7.holds_tied_plain_at .later [] _ _ _ _ said (fun _ h => by cases h) (by kernel_rfl) (fun _ h => by cases h) printRound_row_tie rfl ⟨rfl, rfl⟩ (by kernel_rfl) rfl plain (by kernel_rfl)
end Go.Proofs.YtoggkigfijgbfaaGreatDoor.printRound
