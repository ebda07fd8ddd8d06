/- NumBack: for any number of 64 bits and any text (of which the first 100 bytes count), the number's text is read as that number, and a text that is read is that number's, else it is refused with 0 beside; the arguments read as they did. Conditions: none but the tied package-level variables and the form's own reach. -/
import Derived.Test.YtfbhbodimdlldaaDoorCards
import Derived.Test.YtfbhbodimdlldaaDoorTie
import Derived.Test.YtfbhbodimdlldaaDoorNumWorks
import Derived.Test.YtfbhbodimdlldaaDoorTextMath
import Derived.Test.YtfbhbodimdlldaaDoorNumFrame
namespace Go.Proofs.YtfbhbodimdlldaaDoor.numBack
open Go.ChangeShapes Go.WideShapes Go.ChangeAt Go.RowKit

theorem of_list (t : ByteArray) : (⟨t.data.toList.toArray⟩ : ByteArray) = t := by cases t; simp
theorem itoa_len (n : Int) (a0 : -9223372036854775808 ≤ n) (a1 : n ≤ 9223372036854775807) : (⟨(Lib.itoa n).toArray⟩ : ByteArray).size ≤ 21 := by
  have := decDigits_bound (n := n.natAbs) (by omega)
  have e : (⟨(Lib.itoa n).toArray⟩ : ByteArray).size = (Lib.itoa n).length := by simp [ByteArray.size]
  rw [e]; unfold Lib.itoa
  split
  · simp only [List.length_cons]; omega
  · rw [show n.toNat = n.natAbs by omega]; omega
set_option maxHeartbeats 1000000 in
theorem walk_yes (n : Int) (s t d : ByteArray) (V : Int) (a0 : -9223372036854775808 ≤ n) (a1 : n ≤ 9223372036854775807) (v0 : -9223372036854775808 ≤ V) (v1 : V ≤ 9223372036854775807) (u : s.size ≤ 281474976710656) (ht : s.extract 0 (min (s.size : Int) 100).toNat = t)
    (hd : (⟨(Lib.itoa n).toArray⟩ : ByteArray) = d) (hV : (⟨(Lib.itoa V).toArray⟩ : ByteArray) = t)
    (P1 : Hid (∀ w, Env w → Calls Tryd.prog 18 #[.string d] w fun e w' => e = .returned (.tuple #[.int .i64 n, .int .i64 0]) ∧ Below w.heap.size w w'))
    (P2 : Hid (∀ w, Env w → Calls Tryd.prog 18 #[.string t] w fun e w' => e = .returned (.tuple #[.int .i64 V, .int .i64 0]) ∧ Below w.heap.size w w'))
    (w : World) (hE : Env w) :
    Calls Tryd.prog 11 #[.int .i64 n, .string s] w fun e w' => e = .returned (.bool true) ∧ Below w.heap.size w w' := by
  have T1 := Text_any n a0 a1 w hE
  rw [hd] at T1
  have T1 := Lib.hid T1
  have T2 := fun w h => Text_any V v0 v1 w h
  rw [hV] at T2
  have T2 := Lib.hid T2
  have E := Lib.hid hE
  have c1 : (t.toList != t.toList) = false := by simp
  clear hE hd hV
  go_enter Tryd.func11, Tryd.ntmps11
  go_wp2_with fail
  refine T1.out.mono ?_
  rintro e w1 ⟨rfl, b1⟩
  have E1 := Lib.hid (E.out.below b1)
  have B1 := Lib.hid b1
  clear b1
  go_wp2_with fail
  refine (P1.out _ E1.out).mono ?_
  rintro e w2 ⟨rfl, b2⟩
  have E2 := Lib.hid (E1.out.below b2)
  have B2 := Lib.hid (B1.out.trans (b2.mono B1.out.size))
  clear b2
  go_wp2_with fail
  refine (P2.out _ E2.out).mono ?_
  rintro e w3 ⟨rfl, b3⟩
  have E3 := Lib.hid (E2.out.below b3)
  have B3 := Lib.hid (B2.out.trans (b3.mono B2.out.size))
  clear b3
  go_wp2_with fail
  refine (T2.out _ E3.out).mono ?_
  rintro e w4 ⟨rfl, b4⟩
  have E4 := Lib.hid (E3.out.below b4)
  have B4 := Lib.hid (B3.out.trans (b4.mono B3.out.size))
  clear b4
  have W := Lib.hid (works_true w4 E4.out)
  go_wp2_with (go_at_call 15; refine W.out.mono ?_; rintro e w5 ⟨rfl, b5⟩)
  go_ret
  exact ⟨rfl, B4.out.trans (b5.mono B4.out.size)⟩
set_option maxHeartbeats 1000000 in
theorem walk_no (n : Int) (s t d : ByteArray) (E5 : Int) (a0 : -9223372036854775808 ≤ n) (a1 : n ≤ 9223372036854775807) (u : s.size ≤ 281474976710656) (ht : s.extract 0 (min (s.size : Int) 100).toNat = t)
    (hd : (⟨(Lib.itoa n).toArray⟩ : ByteArray) = d) (h5 : E5 = 4 ∨ E5 = 15)
    (P1 : Hid (∀ w, Env w → Calls Tryd.prog 18 #[.string d] w fun e w' => e = .returned (.tuple #[.int .i64 n, .int .i64 0]) ∧ Below w.heap.size w w'))
    (P2 : Hid (∀ w, Env w → Calls Tryd.prog 18 #[.string t] w fun e w' => e = .returned (.tuple #[.int .i64 0, .int .i64 E5]) ∧ Below w.heap.size w w'))
    (w : World) (hE : Env w) :
    Calls Tryd.prog 11 #[.int .i64 n, .string s] w fun e w' => e = .returned (.bool true) ∧ Below w.heap.size w w' := by
  have T1 := Text_any n a0 a1 w hE
  rw [hd] at T1
  have T1 := Lib.hid T1
  have E := Lib.hid hE
  clear hE hd
  rcases h5 with rfl | rfl
  all_goals
    go_enter Tryd.func11, Tryd.ntmps11
    go_wp2_with fail
    refine T1.out.mono ?_
    rintro e w1 ⟨rfl, b1⟩
    have E1 := Lib.hid (E.out.below b1)
    have B1 := Lib.hid b1
    clear b1
    go_wp2_with fail
    refine (P1.out _ E1.out).mono ?_
    rintro e w2 ⟨rfl, b2⟩
    have E2 := Lib.hid (E1.out.below b2)
    have B2 := Lib.hid (B1.out.trans (b2.mono B1.out.size))
    clear b2
    go_wp2_with fail
    refine (P2.out _ E2.out).mono ?_
    rintro e w3 ⟨rfl, b3⟩
    have E3 := Lib.hid (E2.out.below b3)
    have B3 := Lib.hid (B2.out.trans (b3.mono B2.out.size))
    clear b3
    have W := Lib.hid (works_true w3 E3.out)
    go_wp2_with (go_at_call 15; refine W.out.mono ?_; rintro e w5 ⟨rfl, b5⟩)
    go_ret
    exact ⟨rfl, B3.out.trans (b5.mono B3.out.size)⟩
theorem walk (n : Int) (s : ByteArray) (a0 : -9223372036854775808 ≤ n) (a1 : n ≤ 9223372036854775807) (u : s.size ≤ 281474976710656) (w : World) (hE : Env w) :
    Calls Tryd.prog 11 #[.int .i64 n, .string s] w fun e w' => e = .returned (.bool true) ∧ Below w.heap.size w w' := by
  obtain ⟨t, ht⟩ : ∃ t, s.extract 0 (min (s.size : Int) 100).toNat = t := ⟨_, rfl⟩
  have hts : t.size ≤ 281474976710656 := by
    rw [← ht, ByteArray.size_extract]; omega
  have P1 : ∀ w, Env w → Calls Tryd.prog 18 #[.string ⟨(Lib.itoa n).toArray⟩] w fun e w' => e = .returned (.tuple #[.int .i64 n, .int .i64 0]) ∧ Below w.heap.size w w' := fun w h => by
    have p := Parse_any ⟨(Lib.itoa n).toArray⟩ w (by have := itoa_len n a0 a1; omega) h
    have q := parse_itoa n a0 a1
    simp only [] at p
    rw [q.1, q.2] at p
    exact p
  have P2 := fun w h => Parse_any t w hts h
  by_cases h : parseE t.data.toList = 0
  · have b := parseV_bounds (l := t.data.toList)
    rw [h] at P2
    exact walk_yes n s t _ (parseV t.data.toList) a0 a1 b.1 b.2 u ht rfl (by rw [itoa_parse h, of_list]) P1 P2 w hE
  · have q := parse_none h
    rw [q.1] at P2
    exact walk_no n s t _ _ a0 a1 u ht rfl q.2 P1 P2 w hE
set_option maxRecDepth 100000 in
theorem contract (H : Type) (enc : TypeId × Value → H) (W : World) (base : Nat) (args : Array Value) (ds gs : List (DataW H)) (before : List MemPlace)
    (hval : ∀ (j : Nat) t v, Tryd.f11.params[j]? = some t → args[j]? = some v → Value.okWide Tryd.prog W .any base t v)
    (hW : DataW.Whole enc Tryd.prog Tryd.f11.params.toList Rows.numBackSpec.vars false W args.toList ds gs before)
    (hsz0 : (DataW.weightsEach Tryd.prog (Tryd.f11.params.toList ++ (OpenSpec.ofChange Rows.numBackSpec).bare.plain.varTypes Tryd.prog) (ds ++ gs)).all (· ≤ reachBytes) = true) (hL : laidMetH Tryd.prog Rows.numBackRow.laid W) :
    Calls Tryd.prog 11 args W fun e W' => ∃ v, e = .returned v ∧ Rows.numBackSpec.post enc Tryd.prog Tryd.f11 false true false false W args v W' := by
  have hW' := hW
  obtain ⟨p, q, hA0, hV, rfl, hfz, hnd⟩ := hW
  have hA : DataW.TrodAll enc Tryd.prog W 0 (fun _ => true) true Tryd.f11.params.toList args.toList ds p := hA0
  have hsz := hsz0
  rw [Tryd.params11] at hA hval hsz
  obtain ⟨v0, vs0, d0, ds0, p0, q0, hargs, rfl, rfl, h0, r0⟩ := trodAll_cons hA
  obtain ⟨v1, vs1, d1, ds1, p1, q1, rfl, rfl, rfl, h1, r1⟩ := trodAll_cons r0
  obtain ⟨rfl, rfl, rfl⟩ := trodAll_nil r1
  obtain rfl : args = #[v0, v1] := by cases args; simp_all
  obtain ⟨rfl, rfl⟩ := trodVars_none hV
  obtain ⟨a0, rfl, rfl, rfl, w0⟩ := open_int Tryd.underlying2 (hval 0 2 v0 rfl rfl) h0
  obtain ⟨l0, u0⟩ := of_wf_i64 w0
  obtain ⟨a1, rfl, rfl, rfl, w1⟩ := Go.ChangeMaps.open_string Tryd.underlying9 (hval 1 9 v1 rfl rfl) h1
  have u1 := str_reach (sized_string hsz (j := 1) (t := 9) rfl rfl)
  clear hA0 hsz hsz0
  simp only [List.append_nil] at hW'
  refine (walk a0 a1 l0 u0 u1 W (env_of_laid hL)).mono fun e W' ⟨he, hb⟩ => ?_
  subst he
  refine ⟨_, rfl, _, _, _, [], [], [], hW', ?_, ?_, rfl, hb.frame _, fun h => by cases h⟩
  · exact trodAll_cons_mk (shut_bool Tryd.underlying4 _) trodAll_mk0
  · exact trodAll_cons_mk (shut_int Tryd.underlying2 w0) (trodAll_cons_mk (Go.ChangeMaps.shut_string Tryd.underlying9 w1) trodAll_mk0)

theorem laid_met (os : Os) : laidMet Tryd.prog Rows.numBackRow.laid ((laidWorld os).forCall (fun _ _ => 0) ⟨#[], #[.int .i64 0, .string ⟨#[]⟩], []⟩).memory :=
  laidMet_of_run' 8 (by kernel_rfl) (by kernel_rfl)
theorem reads (os : Os) {H : Type} (enc : TypeId × Value → H) : ∃ places, DataW.whole enc Tryd.prog ((laidWorld os).forCall (fun _ _ => 0) ⟨#[], #[.int .i64 0, .string ⟨#[]⟩], []⟩).memory Tryd.f11.params.toList Rows.numBackSpec.vars false #[Value.int .i64 0, Value.string ⟨#[]⟩].toList 8 = some ([.lit (.int .i64 0), .lit (.string [])], [], places) :=
  ⟨[], by kernel_rfl⟩

set_option maxRecDepth 100000 in
theorem lifted (os : Os) (started : os.Started) (H : Type) (enc : TypeId × Value → H) (F : Stop.Interp) :
    ReturnsInHanded {} Tryd.checked os 11 .any ((OpenSpec.ofChange Rows.numBackSpec).preRow enc Tryd.prog Tryd.f11 Rows.numBackRow.domain false Rows.numBackRow.laid) (((OpenSpec.ofChange Rows.numBackSpec).at F).post enc Tryd.prog Tryd.f11 false true false false) := by
  obtain ⟨places, hx⟩ := reads os enc
  refine returnsInHanded_of_row (C := Tryd.checked) (s := OpenSpec.ofChange Rows.numBackSpec) own started (by kernel_rfl) Tryd.func11
    (witness_row_atRef (enc := enc) (C := Tryd.checked) false (laidWorld os) #[.int .i64 0, .string ⟨#[]⟩] rfl (by kernel_rfl) (by kernel_rfl) (by kernel_rfl)
      (OpenSpec.preRow_of_cond 8 hx (by kernel_rfl) (fun k hk => by cases hk) (by kernel_rfl) (laid_met os))) ?_
  intro W base args ds gs before hval hW _ _ hsz hL _ _
  exact contract H enc W base args ds gs before hval hW hsz hL

theorem said : Rows.NumBackSaid :=
  OpenClaim.holds_of_cond 11 Tryd.f11 rfl rfl rfl rfl rfl rfl rfl ⟨rfl, rfl, rfl, rfl, rfl⟩ rfl rfl rfl rfl rfl (by kernel_rfl) Tryd.func11 (by kernel_rfl)
    (of_decide_eq_true (by kernel_rfl)) (by unfold Func.isWrapper; first | (rw [if_pos (by decide +kernel)]; kernel_rfl) | (rw [if_neg (by decide +kernel)]; exact ⟨rfl, rfl⟩))
    (fun os started H enc _ F => by rw [OpenClaim.pre_eq_preRow]; exact lifted os started H enc F)

/-- No parameter wants a stand-in; the program's own looks are off: what the card asks. -/
theorem plain (f : FuncId) (fn : Func) (hf : Tryd.pinned.checked.prog.funcNamed "tallow/tallowlaw01.NumBack" = some f) (hfn : Tryd.pinned.checked.prog.funcs[f]? = some fn) :
    true = Tryd.pinned.checked.prog.looks [] ∧ ∀ (j : Nat) t, fn.params[j]? = some t → Tryd.pinned.checked.prog.wantsStandIn t = false := by
  obtain rfl : f = 11 := Option.some.inj ((show Tryd.prog.funcNamed "tallow/tallowlaw01.NumBack" = some 11 by kernel_rfl).symm.trans hf) |>.symm
  obtain rfl : fn = Tryd.f11 := (Option.some.inj (Tryd.func11.symm.trans hfn)).symm
  refine ⟨by kernel_rfl, fun j t ht => ?_⟩
  rw [Tryd.params11] at ht
  have hm : t ∈ ([2, 9] : List TypeId) := by simpa using Array.mem_of_getElem? ht
  have ha : ([2, 9] : List TypeId).all (fun t => !Tryd.prog.wantsStandIn t) = true := by kernel_rfl
  have hb := List.all_eq_true.1 ha t hm
  have hc : Tryd.prog.wantsStandIn t = false := by simpa using hb
  exact hc

/-- THE CARD. -/
theorem card : Rows.NumBackCardSaid :=
  Claim7.holds_tied_plain_at .later [] _ _ _ _ said (fun _ h => by cases h) (by kernel_rfl) (fun _ h => by cases h) numBack_row_tie rfl ⟨rfl, rfl⟩ (by kernel_rfl) rfl plain (by kernel_rfl)
end Go.Proofs.YtfbhbodimdlldaaDoor.numBack
