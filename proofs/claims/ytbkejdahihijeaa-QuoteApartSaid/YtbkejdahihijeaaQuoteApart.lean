/- QuoteApart: any three texts, cut at 4000 bytes: two strings have one text just if they are one; a text that is read is quoted again with no more bytes, and read as it was; one that is refused is no string; the arguments read as they did. Conditions: none but the form's own reach. -/
import Derived.Test.YtbkejdahihijeaaQuoteWorks
import Derived.Test.YtbkejdahihijeaaLawPost
import Derived.ProofKit
namespace Go.Proofs.Ytbkejdahihijeaa.quoteApart
open Go.ChangeShapes Go.WideShapes Go.ChangeAt Go.RowKit

theorem text_size (s : List UInt8) (h : s.length ≤ 6000) : (ByteArray.mk (quoteL s).toArray).size ≤ 1048576 := by
  have h1 := body_length s
  rw [← size_toList]
  show (quoteL s).length ≤ _
  rw [quote_length]; omega
theorem same_text {a b : ByteArray} : ((ByteArray.mk (quoteL a.data.toList).toArray).toList == (ByteArray.mk (quoteL b.data.toList).toArray).toList) = (a.toList == b.toList) := by
  rw [Lib.toList_data, Lib.toList_data, Lib.toList_data, Lib.toList_data]
  show (quoteL a.data.toList == quoteL b.data.toList) = _
  by_cases h : a.data.toList = b.data.toList
  · rw [h]; simp
  · rw [beq_eq_false_iff_ne.2 h, beq_eq_false_iff_ne.2 fun e => h (quote_inj e)]
set_option maxHeartbeats 2000000 in
theorem walk_any (a b q ta tb tq : ByteArray) (u0 : a.size ≤ 281474976710656) (u1 : b.size ≤ 281474976710656) (u2 : q.size ≤ 281474976710656)
    (h0 : a.extract 0 (min (a.size : Int) 4000).toNat = ta) (h1 : b.extract 0 (min (b.size : Int) 4000).toNat = tb) (h2 : q.extract 0 (min (q.size : Int) 4000).toNat = tq)
    (qa qb : ByteArray) (Q0 : Hid (∀ w, Calls Try.prog 8 #[.string ta] w fun e w' => e = .returned (.string qa) ∧ Below w.heap.size w w'))
    (Q1 : Hid (∀ w, Calls Try.prog 8 #[.string tb] w fun e w' => e = .returned (.string qb) ∧ Below w.heap.size w w'))
    (x : Bool) (x1 : (qa.toList == qb.toList) = x) (x2 : (ta.toList == tb.toList) = x)
    (d : ByteArray) (E : Int) (U : Hid (∀ w, Calls Try.prog 11 #[.string tq] w fun e w' => e = .returned (.tuple #[.string d, .int .i64 E]) ∧ Below w.heap.size w w'))
    (no : E ≠ 0 → d = ⟨#[]⟩) (qd : ByteArray) (yes : E = 0 → qd.size ≤ tq.size ∧ Hid (∀ w, Calls Try.prog 8 #[.string d] w fun e w' => e = .returned (.string qd) ∧ Below w.heap.size w w') ∧
      Hid (∀ w, Calls Try.prog 11 #[.string qd] w fun e w' => e = .returned (.tuple #[.string d, .int .i64 0]) ∧ Below w.heap.size w w')) (w : World) :
    Calls Try.prog 6 #[.string a, .string b, .string q] w fun e w' => e = .returned (.bool true) ∧ Below w.heap.size w w' := by
  have hd : (d.toList == d.toList) = true := by simp
  by_cases hE : E = 0
  · subst hE
    obtain ⟨ys, Y, Z⟩ := yes rfl
    have ys2 : decide ((qd.size : Int) ≤ (tq.size : Int)) = true := decide_eq_true (by omega)
    clear no yes
    cases x
    all_goals
      go_enter Try.func6, Try.ntmps6
      go_wp2_with (first
        | (go_at_call 8; with_reducible refine (Q0.out _).mono ?_; rintro e w1 ⟨rfl, hb1⟩)
        | (go_at_call 8; with_reducible refine (Q1.out _).mono ?_; rintro e w2 ⟨rfl, hb2⟩))
      replace hb2 := Lib.hid (hb1.trans (hb2.mono hb1.size))
      clear hb1 Q0 Q1 x1 x2 h0 h1
      go_wp2_with (first
        | (go_at_call 11; with_reducible refine (U.out _).mono ?_; rintro e w3 ⟨rfl, hb3⟩; replace hb3 := Lib.hid (hb2.out.trans (hb3.mono hb2.out.size))))
      refine (Y.out _).mono ?_
      rintro e w4 ⟨rfl, hb4⟩
      replace hb4 := Lib.hid (hb3.out.trans (hb4.mono hb3.out.size))
      go_wp2_with fail
      refine (Z.out _).mono ?_
      rintro e w5 ⟨rfl, hb5⟩
      replace hb5 := Lib.hid (hb4.out.trans (hb5.mono hb4.out.size))
      go_wp2_with fail
      refine (Y.out _).mono ?_
      rintro e w6 ⟨rfl, hb6⟩
      replace hb6 := Lib.hid (hb5.out.trans (hb6.mono hb5.out.size))
      go_wp2_with (go_at_call 10; refine (works_true _).mono ?_; rintro e w7 ⟨rfl, hb7⟩)
      go_ret
      exact ⟨rfl, hb6.out.trans (hb7.mono hb6.out.size)⟩
  · have e0 : (E != 0) = true := by rw [bne_iff_ne]; exact hE
    obtain rfl := no hE
    clear no yes hE
    cases x
    all_goals
      go_enter Try.func6, Try.ntmps6
      go_wp2_with (first
        | (go_at_call 8; with_reducible refine (Q0.out _).mono ?_; rintro e w1 ⟨rfl, hb1⟩)
        | (go_at_call 8; with_reducible refine (Q1.out _).mono ?_; rintro e w2 ⟨rfl, hb2⟩)
        | (go_at_call 11; with_reducible refine (U.out _).mono ?_; rintro e w3 ⟨rfl, hb3⟩)
        | (go_at_call 10; refine (works_true _).mono ?_; rintro e w4 ⟨rfl, hb4⟩))
      go_ret
      exact ⟨rfl, hb1.trans ((hb2.trans ((hb3.trans (hb4.mono hb3.size)).mono hb2.size)).mono hb1.size)⟩
theorem walk (a b q : ByteArray) (u0 : a.size ≤ 281474976710656) (u1 : b.size ≤ 281474976710656) (u2 : q.size ≤ 281474976710656) (w : World) :
    Calls Try.prog 6 #[.string a, .string b, .string q] w fun e w' => e = .returned (.bool true) ∧ Below w.heap.size w w' := by
  obtain ⟨ta, h0⟩ : ∃ t, a.extract 0 (min (a.size : Int) 4000).toNat = t := ⟨_, rfl⟩
  obtain ⟨tb, h1⟩ : ∃ t, b.extract 0 (min (b.size : Int) 4000).toNat = t := ⟨_, rfl⟩
  obtain ⟨tq, h2⟩ : ∃ t, q.extract 0 (min (q.size : Int) 4000).toNat = t := ⟨_, rfl⟩
  have s0 : ta.size ≤ 4000 := by rw [← h0]; exact cut_size a 4000
  have s1 : tb.size ≤ 4000 := by rw [← h1]; exact cut_size b 4000
  have s2 : tq.size ≤ 4000 := by rw [← h2]; exact cut_size q 4000
  refine walk_any a b q ta tb tq u0 u1 u2 h0 h1 h2 _ _ (Lib.hid fun w => Quote_any ta w (by omega)) (Lib.hid fun w => Quote_any tb w (by omega)) _ same_text rfl _ _ (Lib.hid fun w => Unquote_any tq w (by omega))
    (fun h => by rw [unq_bad h]) ⟨(quoteL (unqL tq.data.toList).1).toArray⟩ (fun h => ?_) w
  obtain ⟨k1, k2⟩ := unq_ok h
  rw [size_toList] at k2
  have k3 : (ByteArray.mk (unqL tq.data.toList).1.toArray).size ≤ 1048576 := by rw [← size_toList]; show (unqL tq.data.toList).1.length ≤ _; omega
  refine ⟨by rw [← size_toList]; exact k2, Lib.hid fun w => Quote_any _ w k3, Lib.hid fun w => ?_⟩
  have U := Unquote_any ⟨(quoteL (unqL tq.data.toList).1).toArray⟩ w (text_size _ (by omega))
  rw [show (ByteArray.mk (quoteL (unqL tq.data.toList).1).toArray).data.toList = quoteL (unqL tq.data.toList).1 from rfl, unq_quote, if_neg (by omega)] at U
  exact U
theorem own : ownKnob Try.prog.godebug = none := by kernel_rfl
theorem laidOut : laidOutB Try.prog = true := by kernel_rfl
set_option maxRecDepth 100000 in
theorem contract (H : Type) (enc : TypeId × Value → H) (W : World) (base : Nat) (args : Array Value) (ds gs : List (DataW H)) (before : List MemPlace)
    (hval : ∀ (j : Nat) t v, Try.f6.params[j]? = some t → args[j]? = some v → Value.okWide Try.prog W .any base t v)
    (hW : DataW.Whole enc Try.prog Try.f6.params.toList Rows.quoteApartSpec.vars false W args.toList ds gs before)
    (hsz0 : (DataW.weightsEach Try.prog (Try.f6.params.toList ++ Rows.quoteApartSpec.plain.varTypes Try.prog) (ds ++ gs)).all (· ≤ reachBytes) = true) :
    Calls Try.prog 6 args W fun e W' => ∃ v, e = .returned v ∧ Rows.quoteApartSpec.post enc Try.prog Try.f6 false true false false W args v W' := by
  have hW' := hW
  obtain ⟨p, q, hA0, hV, rfl, hfz, hnd⟩ := hW
  have hA : DataW.TrodAll enc Try.prog W 0 (fun _ => true) true Try.f6.params.toList args.toList ds p := hA0
  have hsz := hsz0
  rw [Try.params6] at hA hval hsz
  obtain ⟨v0, vs0, d0, ds0, p0, q0, hargs, rfl, rfl, h0, r0⟩ := trodAll_cons hA
  obtain ⟨v1, vs1, d1, ds1, p1, q1, rfl, rfl, rfl, h1, r1⟩ := trodAll_cons r0
  obtain ⟨v2, vs2, d2, ds2, p2, q2, rfl, rfl, rfl, h2, r2⟩ := trodAll_cons r1
  obtain ⟨rfl, rfl, rfl⟩ := trodAll_nil r2
  obtain rfl : args = #[v0, v1, v2] := by cases args; simp_all
  obtain ⟨rfl, rfl⟩ := trodVars_none hV
  obtain ⟨a0, rfl, rfl, rfl, w0⟩ := Go.ChangeMaps.open_string Try.underlying9 (hval 0 9 v0 rfl rfl) h0
  have u0 := str_reach (sized_string hsz (j := 0) (t := 9) rfl rfl)
  obtain ⟨a1, rfl, rfl, rfl, w1⟩ := Go.ChangeMaps.open_string Try.underlying9 (hval 1 9 v1 rfl rfl) h1
  have u1 := str_reach (sized_string hsz (j := 1) (t := 9) rfl rfl)
  obtain ⟨a2, rfl, rfl, rfl, w2⟩ := Go.ChangeMaps.open_string Try.underlying9 (hval 2 9 v2 rfl rfl) h2
  have u2 := str_reach (sized_string hsz (j := 2) (t := 9) rfl rfl)
  clear hA0 hsz hsz0
  simp only [List.append_nil] at hW'
  refine (walk a0 a1 a2 u0 u1 u2 W).mono fun e W' ⟨he, hb⟩ => ?_
  subst he
  exact ⟨_, rfl, law_post laidOut (by kernel_rfl) (by kernel_rfl) Try.underlying4 hW' hb rfl⟩

set_option maxRecDepth 100000 in
theorem lifted (os : Os) (started : os.Started) (H : Type) (enc : TypeId × Value → H) :
    ReturnsInHanded {} Try.checked os 6 .any (Rows.quoteApartSpec.pre6 enc Try.prog Try.f6 Rows.quoteApartRow.domain false) (Rows.quoteApartSpec.post enc Try.prog Try.f6 false true false false) := by
  refine returnsInHanded_of_change_sized (C := Try.checked) own started (by kernel_rfl) Try.func6
    (ChangeSpec.witness6 (enc := enc) (C := Try.checked) false ⟨#[], #[.string ⟨#[]⟩, .string ⟨#[]⟩, .string ⟨#[]⟩], []⟩ 8 (by kernel_rfl) (by kernel_rfl) (by kernel_rfl) (by kernel_rfl)) ?_
  intro W base args ds gs before hval hW _ hsz _
  exact contract H enc W base args ds gs before hval hW hsz
/-- The row. -/
theorem holds : Rows.QuoteApartSaid :=
  OpenClaim.holds_of_wide 6 Try.f6 rfl rfl rfl rfl rfl rfl rfl ⟨rfl, rfl, rfl, rfl, rfl⟩ rfl rfl rfl rfl rfl (by kernel_rfl) Try.func6 (by kernel_rfl)
    (of_decide_eq_true (by kernel_rfl)) (by unfold Func.isWrapper; first | (rw [if_pos (by decide +kernel)]; kernel_rfl) | (rw [if_neg (by decide +kernel)]; exact ⟨rfl, rfl⟩))
    (fun os started H enc _ => lifted os started H enc)
end Go.Proofs.Ytbkejdahihijeaa.quoteApart
