/- QuoteReads: any text, cut at 20000 bytes, as it stands and between two quotes: quote.Unquote answers what the document's own reading answers; the argument reads as it did. Conditions: none but the form's own reach. -/
import Derived.Test.YtbkejdahihijeaaQuoteWorks
import Derived.Test.YtbkejdahihijeaaLawPost
import Derived.ProofKit
namespace Go.Proofs.Ytbkejdahihijeaa.quoteReads
open Go.ChangeShapes Go.WideShapes Go.ChangeAt Go.RowKit

set_option maxHeartbeats 1000000 in
theorem walk (s : ByteArray) (u0 : s.size ≤ 281474976710656) (w : World) :
    Calls Try.prog 4 #[.string s] w fun e w' => e = .returned (.bool true) ∧ Below w.heap.size w w' := by
  obtain ⟨t, ht⟩ : ∃ t, s.extract 0 (min (s.size : Int) 20000).toNat = t := ⟨_, rfl⟩
  have hs : t.size ≤ 20000 := by rw [← ht]; exact cut_size s 20000
  obtain ⟨q, hq⟩ : ∃ q : ByteArray, ⟨#[34]⟩ ++ t ++ ⟨#[34]⟩ = q := ⟨_, rfl⟩
  have l1 : (ByteArray.mk #[34]).size = 1 := rfl
  have hqs : q.size ≤ 20002 := by rw [← hq, ByteArray.size_append, ByteArray.size_append, l1]; omega
  have U := Lib.hid (fun w => Unquote_any t w (by omega))
  have R := Lib.hid (fun w => RUnquote_any t w (by omega))
  have U2 := Lib.hid (fun w => Unquote_any q w (by omega))
  have R2 := Lib.hid (fun w => RUnquote_any q w (by omega))
  generalize (ByteArray.mk (unqL t.data.toList).1.toArray) = d at U R
  generalize (unqL t.data.toList).2 = e1 at U R
  generalize (ByteArray.mk (unqL q.data.toList).1.toArray) = d2 at U2 R2
  generalize (unqL q.data.toList).2 = e2 at U2 R2
  have hd : (d.toList == d.toList) = true := by simp
  have hd2 : (d2.toList == d2.toList) = true := by simp
  go_enter Try.func4, Try.ntmps4
  go_wp2_with (first
    | (go_at_call 11; with_reducible refine (U.out _).mono ?_; rintro e w1 ⟨rfl, hb1⟩)
    | (go_at_call 12; with_reducible refine (R.out _).mono ?_; rintro e w2 ⟨rfl, hb2⟩)
    | (go_at_call 11; with_reducible refine (U2.out _).mono ?_; rintro e w3 ⟨rfl, hb3⟩)
    | (go_at_call 12; with_reducible refine (R2.out _).mono ?_; rintro e w4 ⟨rfl, hb4⟩)
    | (go_at_call 10; refine (works_true _).mono ?_; rintro e w5 ⟨rfl, hb5⟩))
  go_ret
  exact ⟨rfl, hb1.trans ((hb2.trans ((hb3.trans ((hb4.trans (hb5.mono hb4.size)).mono hb3.size)).mono hb2.size)).mono hb1.size)⟩
theorem own : ownKnob Try.prog.godebug = none := by kernel_rfl
theorem laidOut : laidOutB Try.prog = true := by kernel_rfl
set_option maxRecDepth 100000 in
theorem contract (H : Type) (enc : TypeId × Value → H) (W : World) (base : Nat) (args : Array Value) (ds gs : List (DataW H)) (before : List MemPlace)
    (hval : ∀ (j : Nat) t v, Try.f4.params[j]? = some t → args[j]? = some v → Value.okWide Try.prog W .any base t v)
    (hW : DataW.Whole enc Try.prog Try.f4.params.toList Rows.quoteReadsSpec.vars false W args.toList ds gs before)
    (hsz0 : (DataW.weightsEach Try.prog (Try.f4.params.toList ++ Rows.quoteReadsSpec.plain.varTypes Try.prog) (ds ++ gs)).all (· ≤ reachBytes) = true) :
    Calls Try.prog 4 args W fun e W' => ∃ v, e = .returned v ∧ Rows.quoteReadsSpec.post enc Try.prog Try.f4 false true false false W args v W' := by
  have hW' := hW
  obtain ⟨p, q, hA0, hV, rfl, hfz, hnd⟩ := hW
  have hA : DataW.TrodAll enc Try.prog W 0 (fun _ => true) true Try.f4.params.toList args.toList ds p := hA0
  have hsz := hsz0
  rw [Try.params4] at hA hval hsz
  obtain ⟨v0, vs0, d0, ds0, p0, q0, hargs, rfl, rfl, h0, r0⟩ := trodAll_cons hA
  obtain ⟨rfl, rfl, rfl⟩ := trodAll_nil r0
  obtain rfl : args = #[v0] := by cases args; simp_all
  obtain ⟨rfl, rfl⟩ := trodVars_none hV
  obtain ⟨a0, rfl, rfl, rfl, w0⟩ := Go.ChangeMaps.open_string Try.underlying9 (hval 0 9 v0 rfl rfl) h0
  have u0 := str_reach (sized_string hsz (j := 0) (t := 9) rfl rfl)
  clear hA0 hsz hsz0
  simp only [List.append_nil] at hW'
  refine (walk a0 u0 W).mono fun e W' ⟨he, hb⟩ => ?_
  subst he
  exact ⟨_, rfl, law_post laidOut (by kernel_rfl) (by kernel_rfl) Try.underlying4 hW' hb rfl⟩

set_option maxRecDepth 100000 in
theorem lifted (os : Os) (started : os.Started) (H : Type) (enc : TypeId × Value → H) :
    ReturnsInHanded {} Try.checked os 4 .any (Rows.quoteReadsSpec.pre6 enc Try.prog Try.f4 Rows.quoteReadsRow.domain false) (Rows.quoteReadsSpec.post enc Try.prog Try.f4 false true false false) := by
  refine returnsInHanded_of_change_sized (C := Try.checked) own started (by kernel_rfl) Try.func4
    (ChangeSpec.witness6 (enc := enc) (C := Try.checked) false ⟨#[], #[.string ⟨#[]⟩], []⟩ 8 (by kernel_rfl) (by kernel_rfl) (by kernel_rfl) (by kernel_rfl)) ?_
  intro W base args ds gs before hval hW _ hsz _
  exact contract H enc W base args ds gs before hval hW hsz
/-- The row. -/
theorem holds : Rows.QuoteReadsSaid :=
  OpenClaim.holds_of_wide 4 Try.f4 rfl rfl rfl rfl rfl rfl rfl ⟨rfl, rfl, rfl, rfl, rfl⟩ rfl rfl rfl rfl rfl (by kernel_rfl) Try.func4 (by kernel_rfl)
    (of_decide_eq_true (by kernel_rfl)) (by unfold Func.isWrapper; first | (rw [if_pos (by decide +kernel)]; kernel_rfl) | (rw [if_neg (by decide +kernel)]; exact ⟨rfl, rfl⟩))
    (fun os started H enc _ => lifted os started H enc)
end Go.Proofs.Ytbkejdahihijeaa.quoteReads
