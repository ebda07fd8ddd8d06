/- 'works' of the statements on quoted texts: a string with all kinds of bytes, there and back. -/
import Derived.Test.YtbkejdahihijeaaQuoteRefU
namespace Go.Proofs.Ytbkejdahihijeaa
open Go.RowKit

theorem works_unq : unqL [34, 97, 92, 110, 92, 120, 48, 48, 92, 34, 92, 92, 34] = ([97, 10, 0, 34, 92], 0) := by decide
theorem works_quote : quoteL [97, 10, 0, 34, 92] = [34, 97, 92, 110, 92, 120, 48, 48, 92, 34, 92, 92, 34] := by decide
/-- A text that is cut at so many bytes. -/
theorem cut_size (s : ByteArray) (m : Nat) : (s.extract 0 (min (s.size : Int) (m : Int)).toNat).size ≤ m := by
  rw [← size_toList, Lib.extract_data, List.length_take]; omega
/-- works. -/
theorem works_true (w : World) : Calls Try.prog 10 #[] w fun e w' => e = .returned (.bool true) ∧ Below w.heap.size w w' := by
  have U := Lib.hid (fun w => Unquote_any ⟨#[34, 97, 92, 110, 92, 120, 48, 48, 92, 34, 92, 92, 34]⟩ w (by decide))
  have Q := Lib.hid (fun w => Quote_any ⟨#[97, 10, 0, 34, 92]⟩ w (by decide))
  rw [works_unq] at U
  rw [works_quote] at Q
  go_enter Try.func10, Try.ntmps10
  go_wp2_with (first
    | (go_at_call 11; refine (U.out _).mono ?_; rintro e w1 ⟨rfl, hb1⟩)
    | (go_at_call 8; refine (Q.out _).mono ?_; rintro e w2 ⟨rfl, hb2⟩))
  go_ret
  exact ⟨rfl, hb1.trans (hb2.mono hb1.size)⟩
end Go.Proofs.Ytbkejdahihijeaa
