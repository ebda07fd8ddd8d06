/- The contracts of the document's own digits and text of a number: they are Lib.decDigits and Lib.itoa; what lay below stands. -/
import Derived.Test.YteoccfmhpakplaaGreatDoorBase
import Derived.Test.YteoccfmhpakplaaGreatDoorRefDo
import Derived.Lib.ItoaNum
import Derived.WalkSpells
namespace Go.Proofs.YteoccfmhpakplaaGreatDoor
set_option maxRecDepth 20000
open Go.RowKit

theorem conv_byte (w : World) (n : Int) (T : TypeId) : (convert 36 9 (.slice (some ⟨w.heap.size, 0, none⟩) 1 1)).run Tryz.prog (w.alloc (.cells #[.int .u8 n] T)) = .ok (.string ⟨#[UInt8.ofNat n.toNat]⟩) (w.alloc (.cells #[.int .u8 n] T)) := by
  rw [run_convert_bytes_string _ 36 9 5 _ _ _ Tryz.underlying36 Tryz.underlying5 Tryz.underlying9]
  rw [run_bytesToString _ ⟨w.heap.size, 0, none⟩ 1 1 [n] (by simp [go_sem])]
  simp
  rfl
theorem decDigits_small {n : Nat} (h : n < 10) : Lib.decDigits n = [UInt8.ofNat (48 + n)] := by rw [Lib.decDigits, dif_pos h]
theorem decDigits_big {n : Nat} (h : ¬ n < 10) : Lib.decDigits n = Lib.decDigits (n / 10) ++ Lib.decDigits (n % 10) := by
  rw [Lib.decDigits, dif_neg h, decDigits_small (Nat.mod_lt _ (by decide))]
theorem decDigits_len : ∀ (k n : Nat), 0 < k → n < 10 ^ k → (Lib.decDigits n).length ≤ k
  | 0, _, h, _ => by omega
  | 1, n, _, h => by rw [decDigits_small (by omega)]; simp
  | k + 2, n, _, h => by
    by_cases hn : n < 10
    · rw [decDigits_small hn]; simp
    · rw [decDigits_big hn, List.length_append, decDigits_small (Nat.mod_lt n (by decide))]
      have := decDigits_len (k + 1) (n / 10) (by omega) (by rw [Nat.pow_succ] at h; omega)
      simp only [List.length_singleton]
      omega
theorem decDigits_bound {n : Nat} (h : n < 18446744073709551616) : (Lib.decDigits n).length ≤ 20 := decDigits_len 20 n (by omega) (by omega)
theorem ret_str {a b : ByteArray} (h : a = b) : Ending.returned (.string a) = .returned (.string b) := by rw [h]

end Go.Proofs.YteoccfmhpakplaaGreatDoor
