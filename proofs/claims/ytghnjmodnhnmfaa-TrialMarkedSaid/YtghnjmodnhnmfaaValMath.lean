/- Plain words on values: what may be, what is an object's, true, a key; the names of kinds and builtins. No walk, no program. -/
import Derived.Test.YtghnjmodnhnmfaaBase
import Derived.WalkKit
namespace Go.Proofs.Ytghnjmodnhnmfaa
set_option maxRecDepth 20000
open Go.RowKit

def mayB (k n : Int) : Bool := decide ((k = 0 ∨ k = 1) ∧ n = 0 ∨ k = 2 ∧ 0 ≤ n ∧ n ≤ 1 ∨ k = 3 ∨ k = 4 ∧ 0 ≤ n ∧ n ≤ 12 ∨ 5 ≤ k ∧ k ≤ 9 ∧ 1 ≤ n ∧ n ≤ 2147483647)
def refB (k n : Int) : Bool := decide (mayB k n = true ∧ 5 ≤ k)
def keyB (k n : Int) : Bool := decide (mayB k n = true ∧ 1 < k)
def truthB (k n : Int) : Bool := decide (mayB k n = true ∧ 1 < k ∧ ¬ (k = 2 ∧ n = 0))
theorem mayB_iff {k n : Int} : mayB k n = true ↔ ((k = 0 ∨ k = 1) ∧ n = 0 ∨ k = 2 ∧ 0 ≤ n ∧ n ≤ 1 ∨ k = 3 ∨ k = 4 ∧ 0 ≤ n ∧ n ≤ 12 ∨ 5 ≤ k ∧ k ≤ 9 ∧ 1 ≤ n ∧ n ≤ 2147483647) := by simp [mayB]
theorem refB_iff {k n : Int} : refB k n = true ↔ mayB k n = true ∧ 5 ≤ k := by simp [refB]
theorem keyB_iff {k n : Int} : keyB k n = true ↔ mayB k n = true ∧ 1 < k := by simp [keyB]
theorem truthB_iff {k n : Int} : truthB k n = true ↔ mayB k n = true ∧ 1 < k ∧ ¬ (k = 2 ∧ n = 0) := by
  unfold truthB; exact decide_eq_true_iff
theorem bool_eq {a : Bool} {p : Prop} [Decidable p] (h : a = true ↔ p) : a = decide p := by
  cases a <;> simp at h <;> simp [h]

def kindL : Nat → List UInt8
  | 0 => [110, 111, 110, 101] | 1 => [110, 105, 108] | 2 => [98, 111, 111, 108] | 3 => [105, 110, 116] | 4 => [98, 117, 105, 108, 116, 105, 110] | 5 => [115, 116, 114, 105, 110, 103]
  | 6 => [116, 97, 98, 108, 101] | 7 => [102, 117, 110, 99, 116, 105, 111, 110] | 8 => [99, 111, 114, 111, 117, 116, 105, 110, 101] | 9 => [99, 101, 108, 108]
  | _ => []
def libL : Nat → List UInt8
  | 0 => [111, 117, 116] | 1 => [101, 114, 114, 111, 114] | 2 => [116, 121, 112, 101] | 3 => [115, 101, 116, 109, 101, 116, 97] | 4 => [103, 101, 116, 109, 101, 116, 97] | 5 => [114, 97, 119, 103, 101, 116]
  | 6 => [114, 97, 119, 115, 101, 116] | 7 => [110, 101, 120, 116] | 8 => [99, 111, 108, 108, 101, 99, 116] | 9 => [99, 114, 101, 97, 116, 101] | 10 => [114, 101, 115, 117, 109, 101] | 11 => [121, 105, 101, 108, 100] | 12 => [115, 116, 97, 116, 117, 115]
  | _ => []
def kindT (k : Nat) : ByteArray := ⟨(kindL k).toArray⟩
def libT (k : Nat) : ByteArray := ⟨(libL k).toArray⟩
def nameB (k : Int) : ByteArray := if 0 ≤ k ∧ k ≤ 9 then kindT k.toNat else ⟨#[]⟩
def libB (k : Int) : ByteArray := if 0 ≤ k ∧ k ≤ 12 then libT k.toNat else ⟨#[]⟩
def libI (t : ByteArray) : Int := match (List.range 13).find? (fun k => (libT k).toList == t.toList) with
  | some k => k
  | none => -1
theorem libI_at {t : ByteArray} {k : Nat} (hk : k < 13) (h : ((libT k).toList == t.toList) = true) (hn : ∀ j, j < k → ((libT j).toList == t.toList) = false) : libI t = k := by
  unfold libI
  have e : (List.range 13).find? (fun k => (libT k).toList == t.toList) = some k := by
    rw [List.find?_range_eq_some]
    exact ⟨h, by simpa using hk, fun j hj => by simp [hn j hj]⟩
  rw [e]
theorem libI_none {t : ByteArray} (hn : ∀ j, j < 13 → ((libT j).toList == t.toList) = false) : libI t = -1 := by
  unfold libI
  have e : (List.range 13).find? (fun k => (libT k).toList == t.toList) = none := by
    rw [List.find?_range_eq_none]
    intro j hj; simp [hn j hj]
  rw [e]
end Go.Proofs.Ytghnjmodnhnmfaa
