/- ParseKnown's other sources, as plain facts. No walk. -/
import Derived.Test.YtebkdegcifkigaaGreatDoorParTold
namespace Go.Proofs.YtebkdegcifkigaaGreatDoor.P5
set_option maxRecDepth 20000
open Go.RowKit

def isBad (n : Nat) (t : List UInt8) (c : Int) (l : Nat) : Bool :=
  match sourceF n t with
  | .bad c' l' => c' == c && l' == l
  | _ => false
theorem bad_of {n : Nat} {t : List UInt8} {c : Int} {l : Nat} (h : isBad n t c l = true) : sourceF n t = .bad c l := by
  unfold isBad at h
  split at h
  · rename_i c' l' e
    simp only [Bool.and_eq_true, beq_iff_eq] at h
    rw [e, h.1, h.2]
  · cases h
theorem ex0 : shapesAs 300 [102, 40, 120, 41, 46, 121, 91, 97, 93, 40, 34, 115, 34, 41] [40, 40, 40, 40, 102, 40, 120, 44, 41, 41, 91, 39, 121, 93, 41, 91, 97, 93, 41, 40, 39, 115, 44, 41, 41] = true := by kernel_rfl
theorem ex1 : shapesAs 300 [40, 97, 41] [97] = true := by kernel_rfl
theorem ex2 : shapesAs 300 [97, 32, 46, 46, 32, 98, 32, 43, 32, 99, 32, 46, 46, 32, 100] [40, 97, 32, 46, 46, 32, 40, 40, 98, 32, 43, 32, 99, 41, 32, 46, 46, 32, 100, 41, 41] = true := by kernel_rfl
theorem ex3 : shapesAs 300 [97, 32, 60, 32, 98, 32, 61, 61, 32, 99] [40, 40, 97, 32, 60, 32, 98, 41, 32, 61, 61, 32, 99, 41] = true := by kernel_rfl
theorem ex4 : shapesAs 300 [45, 32, 97, 32, 46, 46, 32, 45, 32, 98] [40, 40, 45, 32, 97, 41, 32, 46, 46, 32, 40, 45, 32, 98, 41, 41] = true := by kernel_rfl
theorem ex5 : shapesAs 300 [40, 97, 32, 111, 114, 32, 98, 41, 32, 97, 110, 100, 32, 99] [40, 40, 97, 32, 111, 114, 32, 98, 41, 32, 97, 110, 100, 32, 99, 41] = true := by kernel_rfl
theorem ex6 : shapesAs 300 [123, 125] [123, 125] = true := by kernel_rfl
theorem ex7 : shapesAs 300 [102, 117, 110, 99, 116, 105, 111, 110, 40, 41, 32, 101, 110, 100] [63] = true := by kernel_rfl
theorem ex8 : shapesAs 300 [40, 102, 41, 40, 41] [40, 102, 40, 41, 41] = true := by kernel_rfl
def bdL : List ByteArray := [⟨#[40, 97, 41, 32, 61, 32, 49]⟩, ⟨#[102]⟩, ⟨#[114, 101, 116, 117, 114, 110, 32, 49, 32, 50]⟩, ⟨#[108, 111, 99, 97, 108, 32, 49]⟩, ⟨#[123, 125, 32, 61, 32, 50]⟩, ⟨#[102, 40, 41, 32, 61, 32, 49]⟩, ⟨#[97, 46, 98]⟩, ⟨#[40, 102, 40, 41, 41]⟩, ⟨#[49, 32, 61, 32, 50]⟩, ⟨#[101, 110, 100]⟩, ⟨#[105, 102, 32, 97, 32, 116, 104, 101, 110]⟩, ⟨#[120, 32, 61, 32]⟩, ⟨#[120, 32, 61, 32, 40, 49]⟩, ⟨#[102, 40, 97, 44, 41]⟩, ⟨#[102, 40, 44, 41]⟩, ⟨#[116, 32, 61, 32, 123, 49, 44, 125]⟩, ⟨#[116, 32, 61, 32, 123, 44, 125]⟩, ⟨#[116, 32, 61, 32, 123, 91, 49, 93, 32, 50, 125]⟩, ⟨#[102, 117, 110, 99, 116, 105, 111, 110, 32, 102, 40, 97, 44, 41, 32, 101, 110, 100]⟩, ⟨#[102, 117, 110, 99, 116, 105, 111, 110, 32, 40, 97, 41, 32, 101, 110, 100]⟩, ⟨#[108, 111, 99, 97, 108, 32, 102, 117, 110, 99, 116, 105, 111, 110, 40, 41, 32, 101, 110, 100]⟩, ⟨#[102, 111, 114, 32, 105, 32, 61, 32, 49, 32, 100, 111, 32, 101, 110, 100]⟩, ⟨#[119, 104, 105, 108, 101, 32, 97, 32, 101, 110, 100]⟩, ⟨#[116, 114, 121, 32, 97, 40, 41, 32, 101, 110, 100]⟩, ⟨#[114, 101, 116, 117, 114, 110, 32, 114, 101, 116, 117, 114, 110]⟩, ⟨#[120, 32, 61, 32, 97, 32, 98, 32, 61, 32, 50, 32, 99]⟩, ⟨#[98, 114, 101, 97, 107, 32, 49]⟩, ⟨#[97, 44, 32, 98, 32, 61, 32, 49]⟩, ⟨#[100, 111, 32, 108, 111, 99, 97, 108, 32, 101, 110, 100, 32, 101, 110, 100]⟩, ⟨#[120, 32, 61, 32, 110, 111, 116]⟩, ⟨#[120, 32, 61, 32, 49, 32, 43]⟩, ⟨#[120, 32, 61, 32, 97, 46, 49]⟩, ⟨#[120, 32, 61, 32, 97, 46, 101, 110, 100]⟩, ⟨#[101, 108, 115, 101, 105, 102]⟩]
def bdT (k : Nat) : ByteArray := bdL.getD k ⟨#[]⟩
theorem bd_all : ((List.range 34).all fun k => isBad 300 (bdT k).data.toList 4 0) = true := by kernel_rfl
theorem bd_at {k : Nat} (hk : k < 34) : sourceF 300 (bdT k).data.toList = .bad 4 0 := bad_of (List.all_eq_true.1 bd_all k (List.mem_range.2 hk))
theorem to0 : sourceF 300 [97, 32, 61, 32, 49, 10, 98, 32, 61, 32, 10, 10] = .bad 4 3 := bad_of (by kernel_rfl)
theorem to1 : sourceF 300 [97, 10, 61, 32, 49, 10, 49] = .bad 4 2 := bad_of (by kernel_rfl)
theorem to2 : sourceF 300 [97, 32, 61, 32, 36] = .bad 14 0 := bad_of (by kernel_rfl)
theorem to3 : sourceF 300 [102, 40, 10, 10, 49, 32, 50, 41] = .bad 4 2 := bad_of (by kernel_rfl)
theorem deep_ok : shapesAs 1000 (List.replicate 64 40 ++ [97] ++ List.replicate 64 41) [97] = true := by kernel_rfl
theorem deep_long : sourceF 1000 ([114, 101, 116, 117, 114, 110, 10, 40] ++ List.replicate 64 40 ++ [97]) = .bad 3 1 := bad_of (by kernel_rfl)
theorem deep_form : sourceF 1000 (retL ++ List.replicate 64 40) = .bad 4 0 := bad_of (by kernel_rfl)
/-- A row of texts of the call's own. -/
structure TextsAt (w : World) (B n : Nat) (f : Nat → ByteArray) : Prop where
  lt : B < w.heap.size
  cell : ∀ k, k < n → w.cell? ⟨B, k, none⟩ = some (.string (f k))
theorem texts_of (w : World) (cs : Array Value) (E : TypeId) {n : Nat} {f : Nat → ByteArray} (h : cs = ((List.range n).map fun k => Value.string (f k)).toArray) : TextsAt (w.alloc (.cells cs E)) w.heap.size n f := by
  refine ⟨by simp, fun k hk => ?_⟩
  subst h
  simp [go_sem, hk]
theorem TextsAt.below {w w' : World} {B n : Nat} {f : Nat → ByteArray} (h : TextsAt w B n f) (hb : Below w.heap.size w w') : TextsAt w' B n f :=
  ⟨Nat.lt_of_lt_of_le h.lt hb.size, fun k hk => (hb.cell (p := ⟨B, k, none⟩) h.lt).trans (h.cell k hk)⟩
end Go.Proofs.YtebkdegcifkigaaGreatDoor.P5
