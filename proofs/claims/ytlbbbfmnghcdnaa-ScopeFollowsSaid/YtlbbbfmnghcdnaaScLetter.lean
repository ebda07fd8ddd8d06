/- letter: a name of a number. -/
import Derived.Test.YtlbbbfmnghcdnaaScChainQ
import Derived.OwnWalk
import Derived.Laws.OwnMore
import Derived.Lib.UnsafeStr
namespace Go.Proofs.Ytlbbbfmnghcdnaa
set_option maxRecDepth 20000
open Go.RowKit Go.Maps

theorem push_all : ∀ (l : List UInt8) (s : ByteArray), (l.map fun b => (b.toNat : Int)).foldl (fun r n => r.push (UInt8.ofNat n.toNat)) s = ⟨(s.data.toList ++ l).toArray⟩
  | [], s => by simp
  | c :: l, s => by
    rw [List.map_cons, List.foldl_cons, push_all l]
    simp
theorem str_of_own {w : World} {base : Nat} {v : Value} {l : List UInt8} (h : w.ownsRow base 5 1 v l.length (Lib.byteCells l)) : (convert 22 9 v).run Try.prog w = .ok (.string ⟨l.toArray⟩) w := by
  have h0 := h
  rcases h.2 with ⟨rfl, h1⟩ | ⟨g, cap, cur, rfl, _, hg, _⟩
  · have : l = [] := List.length_eq_zero_iff.1 h1
    subst this
    rw [run_convert_bytes_string _ 22 9 5 _ _ _ Try.underlying22 Try.underlying5 Try.underlying9]
    rfl
  · rw [run_convert_bytes_string _ 22 9 5 _ _ _ Try.underlying22 Try.underlying5 Try.underlying9]
    have e : Lib.byteCells l = (l.map fun b => (b.toNat : Int)).map (Value.int .u8) := by simp [Lib.byteCells]
    have hc := h0.cells rfl
    have hl := run_loadCells_list (P := Try.prog) w ⟨g, 0, none⟩ (Lib.byteCells l) (fun j u hu => by have := hc j u hu; simpa [Addr.add] using this)
    rw [Lib.byteCells_length] at hl
    rw [run_bytesToString w _ _ _ (l.map fun b => (b.toNat : Int)) (by rw [hl, e]), push_all]
    rfl
theorem own_new (w : World) (l : List UInt8) (n : Nat) (hn : l.length = n) (hm : n ≤ maxLen) : (w.alloc (.cells (Lib.byteCells l).toArray 5)).ownsRow w.heap.size 5 1 (.slice (some ⟨w.heap.size, 0, none⟩) n n) n (Lib.byteCells l) := by
  refine ⟨by simp [Lib.byteCells_length, hn], .inr ⟨w.heap.size, n, (Lib.byteCells l).toArray, rfl, Nat.le_refl _, (MapKept.heap_alloc w _).1, Nat.le_refl _, hm, by simp [Lib.byteCells_length, hn], ?_⟩⟩
  rw [List.take_of_length_le (by simp [Lib.byteCells_length, hn])]
theorem three_bytes (x y z : UInt8) : ((⟨#[x]⟩ : ByteArray) ++ ⟨#[y, z]⟩) = ⟨[x, y, z].toArray⟩ := by
  apply ByteArray.ext
  first
    | (simp; done)
    | (rw [ByteArray.data_append]; rfl)
    | rfl
theorem byte_of (k : Nat) (hk : k < 26) : ((97 + UInt8.ofNat k : UInt8).toNat : Int) = 97 + (k : Int) := by
  have : ∀ k, k < 26 → ((97 + UInt8.ofNat k : UInt8).toNat) = 97 + k := by decide
  rw [this k hk]; simp
theorem letter_any (n : Nat) (hn : n < 600) (w : World) : Calls Try.prog 26 #[iV n] w fun e w' => e = .returned (sV (letB n)) ∧ Below w.heap.size w w' := by
  have h1 : ((n : Int) / 26 % 26) = ((n / 26 % 26 : Nat) : Int) := by omega
  have h2 : ((n : Int) % 26) = ((n % 26 : Nat) : Int) := by omega
  have C := str_of_own (own_new w [97 + UInt8.ofNat (n / 26 % 26), 97 + UInt8.ofNat (n % 26)] 2 rfl (by decide))
  have eb : (Lib.byteCells [97 + UInt8.ofNat (n / 26 % 26), 97 + UInt8.ofNat (n % 26)]).toArray = #[.int .u8 (97 + (n : Int) / 26 % 26), .int .u8 (97 + (n : Int) % 26)] := by
    simp only [Lib.byteCells, List.map_cons, List.map_nil]
    rw [byte_of _ (Nat.mod_lt _ (by decide)), byte_of _ (Nat.mod_lt _ (by decide)), ← h1, ← h2]
  rw [eb] at C
  clear h1 h2 eb
  go_enter Try.func26, Try.ntmps26
  go_wp2
  go_ret
  exact ⟨congrArg (fun x => Ending.returned (.string x)) (three_bytes _ _ _), below_alloc _ _⟩
end Go.Proofs.Ytlbbbfmnghcdnaa
