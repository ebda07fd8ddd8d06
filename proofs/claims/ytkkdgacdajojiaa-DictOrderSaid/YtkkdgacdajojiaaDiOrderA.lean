/- Bytes that come in; a row of numbers of the law's own. -/
import Derived.Test.YtkkdgacdajojiaaBase
import Derived.Test.YtkkdgacdajojiaaDiOpen
import Derived.Test.YtkkdgacdajojiaaDiOrder
namespace Go.Proofs.Ytkkdgacdajojiaa
set_option maxRecDepth 20000
set_option maxRecDepth 20000
open Go.ChangeShapes Go.WideShapes Go.ChangeAt Go.RowKit

/-- A list of bytes that came in. -/
def BySl (w : World) (v : Value) (l : List Nat) : Prop :=
  ∃ A c, v = .slice A l.length c ∧ l.length ≤ c ∧ c ≤ 9223372036854775807 ∧ (l ≠ [] → ∃ a, A = some a ∧ a.block < w.heap.size ∧ ∀ (i x : Nat), l[i]? = some x → w.cell? (a.add i) = some (.int .u8 x) ∧ x ≤ 255)
theorem open_by {H : Type} {enc : TypeId × Value → H} {w : World} {base : Nat} {spare : Nat → Bool} {held : Bool} {r : Reach} {b0 : Nat} {v : Value} {d : DataW H} {p : List MemPlace} (hv : Value.okWide Try.prog w r b0 39 v) (h : DataW.Trod enc Try.prog w base spare held 39 v d p) :
    ∃ (A : Option Addr) (c : Nat) (l : List Nat), v = .slice A l.length c ∧ BySl w (.slice A l.length c) l := by
  obtain ⟨a, len, cap, rfl⟩ := okWide_slice Try.underlying39 hv
  obtain ⟨fuel, hf⟩ := h
  rcases Go.ChangeShapes.open_ints Try.underlying39 Try.underlying5 (by kernel_rfl) hf with ⟨hcs, _⟩ | ⟨a', len', cap', zs, hcs, _, hl, hm, hz, _, hcell, hwz⟩
  · simp [Value.cells] at hcs
    obtain ⟨rfl, rfl, rfl⟩ := hcs
    exact ⟨none, 0, [], rfl, none, 0, rfl, Nat.le_refl _, by decide, fun h => absurd rfl h⟩
  · simp [Value.cells] at hcs
    obtain ⟨rfl, rfl, rfl⟩ := hcs
    have hlen : len ≤ zs.length := by rw [hz]; split <;> omega
    have hll : ((zs.take len).map Int.toNat).length = len := by rw [List.length_map, List.length_take]; omega
    refine ⟨some a', cap, (zs.take len).map Int.toNat, by rw [hll], some a', cap, rfl, by rw [hll]; exact hl, by unfold maxLen at hm; omega, fun hne => ?_⟩
    have h0 : 0 < len := by rw [← hll]; exact List.length_pos_iff.2 hne
    refine ⟨a', rfl, ?_, fun i x hx => ?_⟩
    · have := World.block_lt_of_cell? w _ (hcell 0 (by omega))
      rwa [Go.ChangeShapes.block_add] at this
    · rw [List.getElem?_map] at hx
      obtain ⟨z, hz1, hz2⟩ := Option.map_eq_some_iff.1 hx
      have hi : i < len := by
        have := (List.getElem?_eq_some_iff.1 hz1).1
        rw [List.length_take] at this; omega
      rw [List.getElem?_take_of_lt hi] at hz1
      have hc := hcell i (by omega)
      have e : zs.getD i 0 = z := by rw [List.getD_eq_getElem?_getD, hz1]; rfl
      rw [e] at hc
      obtain ⟨b1, b2⟩ := of_wf_u8 (hwz z (List.mem_of_getElem? hz1))
      subst hz2
      have ez : ((z.toNat : Nat) : Int) = z := by omega
      exact ⟨by rw [hc, ez], by omega⟩

theorem int64_info : (Try.prog.info? 2).map (fun i => (i.zero, i.size, i.bytes)) = some (some (.int .i64 0), 1, 8) := by kernel_rfl
/-- A row of numbers: so many, from the block's start on. -/
def RowN (w : World) (g : Nat) (O : List Int) : Prop := ∃ cur : List Value, w.heap[g]? = some (.cells cur.toArray 2 (0, 0)) ∧ cur.take O.length = O.map (Value.int .i64) ∧ O.length ≤ cur.length
theorem RowN.keep {w w' : World} {g : Nat} {O : List Int} (h : RowN w g O) (hb : w'.heap[g]? = w.heap[g]?) : RowN w' g O := by
  obtain ⟨cur, h1, h2⟩ := h
  exact ⟨cur, hb.trans h1, h2⟩
theorem RowN.lt {w : World} {g : Nat} {O : List Int} (h : RowN w g O) : g < w.heap.size := by
  obtain ⟨cur, h1, h2⟩ := h
  exact mem_block_lt h1
theorem RowN.cell {w : World} {g : Nat} {O : List Int} (h : RowN w g O) {i : Nat} {x : Int} (hx : O[i]? = some x) : w.cell? ⟨g, i, none⟩ = some (.int .i64 x) ∧ w.frozen? ⟨g, i, none⟩ = false := by
  obtain ⟨cur, h1, h2, h3⟩ := h
  have hi : i < O.length := (List.getElem?_eq_some_iff.1 hx).1
  have e : cur[i]? = some (.int .i64 x) := by
    have := congrArg (·[i]?) h2
    simp only [List.getElem?_take_of_lt hi, List.getElem?_map, hx, Option.map_some] at this
    exact this
  exact ⟨by simp [World.cell?, h1, e], by simp [World.frozen?, h1]⟩
theorem RowN.set {w : World} {g : Nat} {O : List Int} (h : RowN w g O) {i : Nat} (hi : i < O.length) (x : Int) : RowN (w.setCell ⟨g, i, none⟩ (.int .i64 x)) g (O.set i x) := by
  obtain ⟨cur, h1, h2, h3⟩ := h
  refine ⟨cur.set i (.int .i64 x), ?_, ?_, by simpa using h3⟩
  · rw [setCell_eq_setRow w g _ _ _ _ _ h1, setRow_heap w g _ _ _ _ h1]
    simp [Array.setIfInBounds, show i < cur.length by omega]
  · rw [List.length_set, List.take_set, h2, List.map_set]
theorem rowN_of_own {w : World} {base n : Nat} {v : Value} {O : List Int} (h : w.ownsRow base 2 1 v n (O.map (Value.int .i64))) (hn : n = O.length) (h0 : 0 < n) : ∃ g c, v = .slice (some ⟨g, 0, none⟩) n c ∧ RowN w g O ∧ base ≤ g := by
  rcases h.2 with ⟨_, h1⟩ | ⟨g, cap, cur, rfl, hb, hg, hc, hm, hs, ht⟩
  · omega
  · refine ⟨g, cap, rfl, ⟨cur.toList, by simpa using hg, ?_, ?_⟩, hb⟩
    · rw [← hn]; simpa using ht
    · rw [← hn]; simp; omega
/-- The numbers from 1 on. -/
def upTo (j : Nat) : List Int := (List.range j).map fun i : Nat => (i : Int) + 1
theorem upTo_len (j : Nat) : (upTo j).length = j := by simp [upTo]
theorem upTo_succ (j : Nat) : upTo (j + 1) = upTo j ++ [(j : Int) + 1] := by simp [upTo, List.range_succ]
theorem upTo_mem {j : Nat} {x : Int} : x ∈ upTo j ↔ 1 ≤ x ∧ x ≤ j := by
  simp only [upTo, List.mem_map, List.mem_range]
  constructor
  · rintro ⟨i, hi, rfl⟩; omega
  · rintro ⟨h1, h2⟩; exact ⟨(x - 1).toNat, by omega, by omega⟩
theorem upTo_nodup : ∀ j : Nat, (upTo j).Nodup
  | 0 => by simp [upTo]
  | j + 1 => by
    rw [upTo_succ]
    refine List.nodup_append.2 ⟨upTo_nodup j, by simp, ?_⟩
    intro a ha b hb e
    simp at hb
    have := (upTo_mem.1 ha).2
    omega
end Go.Proofs.Ytkkdgacdajojiaa
