/- The document's own texts (tallowref03): the contracts of digit and Quote. -/
import Derived.Test.YteoccfmhpakplaaGreatDoorBase
import Derived.Test.YteoccfmhpakplaaGreatDoorQuoteUnq
import Derived.OwnWalk
import Derived.Laws.OwnMore
namespace Go.Proofs.YteoccfmhpakplaaGreatDoor
set_option maxRecDepth 20000
open Go.RowKit

theorem push_all : ∀ (l : List UInt8) (s : ByteArray), (l.map fun b => (b.toNat : Int)).foldl (fun r n => r.push (UInt8.ofNat n.toNat)) s = ⟨(s.data.toList ++ l).toArray⟩
  | [], s => by simp
  | c :: l, s => by
    rw [List.map_cons, List.foldl_cons, push_all l]
    simp
theorem str_of_own {w : World} {base : Nat} {v : Value} {l : List UInt8} (h : w.ownsRow base 5 1 v l.length (Lib.byteCells l)) : (convert 36 9 v).run Tryz.prog w = .ok (.string ⟨l.toArray⟩) w := by
  have h0 := h
  rcases h.2 with ⟨rfl, h1⟩ | ⟨g, cap, cur, rfl, _, hg, _⟩
  · have : l = [] := List.length_eq_zero_iff.1 h1
    subst this
    rw [run_convert_bytes_string _ 36 9 5 _ _ _ Tryz.underlying36 Tryz.underlying5 Tryz.underlying9]
    rfl
  · rw [run_convert_bytes_string _ 36 9 5 _ _ _ Tryz.underlying36 Tryz.underlying5 Tryz.underlying9]
    have e : Lib.byteCells l = (l.map fun b => (b.toNat : Int)).map (Value.int .u8) := by simp [Lib.byteCells]
    have hc := h0.cells rfl
    have hl := run_loadCells_list (P := Tryz.prog) w ⟨g, 0, none⟩ (Lib.byteCells l) (fun j u hu => by have := hc j u hu; simpa [Addr.add] using this)
    rw [Lib.byteCells_length] at hl
    rw [run_bytesToString w _ _ _ (l.map fun b => (b.toNat : Int)) (by rw [hl, e]), push_all]
    rfl
def valI (c : UInt8) : Nat := match hexO c with | some n => n | none => 16
theorem Rvalue_any (c : UInt8) (w : World) : Calls Tryz.prog 101 #[.int .u8 c.toNat] w fun e w' => e = .returned (.int .u8 (valI c)) ∧ w' = w := by
  have hc := c.toNat_lt
  unfold valI hexO
  by_cases h : 48 ≤ c.toNat ∧ c.toNat ≤ 57
  · rw [if_pos h]
    obtain ⟨h1, h2⟩ := h
    go_enter Tryz.func101, Tryz.ntmps101
    go_wp2_with fail
    go_ret
    exact ⟨ret_int (by omega), rfl⟩
  · rw [if_neg h]
    by_cases g : 97 ≤ c.toNat ∧ c.toNat ≤ 102
    · rw [if_pos g]
      obtain ⟨h1, h2⟩ := g
      go_enter Tryz.func101, Tryz.ntmps101
      go_wp2_with fail
      go_ret
      exact ⟨ret_int (by omega), rfl⟩
    · rw [if_neg g]
      go_enter Tryz.func101, Tryz.ntmps101
      go_wp2_with fail
      all_goals first | (exfalso; omega) | (go_ret; exact ⟨rfl, rfl⟩)
theorem byte_info : (Tryz.prog.info? 5).map (fun i => (i.zero, i.size, i.bytes)) = some (some (.int .u8 0), 1, 1) := by kernel_rfl
theorem cells_new (w : World) (l : List Value) (E : TypeId) : ∀ j u, l[j]? = some u → (w.alloc (.cells l.toArray E)).cell? ((⟨w.heap.size, 0, none⟩ : Addr).add j) = some u := by
  intro j u hu
  have : (⟨w.heap.size, 0, none⟩ : Addr).add j = ⟨w.heap.size, j, none⟩ := by unfold Addr.add; split <;> simp_all
  rw [this]
  simp [go_sem, hu]
theorem bytes_one (l : List UInt8) : ∀ u ∈ Lib.byteCells l, u.oneCell' = true := by
  intro u hu
  unfold Lib.byteCells at hu
  simp at hu
  obtain ⟨b, _, rfl⟩ := hu
  rfl
theorem own_new (w : World) (l : List UInt8) (n : Nat) (hn : l.length = n) (hm : n ≤ maxLen) : (w.alloc (.cells (Lib.byteCells l).toArray 5)).ownsRow w.heap.size 5 1 (.slice (some ⟨w.heap.size, 0, none⟩) n n) n (Lib.byteCells l) := by
  refine ⟨by simp [Lib.byteCells_length, hn], .inr ⟨w.heap.size, n, (Lib.byteCells l).toArray, rfl, Nat.le_refl _, (MapKept.heap_alloc w _).1, Nat.le_refl _, hm, by simp [Lib.byteCells_length, hn], ?_⟩⟩
  rw [List.take_of_length_le (by simp [Lib.byteCells_length, hn])]
/-- A row of bytes of the call's own that a text is laid in. -/
structure Row (w : World) (v : Value) (l : List UInt8) (w' : World) : Prop where
  own : w'.ownsRow w.heap.size 5 1 v l.length (Lib.byteCells l)
  below : Below w.heap.size w w'
theorem Row.alloc {w w1 : World} {v : Value} {l : List UInt8} (h : Row w v l w1) (o : Obj) : Row w v l (w1.alloc o) := ⟨h.own.alloc o, h.below.alloc h.below.size o⟩
/-- Behind an append. -/
theorem Row.more {w w1 w2 : World} {v v2 : Value} {l m : List UInt8} {o : Obj} {k : Nat} (h : Row w v l w1) (hk : m.length = k) (ho : w2.ownsRow w.heap.size 5 1 v2 (l.length + k) (Lib.byteCells l ++ Lib.byteCells m)) (hg : (w1.alloc o).grownBy w2 v.ownBlock) : Row w v2 (l ++ m) w2 := by
  refine ⟨?_, (h.alloc o).below.grown hg (h.alloc o).below.size (fun k hk => (h.own.lt k hk).1)⟩
  rw [List.length_append, hk, Lib.byteCells_append]; exact ho
theorem esc_10 {c : UInt8} (h : c = 10) : escL c = [92, 110] := by subst h; decide
theorem esc_9 {c : UInt8} (h : c = 9) : escL c = [92, 116] := by subst h; decide
theorem esc_92 {c : UInt8} (h : c = 92) : escL c = [92, 92] := by subst h; decide
theorem esc_34 {c : UInt8} (h : c = 34) : escL c = [92, 34] := by subst h; decide
theorem esc_self {c : UInt8} (h0 : 32 ≤ c.toNat) (h1 : c.toNat ≤ 126) (h2 : c ≠ 34) (h3 : c ≠ 92) : escL c = [c] := by
  have a2 : c.toNat ≠ 34 := fun e => h2 (UInt8.toNat_inj.1 e)
  have a3 : c.toNat ≠ 92 := fun e => h3 (UInt8.toNat_inj.1 e)
  unfold escL selfB
  rw [if_pos (by simp [h0, h1, a2, a3])]
theorem esc_hexed {c : UInt8} (h : c.toNat < 32 ∨ 126 < c.toNat) (h2 : c ≠ 10) (h3 : c ≠ 9) : escL c = [92, 120, hexB (c.toNat / 16), hexB (c.toNat % 16)] := by
  have hs : selfB c = false := by
    unfold selfB
    rcases h with h | h
    · rw [decide_eq_false (by omega : ¬ 32 ≤ c.toNat)]; rfl
    · rw [decide_eq_false (by omega : ¬ c.toNat ≤ 126)]; simp
  have h4 : c ≠ 92 := by rintro rfl; revert h; decide
  have h5 : c ≠ 34 := by rintro rfl; revert h; decide
  unfold escL
  rw [hs, if_neg (by simp)]
  unfold letterO
  rw [if_neg h2, if_neg h3, if_neg h4, if_neg h5]
theorem beq_byte {c d : UInt8} (h : c = d) : ((c.toNat : Int) == (d.toNat : Int)) = true := by rw [h]; simp
theorem bne_byte {c d : UInt8} (h : c ≠ d) : ((c.toNat : Int) == (d.toNat : Int)) = false := by
  rw [beq_eq_false_iff_ne]; intro e; exact h (UInt8.toNat_inj.1 (by omega))
end Go.Proofs.YteoccfmhpakplaaGreatDoor
