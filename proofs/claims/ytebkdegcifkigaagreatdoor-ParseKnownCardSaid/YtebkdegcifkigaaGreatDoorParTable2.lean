/- table; and so every production, at every fuel. -/
import Derived.Test.YtebkdegcifkigaaGreatDoorParTable
namespace Go.Proofs.YtebkdegcifkigaaGreatDoor.P5
set_option maxRecDepth 20000
open Go.RowKit Go.Maps

set_option maxHeartbeats 8000000 in
theorem table_step {n : Nat} (S : ∀ m, m ≤ n → Spec m) (hn : n ≤ 1099511627776) {w : World} {p d : Nat} {ts : List Tok} (h : PAt w p d ts) (hD : parseF (n + 1) .table d ts ≠ .out) :
    Calls Tryz.prog 161 #[pV p] w (Ends p d [p] (parseF (n + 1) .table d ts) (VE w.heap.size) w) := by
  have hpl := h.lt
  have hmf : ∀ (fn : Fn) (first cap : Array Value) (w : World), (Instr.makeFunc fn first cap).run Tryz.prog w = .ok (.func fn first cap) w := fun _ _ _ _ => rfl
  unfold parseF at hD ⊢
  simp only [] at hD ⊢
  have D0 : parseF n (.list [123] [125] 2) d ts ≠ .out := bind_done hD
  cases n with
  | zero => exact absurd rfl D0
  | succ n =>
  have P1 : Past [p] w (((w.alloc (.cells #[pV p] 90)).alloc (.cells #[iV 12, iV (linT ts), iV 0, sV [], .pointer none, .pointer none, .slice none 0 0, .slice none 0 0, .slice none 0 0, .slice none 0 0] 54)).alloc (.cells #[pV (w.heap.size + 1)] 40)) := (((Past.refl _ _).alloc _).alloc _).alloc _
  have hX0 : ExC (((w.alloc (.cells #[pV p] 90)).alloc (.cells #[iV 12, iV (linT ts), iV 0, sV [], .pointer none, .pointer none, .slice none 0 0, .slice none 0 0, .slice none 0 0, .slice none 0 0] 54)).alloc (.cells #[pV (w.heap.size + 1)] 40)) (w.heap.size + 1) 12 (linT ts) 0 [] (.pointer none) (.pointer none) (.slice none 0 0) (.slice none 0 0) (.slice none 0 0) (.slice none 0 0) := by
    have hx := exC_new (w.alloc (.cells #[pV p] 90)) 12 (linT ts) 0 [] (.pointer none) (.pointer none) (.slice none 0 0) (.slice none 0 0) (.slice none 0 0) (.slice none 0 0) 54
    have hz : (w.alloc (.cells #[pV p] 90)).heap.size = w.heap.size + 1 := by simp
    rw [hz] at hx
    exact hx.keep (Below.heap_alloc _ _ _ hx.lt)
  have I0 : ITab p w.heap.size (w.heap.size + 2) (w.heap.size + 1) (w.heap.size + 3) (linT ts) [] (((w.alloc (.cells #[pV p] 90)).alloc (.cells #[iV 12, iV (linT ts), iV 0, sV [], .pointer none, .pointer none, .slice none 0 0, .slice none 0 0, .slice none 0 0, .slice none 0 0] 54)).alloc (.cells #[pV (w.heap.size + 1)] 40)) :=
    ⟨by simp [go_sem], by simp [go_sem], by simp, _, _, _, _, hX0, Pair.nil _ _ _ _⟩
  have L := list_any (K := 171) (c1 := w.heap.size) (c2 := w.heap.size + 2) [123] [125] (by decide) (by decide) (ITab p w.heap.size (w.heap.size + 2) (w.heap.size + 1) (w.heap.size + 3) (linT ts)) w P1 hpl (w.heap.size + 3) (by simp)
    (fun acc w1 w2 hi hw => hi.past hw (by omega) (by omega) (by omega) (by omega))
    (fun m d q acc w1 ts hm ha hi hwo hlq hc h hD => table1_any (fun k hk => S k (by omega)) hpl (by omega) (by omega) (by omega) (by omega) (by omega) (by omega) (by omega) (by omega) (by omega) hi hwo hlq hc h hD)
    (fun args w => by simp [go_sem]) (((h.alloc _).alloc _).alloc _) I0 D0
  have L := Lib.hid L
  have HL := Lib.hid (line_any (h.alloc (.cells #[pV p] 90)))
  generalize parseF (n + 1) (.list [123] [125] 2) d ts = r0 at hD D0 L ⊢
  clear S P1 hX0 I0 h
  cases r0 with
  | out => exact absurd rfl D0
  | bad c l =>
    clear hD D0
    go_enter Tryz.func161, Tryz.ntmps161
    go_wp2_with (first
      | (go_at_call 40; (with_reducible refine HL.out.mono ?_); rintro e w1 ⟨rfl, hq⟩; obtain rfl := hq.symm)
      | (go_at_call 139; (with_reducible refine L.out.mono ?_); rintro e wb hB; obtain ⟨b', rfl, hb1, hb2, hb3, hb4⟩ := hB))
    exact ⟨rfl, b', rfl, hb1, hb2, hb3, hb4⟩
  | ok x0 ts0 =>
    clear hD D0
    go_enter Tryz.func161, Tryz.ntmps161
    go_wp2_with (first
      | (go_at_call 40; (with_reducible refine HL.out.mono ?_); rintro e w1 ⟨rfl, hq⟩; obtain rfl := hq.symm)
      | (go_at_call 139; (with_reducible refine L.out.mono ?_); rintro e w2 ⟨_, rfl, ⟨rfl, acc, rfl, hi⟩, hp2, hw2⟩; obtain ⟨cq2, cf2, hlo, vk, va, xs, ys, hX2, hO⟩ := hi))
    go_ret
    have hV := hO.sl
    exact ⟨_, rfl, ⟨at_ex hX2 ⟨by omega, hX2.lt⟩ rfl rfl (hV.1.past (Past.refl [] _) (by simp) (by omega)) (hV.2.past (Past.refl [] _) (by simp) (by omega)) (sl_nil _ _) (sl_nil _ _), rfl⟩, hp2, hw2⟩
theorem spec (n : Nat) (hn : n ≤ 1099511627776) : Spec n := spec_all (fun _ hn S _ _ _ _ h hD => table_step S hn h hD) n hn n (Nat.le_refl _)
/-- The parser, at any fuel that is enough. -/
theorem Parse_all (n : Nat) (hn : n ≤ 1099511627776) (s : ByteArray) (w : World) (hE : Env4 w) (hD : sourceF n s.data.toList ≠ .out) :
    Calls Tryz.prog 8 #[.string s] w (GivesP (sourceF n s.data.toList) w) := Parse_any (spec n hn) s w hE hD
end Go.Proofs.YtebkdegcifkigaaGreatDoor.P5
