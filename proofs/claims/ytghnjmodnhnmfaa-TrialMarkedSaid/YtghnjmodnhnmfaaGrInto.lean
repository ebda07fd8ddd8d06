/- graph.Into. -/
import Derived.Test.YtghnjmodnhnmfaaBase
import Derived.Test.YtghnjmodnhnmfaaGrCount
import Derived.Laws.MakeOwn
import Derived.Laws.Tables
namespace Go.Proofs.Ytghnjmodnhnmfaa
set_option maxRecDepth 20000
set_option maxRecDepth 20000
open Go.RowKit Go.Maps

/-- Numbers, in memory that was there or that the call made. -/
def GivesI (l : List Int) (w : World) (e : Ending) (w' : World) : Prop := ∃ A c, e = .returned (.slice A l.length c) ∧ IntsAt w' A l ∧ Below w.heap.size w w'
theorem GivesI.of {l : List Int} {w w' : World} {e : Ending} (h : GivesInts l w e w') : GivesI l w e w' := by
  obtain ⟨v, rfl, ho, hb⟩ := h
  obtain ⟨A, c, rfl, hi⟩ := ints_of_own ho
  exact ⟨A, c, rfl, hi, hb⟩
/-- A row of n numbers, of which the first are l. -/
structure RowI (w : World) (b n : Nat) (l : List Int) : Prop where
  cur : ∃ cs : Array Value, w.heap[b]? = some (.cells cs 3 (0, 0)) ∧ cs.size = n ∧ ∀ (i : Nat) x, l[i]? = some x → cs[i]? = some (.int .i64 x)
  le : l.length ≤ n
theorem RowI.keep {w w' : World} {b n : Nat} {l : List Int} (h : RowI w b n l) (hb : w'.heap[b]? = w.heap[b]?) : RowI w' b n l := by
  obtain ⟨⟨cs, h1, h2⟩, h3⟩ := h
  exact ⟨⟨cs, hb.trans h1, h2⟩, h3⟩
theorem RowI.made (w : World) (n : Nat) (z : Array Value) : RowI (w.alloc (.cells (madeCells z n) 3 (0, 0))) w.heap.size n [] := ⟨⟨_, (Go.MapKept.heap_alloc w _).1, size_madeCells _ _, fun i x h => by simp at h⟩, by simp⟩
theorem RowI.lt {w : World} {b n : Nat} {l : List Int} (h : RowI w b n l) : b < w.heap.size := by
  obtain ⟨⟨cs, h1, h2⟩, h3⟩ := h
  exact (Array.getElem?_eq_some_iff.1 h1).1
theorem RowI.cell {w : World} {b n : Nat} {l : List Int} (h : RowI w b n l) {k : Nat} (hk : k < n) : (∃ v, w.cell? ⟨b, k, none⟩ = some v) ∧ w.frozen? ⟨b, k, none⟩ = false := by
  obtain ⟨⟨cs, h1, h2, h4⟩, h3⟩ := h
  subst h2
  exact ⟨⟨cs[k], by simp [World.cell?, h1, hk]⟩, by simp [World.frozen?, h1]⟩
theorem RowI.set {w : World} {b n : Nat} {l : List Int} (h : RowI w b n l) (hk : l.length < n) (x : Int) {k : Nat} (e : k = l.length) : RowI (w.setCell ⟨b, k, none⟩ (.int .i64 x)) b n (l ++ [x]) ∧ w.grownBy (w.setCell ⟨b, k, none⟩ (.int .i64 x)) (some b) := by
  obtain ⟨⟨cs, h1, h2, h4⟩, h3⟩ := h
  subst e
  rw [setCell_eq_setRow w b l.length cs _ _ _ h1]
  refine ⟨⟨⟨_, setRow_heap w b _ _ _ _ h1, by simpa using h2, fun i y hy => ?_⟩, by simp; omega⟩, ⟨rfl, rfl, rfl, by simp [World.setRow], fun i _ hne => setRow_other w b i _ (fun e => hne (by rw [e]))⟩⟩
  by_cases hi : i < l.length
  · rw [List.getElem?_append_left hi] at hy
    rw [Array.getElem?_setIfInBounds_ne (by omega)]
    exact h4 i y hy
  · have hl := (List.getElem?_eq_some_iff.1 hy).1
    simp at hl
    have : i = l.length := by omega
    subst this
    rw [List.getElem?_append_right (Nat.le_refl _)] at hy
    simp at hy
    subst hy
    rw [Array.getElem?_setIfInBounds_self_of_lt (by omega)]
theorem RowI.ints {w : World} {b n : Nat} {l : List Int} (h : RowI w b n l) : IntsAt w (some ⟨b, 0, none⟩) l := by
  intro i x hx
  have hl := h.lt
  obtain ⟨⟨cs, h1, h2, h4⟩, h3⟩ := h
  have e : (⟨b, 0, none⟩ : Addr).add i = ⟨b, i, none⟩ := by unfold Addr.add; split <;> simp_all
  exact ⟨_, rfl, hl, by rw [e]; simp [World.cell?, h1, h4 i x hx]⟩

def intoL (g : List OB) : List Int := if checkB g then (List.range g.length).map (fun (i : Nat) => cntF (allRefs g) ((i : Int) + 1)) else []
theorem run_make_ints (n : Nat) (hn : n ≤ 35184372088832) (w : World) : (Instr.makeSlice 25 (.int .i64 (n : Int)) (.int .i64 (n : Int))).run Try.prog w = .ok (.slice (some ⟨w.heap.size, 0, none⟩) n n) (w.alloc (.cells (madeCells #[.int .i64 0] n) 3 (0, 0))) := by
  obtain ⟨i0, hi, hz0, hz1, hz2⟩ := info_parts int_info
  have := run_make (P := Try.prog) w 25 3 i0 _ Try.underlying25 hi hz0 .i64 .i64 (n : Int) (n : Int) (by omega) (by omega) (by rw [hz2]; omega) (by omega)
  rw [hz1] at this
  simpa [Value.cells] using this
set_option maxHeartbeats 2000000 in
theorem Into_any {w : World} {A : Option Addr} {c : Nat} {g : List OB} (hg : GAt w A g) (hn : g.length * 64 ≤ 140737488355328) :
    Calls Try.prog 80 #[gV A g.length c] w (GivesI (intoL g) w) := by
  have G := Lib.hid hg
  have CH : Hid (∀ W, Below w.heap.size w W → Calls Try.prog 22 #[gV A g.length c] W fun e w' => e = .returned (.bool (checkB g)) ∧ Below W.heap.size W w') := fun W hW => Check_any (hg.below hW) hn
  have CO : Hid (∀ W, Below w.heap.size w W → Calls Try.prog 126 #[gV A g.length c, .slice none 0 0] W fun e w' => ∃ mb, e = .returned (.map (some mb)) ∧ MapI w' mb (cntF (allRefs g)) ∧ W.heap.size ≤ mb ∧ Below W.heap.size W w') := fun W hW => by
    have := count_any (c := c) (hg.below hW) hn (B := none) (d := 0) (more := []) (fun i p hp => by simp at hp) (by simp)
    simpa [refsL] using this
  have mk := run_make_ints
  cases hc : checkB g with
  | false =>
    rw [show intoL g = [] by simp [intoL, hc]]
    rw [hc] at CH
    clear hg hc CO mk
    generalize g.length = n at *
    go_enter Try.func80, Try.ntmps80
    go_wp2_with (go_at_call 22; (with_reducible refine (CH.out _ ((Below.refl _ _).alloc (Nat.le_refl _) _)).mono ?_); rintro e w1 ⟨rfl, hb⟩; have B1 := Lib.hid (below_box hb); clear hb)
    go_ret
    exact ⟨none, 0, rfl, fun i x hx => by simp at hx, B1.out⟩
  | true =>
    rw [show intoL g = (List.range g.length).map (fun (i : Nat) => cntF (allRefs g) ((i : Int) + 1)) by simp [intoL, hc]]
    rw [hc] at CH
    clear hg hc
    generalize cntF (allRefs g) = F at *
    generalize g.length = n at *
    have mk := mk n (by omega)
    go_enter Try.func80, Try.ntmps80
    go_wp2_with (first
      | (go_at_call 22; (with_reducible refine (CH.out _ ((Below.refl _ _).alloc (Nat.le_refl _) _)).mono ?_); rintro e w1 ⟨rfl, hb⟩; have B1 := Lib.hid (below_box hb); have c1 := boxed hb (j := 0) rfl; have z1 : w.heap.size < w1.heap.size := (by have := hb.size; simp at this; omega); clear hb)
      | (go_at_call 126; (with_reducible refine (CO.out _ B1.out).mono ?_); rintro e w2 ⟨mb, rfl, hM, hge, hb⟩; have M2 := Lib.hid hM; have c2 := (hb.cell (p := ⟨w.heap.size, 0, none⟩) z1).trans c1; have hml := hM.lt; have B2 : Hid (Below w.heap.size w w2) := B1.out.trans (hb.mono B1.out.size); clear hb hM))
    go_loopg [17] n (fun gg s17 wr => ∃ k : Nat, k ≤ n ∧ n - k ≤ gg ∧ s17 = .int .i64 k ∧ Hid (RowI wr w2.heap.size n ((List.range k).map (fun (i : Nat) => F ((i : Int) + 1)))) ∧ Hid (MapI wr mb F) ∧ Hid (Below w.heap.size w wr))
    case atStart =>
      exact ⟨0, Nat.zero_le _, by omega, rfl, (show RowI _ _ _ _ from RowI.made w2 n _), (show MapI _ _ _ from M2.out.keep (Below.heap_alloc _ _ _ hml)), (show Below _ _ _ from B2.out.alloc B2.out.size _)⟩
    case round =>
      obtain ⟨k, hk, hgg, rfl, R, M, B⟩ := hrel
      by_cases hlt : k < n
      · obtain ⟨⟨v, hv⟩, hf⟩ := R.out.cell hlt
        have hget := M.out.run_get (k := (k : Int) + 1) ⟨by omega, by omega⟩
        have RS := Lib.hid (R.out.set (x := F ((k : Int) + 1)) (k := k) (by simpa using hlt) (by simp))
        have LN : Hid ((List.range (k + 1)).map (fun (i : Nat) => F ((i : Int) + 1)) = (List.range k).map (fun (i : Nat) => F ((i : Int) + 1)) ++ [F ((k : Int) + 1)]) := show _ = _ by rw [List.range_succ, List.map_append]; rfl
        have HZ := Lib.hid B2.out.size
        go_wp2_with fail
        go_roundg (n - (k + 1))
        case measure => omega
        case rel => exact ⟨k + 1, by omega, by omega, by go_num, (show RowI _ _ _ _ by rw [LN.out]; exact RS.out.1), (show MapI _ _ _ from M.out.keep (RS.out.2.block _ M.out.lt (fun e => by injection e with e; omega))), (show Below _ _ _ from B.out.grown RS.out.2 B.out.size fun j hj => by injection hj with hj; rw [← hj]; exact HZ.out)⟩
      · have hkn : k = n := by omega
        subst hkn
        go_wp2_with fail
        go_ret
        exact ⟨some ⟨w2.heap.size, 0, none⟩, k, by simp, R.out.ints, B.out⟩
end Go.Proofs.Ytghnjmodnhnmfaa
