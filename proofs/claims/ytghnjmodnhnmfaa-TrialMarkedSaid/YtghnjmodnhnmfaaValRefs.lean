/- The contracts of val.Refs and of the document's own: the numbers of a list's objects, in memory of the call's own. -/
import Derived.Test.YtghnjmodnhnmfaaBase
import Derived.Test.YtghnjmodnhnmfaaValRef
import Derived.Deep.AppendLies
namespace Go.Proofs.Ytghnjmodnhnmfaa
set_option maxRecDepth 20000
open Go.RowKit

/-- The numbers of a list's objects. -/
def refsL (l : List (Int × Int)) : List Int := (l.filter fun p => refB p.1 p.2).map (·.2)
theorem refsL_snoc_yes {l : List (Int × Int)} {k : Nat} {p : Int × Int} (h : l[k]? = some p) (hr : refB p.1 p.2 = true) : refsL (l.take (k + 1)) = refsL (l.take k) ++ [p.2] := by
  unfold refsL; rw [List.take_add_one, h, List.filter_append]; simp [hr]
theorem refsL_snoc_no {l : List (Int × Int)} {k : Nat} {p : Int × Int} (h : l[k]? = some p) (hr : refB p.1 p.2 = false) : refsL (l.take (k + 1)) = refsL (l.take k) := by
  unfold refsL; rw [List.take_add_one, h, List.filter_append]; simp [hr]
theorem refsL_len (l : List (Int × Int)) : (refsL l).length ≤ l.length := by unfold refsL; rw [List.length_map]; exact List.length_filter_le _ _
/-- The slice's cells hold the pairs l. -/
def PairsAt (w : World) (A : Option Addr) (l : List (Int × Int)) : Prop :=
  ∀ i p, l[i]? = some p → ∃ ad, A = some ad ∧ ad.block < w.heap.size ∧ w.cell? (ad.add (i * 2)) = some (.int .i64 p.1) ∧ w.cell? ((ad.add (i * 2)).add 1) = some (.int .i64 p.2)
theorem pairs_below {w w' : World} {A : Option Addr} {l : List (Int × Int)} (h : PairsAt w A l) (hb : Below w.heap.size w w') : PairsAt w' A l := by
  intro i p hp
  obtain ⟨ad, e, hl, h0, h1⟩ := h i p hp
  exact ⟨ad, e, Nat.lt_of_lt_of_le hl hb.size, (hb.cell (by rw [Go.ChangeShapes.block_add]; exact hl)).trans h0, (hb.cell (by rw [Go.ChangeShapes.block_add, Go.ChangeShapes.block_add]; exact hl)).trans h1⟩
/-- The cells of a list of values. -/
def pairCells (l : List (Int × Int)) : List Value := l.flatMap fun p => [.int .i64 p.1, .int .i64 p.2]
theorem pairCells_at : ∀ (l : List (Int × Int)) (i : Nat) (p : Int × Int), l[i]? = some p → (pairCells l)[i * 2]? = some (.int .i64 p.1) ∧ (pairCells l)[i * 2 + 1]? = some (.int .i64 p.2)
  | [], i, p, h => by simp at h
  | x :: r, 0, p, h => by
    simp at h; subst h
    exact ⟨rfl, rfl⟩
  | x :: r, i + 1, p, h => by
    have := pairCells_at r i p (by simpa using h)
    rw [show (i + 1) * 2 = i * 2 + 1 + 1 by omega]
    exact this
theorem pairs_alloc (l : List (Int × Int)) (w : World) (T : TypeId) : PairsAt (w.alloc (.cells (pairCells l).toArray T (0, 0))) (some ⟨w.heap.size, 0, none⟩) l := by
  intro i p h
  obtain ⟨h0, h1⟩ := pairCells_at l i p h
  have e : ∀ j, (⟨w.heap.size, 0, none⟩ : Addr).add j = ⟨w.heap.size, j, none⟩ := fun j => by unfold Addr.add; split <;> simp_all
  refine ⟨_, rfl, by simp, ?_, ?_⟩
  · rw [e]; simp [go_sem, h0]
  · rw [e, add_one]; simp [go_sem, h1]
def GivesInts (l : List Int) (w : World) (e : Ending) (w' : World) : Prop := ∃ v, e = .returned v ∧ w'.ownsRow w.heap.size 3 1 v l.length (l.map (Value.int .i64)) ∧ Below w.heap.size w w'
theorem int_info : (Try.prog.info? 3).map (fun i => (i.zero, i.size, i.bytes)) = some (some (.int .i64 0), 1, 8) := by kernel_rfl
theorem refs_step {w w1 w2 : World} {v v' : Value} {L L' : List Int} {x : Int} {o : Obj} (hown1 : w1.ownsRow w.heap.size 3 1 v L.length (L.map (Value.int .i64))) (hb : Below w.heap.size w w1)
    (hown2 : w2.ownsRow w.heap.size 3 1 v' (L.length + 1) (L.map (Value.int .i64) ++ [.int .i64 x])) (hg : (w1.alloc o).grownBy w2 v.ownBlock) (e : L' = L ++ [x]) :
    w2.ownsRow w.heap.size 3 1 v' L'.length (L'.map (Value.int .i64)) ∧ Below w.heap.size w w2 := by
  subst e
  refine ⟨by simpa using hown2, (hb.alloc hb.size o).grown hg (by have := hb.size; simp; omega) fun k hk => (hown1.lt k hk).1⟩

set_option maxHeartbeats 1000000 in
theorem Refs_some (ad : Addr) (c : Nat) (l : List (Int × Int)) (w : World) (hl : l.length * 16 ≤ 140737488355328) (h : PairsAt w (some ad) l) :
    Calls Try.prog 24 #[.slice (some ad) l.length c] w (GivesInts (refsL l) w) := by
  obtain ⟨i0, hi, hz0, hz1, hz2⟩ := info_parts int_info
  have H := Lib.hid h
  clear h
  go_enter Try.func24, Try.ntmps24
  go_wp2_with fail
  go_loopw [3, 8] (fun v i wr => ∃ k : Nat, k ≤ l.length ∧ i = .int .i64 k ∧ wr.ownsRow w.heap.size 3 1 v (refsL (l.take k)).length ((refsL (l.take k)).map (Value.int .i64)) ∧ Below w.heap.size w wr) (fun _ i _ => l.length - (intOf i).toNat)
  case atStart => exact ⟨0, Nat.zero_le _, rfl, World.ownsRow_nil _ _ _ _, Below.refl _ _⟩
  case round =>
    obtain ⟨k, hk, rfl, hown, hb⟩ := hrel
    by_cases hlt : k < l.length
    · obtain ⟨p, hp⟩ : ∃ p, l[k]? = some p := ⟨_, List.getElem?_eq_getElem hlt⟩
      obtain ⟨ad', e, hbl, hc0, hc1⟩ := H.out k p hp
      obtain rfl : ad = ad' := by injection e
      have d0 := (hb.cell (by rw [Go.ChangeShapes.block_add]; exact hbl)).trans hc0
      have d1 := (hb.cell (by rw [Go.ChangeShapes.block_add, Go.ChangeShapes.block_add]; exact hbl)).trans hc1
      rw [add_one] at d1
      clear hc0 hc1
      cases hr : refB p.1 p.2 with
      | true =>
        have C := Lib.hid (Ref_any p.1 p.2)
        rw [hr] at C
        have E := Lib.hid (refsL_snoc_yes hp hr)
        have hlen := refsL_len (l.take k)
        have hlen2 : (l.take k).length ≤ k := List.length_take_le _ _
        have O := Lib.hid hown
        have B := Lib.hid hb
        have HS := Lib.hid hb.size
        clear hown hb hp
        go_wp2_with (first
          | (go_at_call 81; refine (C.out _).mono ?_; rintro e w1 ⟨rfl, hb1⟩; have hq0 := boxed hb1 (j := 0) rfl; have hq1 := boxed hb1 (j := 1) rfl; have B1 := Lib.hid (below_box hb1); clear hb1)
          | (at_builtin; refine wpList_append_own _ rfl (.tmp 14) (.tmp 17) _ rfl w.heap.size 3 i0 _ 1 8 Try.underlying25 hi hz0 hz1 hz2 rfl (by decide) _ _ _ rfl ((own_below O.out B1.out).alloc _) ⟨w1.heap.size, 0, none⟩ 1 1 [.int .i64 p.2] rfl rfl one_cell (by simp [Value.oneCell']) (by unfold maxLen; omega) (by omega) (by have := HS.out; have := B1.out.size; simp; omega) ?_; intro v' w2 hown2 hg2 _))
        have R := refs_step (own_below O.out B1.out) (B.out.trans (B1.out.mono HS.out)) hown2 hg2 E.out
        clear hown2 hg2
        go_wp2_with fail
        go_roundw
        case rel => exact ⟨k + 1, by omega, by go_num, R.1, R.2⟩
        case measure => simp [intOf]; omega
      | false =>
        have C := Lib.hid (Ref_any p.1 p.2)
        rw [hr] at C
        have E := Lib.hid (refsL_snoc_no hp hr)
        have O := Lib.hid hown
        have B := Lib.hid hb
        clear hown hb hp
        go_wp2_with (go_at_call 81; refine (C.out _).mono ?_; rintro e w1 ⟨rfl, hb1⟩; have B1 := Lib.hid (below_box hb1); clear hb1)
        go_roundw
        case rel => exact ⟨k + 1, by omega, by go_num, by rw [E.out]; exact own_below O.out B1.out, B.out.trans (B1.out.mono B.out.size)⟩
        case measure => simp [intOf]; omega
    · have O := Lib.hid hown
      have B := Lib.hid hb
      clear hown hb
      go_wp2_with fail
      go_ret
      refine ⟨_, rfl, ?_, B.out⟩
      have := O.out
      rw [List.take_of_length_le (by omega)] at this
      exact this
theorem Refs_none (c : Nat) (w : World) :
    Calls Try.prog 24 #[.slice none 0 c] w (GivesInts [] w) := by
  go_enter Try.func24, Try.ntmps24
  go_wp2_with fail
  go_loopw [3, 8] (fun v i wr => i = .int .i64 0 ∧ v = .slice none 0 0 ∧ wr = w) (fun _ i _ => 0)
  case atStart => exact ⟨rfl, rfl, rfl⟩
  case round =>
    obtain ⟨rfl, rfl, hq⟩ := hrel
    obtain rfl := hq.symm
    go_wp2_with fail
    go_ret
    exact ⟨_, rfl, World.ownsRow_nil _ _ _ _, Below.refl _ _⟩
/-- val.Refs. -/
theorem Refs_any (A : Option Addr) (c : Nat) (l : List (Int × Int)) (w : World) (hl : l.length * 16 ≤ 140737488355328) (h : PairsAt w A l) :
    Calls Try.prog 24 #[.slice A l.length c] w (GivesInts (refsL l) w) := by
  match A, h with
  | some ad, h => exact Refs_some ad c l w hl h
  | none, h =>
    match l, h with
    | [], h => exact Refs_none c w
    | x :: r, h => obtain ⟨ad, e, _⟩ := h 0 x rfl; cases e
set_option maxHeartbeats 1000000 in
theorem RRefs_some (ad : Addr) (c : Nat) (l : List (Int × Int)) (w : World) (hl : l.length * 16 ≤ 140737488355328) (h : PairsAt w (some ad) l) :
    Calls Try.prog 58 #[.slice (some ad) l.length c] w (GivesInts (refsL l) w) := by
  obtain ⟨i0, hi, hz0, hz1, hz2⟩ := info_parts int_info
  have H := Lib.hid h
  clear h
  go_enter Try.func58, Try.ntmps58
  go_wp2_with fail
  go_loopw [3, 4] (fun v i wr => ∃ k : Nat, k ≤ l.length ∧ i = .int .i64 k ∧ wr.ownsRow w.heap.size 3 1 v (refsL (l.take k)).length ((refsL (l.take k)).map (Value.int .i64)) ∧ Below w.heap.size w wr) (fun _ i _ => l.length - (intOf i).toNat)
  case atStart => exact ⟨0, Nat.zero_le _, rfl, World.ownsRow_nil _ _ _ _, Below.refl _ _⟩
  case round =>
    obtain ⟨k, hk, rfl, hown, hb⟩ := hrel
    by_cases hlt : k < l.length
    · obtain ⟨p, hp⟩ : ∃ p, l[k]? = some p := ⟨_, List.getElem?_eq_getElem hlt⟩
      obtain ⟨ad', e, hbl, hc0, hc1⟩ := H.out k p hp
      obtain rfl : ad = ad' := by injection e
      have d0 := (hb.cell (by rw [Go.ChangeShapes.block_add]; exact hbl)).trans hc0
      have d1 := (hb.cell (by rw [Go.ChangeShapes.block_add, Go.ChangeShapes.block_add]; exact hbl)).trans hc1
      rw [add_one] at d1
      clear hc0 hc1
      cases hr : refB p.1 p.2 with
      | true =>
        have C := Lib.hid (RRef_any p.1 p.2)
        rw [hr] at C
        have E := Lib.hid (refsL_snoc_yes hp hr)
        have hlen := refsL_len (l.take k)
        have hlen2 : (l.take k).length ≤ k := List.length_take_le _ _
        have O := Lib.hid hown
        have B := Lib.hid hb
        have HS := Lib.hid hb.size
        clear hown hb hp
        go_wp2_with (first
          | (go_at_call 115; refine (C.out _).mono ?_; rintro e w1 ⟨rfl, hb1⟩; have f1 := (hb1.cell (by rw [Go.ChangeShapes.block_add]; exact Nat.lt_of_lt_of_le hbl HS.out)).trans d0; have f2 := (hb1.cell (by exact Nat.lt_of_lt_of_le (by rw [Go.ChangeShapes.block_add]; exact hbl) HS.out)).trans d1; have B1 := Lib.hid hb1; clear hb1)
          | (at_builtin; refine wpList_append_own _ rfl (.tmp 16) (.tmp 22) _ rfl w.heap.size 3 i0 _ 1 8 Try.underlying25 hi hz0 hz1 hz2 rfl (by decide) _ _ _ rfl ((own_below O.out B1.out).alloc _) ⟨w1.heap.size, 0, none⟩ 1 1 [.int .i64 p.2] rfl rfl one_cell (by simp [Value.oneCell']) (by unfold maxLen; omega) (by omega) (by have := HS.out; have := B1.out.size; simp; omega) ?_; intro v' w2 hown2 hg2 _))
        have R := refs_step (own_below O.out B1.out) (B.out.trans (B1.out.mono HS.out)) hown2 hg2 E.out
        clear hown2 hg2
        go_wp2_with fail
        go_roundw
        case rel => exact ⟨k + 1, by omega, by go_num, R.1, R.2⟩
        case measure => simp [intOf]; omega
      | false =>
        have C := Lib.hid (RRef_any p.1 p.2)
        rw [hr] at C
        have E := Lib.hid (refsL_snoc_no hp hr)
        have O := Lib.hid hown
        have B := Lib.hid hb
        clear hown hb hp
        go_wp2_with (go_at_call 115; refine (C.out _).mono ?_; rintro e w1 ⟨rfl, hb1⟩; have B1 := Lib.hid hb1; clear hb1)
        go_roundw
        case rel => exact ⟨k + 1, by omega, by go_num, by rw [E.out]; exact own_below O.out B1.out, B.out.trans (B1.out.mono B.out.size)⟩
        case measure => simp [intOf]; omega
    · have O := Lib.hid hown
      have B := Lib.hid hb
      clear hown hb
      go_wp2_with fail
      go_ret
      refine ⟨_, rfl, ?_, B.out⟩
      have := O.out
      rw [List.take_of_length_le (by omega)] at this
      exact this
theorem RRefs_none (c : Nat) (w : World) :
    Calls Try.prog 58 #[.slice none 0 c] w (GivesInts [] w) := by
  go_enter Try.func58, Try.ntmps58
  go_wp2_with fail
  go_loopw [3, 4] (fun v i wr => i = .int .i64 0 ∧ v = .slice none 0 0 ∧ wr = w) (fun _ i _ => 0)
  case atStart => exact ⟨rfl, rfl, rfl⟩
  case round =>
    obtain ⟨rfl, rfl, hq⟩ := hrel
    obtain rfl := hq.symm
    go_wp2_with fail
    go_ret
    exact ⟨_, rfl, World.ownsRow_nil _ _ _ _, Below.refl _ _⟩
/-- val.Refs. -/
theorem RRefs_any (A : Option Addr) (c : Nat) (l : List (Int × Int)) (w : World) (hl : l.length * 16 ≤ 140737488355328) (h : PairsAt w A l) :
    Calls Try.prog 58 #[.slice A l.length c] w (GivesInts (refsL l) w) := by
  match A, h with
  | some ad, h => exact RRefs_some ad c l w hl h
  | none, h =>
    match l, h with
    | [], h => exact RRefs_none c w
    | x :: r, h => obtain ⟨ad, e, _⟩ := h 0 x rfl; cases e
end Go.Proofs.Ytghnjmodnhnmfaa
