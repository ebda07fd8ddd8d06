/- findPairs: where each key stands; and may all pairs be? -/
import Derived.Test.YtkkdgacdajojiaaBase
import Derived.Test.YtkkdgacdajojiaaDiArr
import Derived.RegionTactic
import Derived.ChangeAlike
import Derived.Carry
import Derived.Deep.DeepCutAuto
namespace Go.Proofs.Ytkkdgacdajojiaa
set_option maxRecDepth 20000
set_option maxRecDepth 20000
open Go.RowKit Go.Maps Go.Sort Go.BigFrame

theorem run_makeMap_sized (n : Int) (w : World) : (Instr.makeMap 72 (some (.int .i64 n))).run Try.prog w = .ok (.map (some w.heap.size)) (w.alloc (.map #[] 0)) := by
  simp [Instr.makeMap, asInt, asIntOf, Result.andThen, run_underlying Try.underlying72]
def pairsB (n : Nat) (P : List VV) : Bool := match unflat P with
  | none => false
  | some q => decide ((∀ p ∈ q, pairOk n p = true) ∧ (q.map (·.1)).Nodup)
theorem pairsB_flat (n : Nat) (q : List (VV × VV)) : pairsB n (flatQ q) = decide ((∀ p ∈ q, pairOk n p = true) ∧ (q.map (·.1)).Nodup) := by unfold pairsB; rw [unflat_flat]
theorem pairsB_odd {n : Nat} {P : List VV} (h : P.length % 2 ≠ 0) : pairsB n P = false := by unfold pairsB; rw [(unflat_none P).2 h]
/-- A struct of slots whose pairs are that row. -/
structure PairIn (w : World) (tp n gp op cp : Nat) (m1 m2 av mv : Value) (P : List VV) : Prop where
  self : w.heap[tp]? = some (.cells #[m1, m2, av, .slice (some ⟨gp, op, none⟩) P.length cp, mv] 74 (0, 0))
  arr : ∃ A c, av = .slice A n c
  row : RowV w gp op cp P
  small : n ≤ 1073741824 ∧ P.length ≤ 2147483648
theorem PairIn.ne {w : World} {tp n gp op cp : Nat} {m1 m2 av mv : Value} {P : List VV} (h : PairIn w tp n gp op cp m1 m2 av mv P) : gp ≠ tp := by
  rintro rfl
  obtain ⟨⟨cur, h1, _⟩, _⟩ := h.row
  have h0 := h.self
  rw [h0] at h1; injection h1 with h1; injection h1 with _ h1; exact absurd h1 (by decide)
theorem PairIn.cells {w : World} {tp n gp op cp : Nat} {m1 m2 av mv : Value} {P : List VV} (h : PairIn w tp n gp op cp m1 m2 av mv P) : w.cell? ⟨tp, 2, none⟩ = some av ∧ w.cell? ⟨tp, 3, none⟩ = some (.slice (some ⟨gp, op, none⟩) P.length cp) ∧ w.cell? ⟨tp, 4, none⟩ = some mv ∧ w.frozen? ⟨tp, 4, none⟩ = false := by
  have h1 := h.self
  refine ⟨?_, ?_, ?_, ?_⟩ <;> simp [World.cell?, World.frozen?, h1]
theorem PairIn.look {w : World} {tp n gp op cp : Nat} {m1 m2 av mv : Value} {P : List VV} (h : PairIn w tp n gp op cp m1 m2 av mv P) : LookAt w tp n := by
  obtain ⟨A, c, rfl⟩ := h.arr
  exact ⟨⟨A, c, h.cells.1⟩, mem_block_lt h.self, h.small.1⟩
/-- What findPairs leaves. -/
def Found (w : World) (tp n gp op cp : Nat) (m1 m2 av : Value) (P : List VV) (e : Ending) (w' : World) : Prop :=
  e = .returned (.bool (pairsB n P)) ∧ w.grownBy w' (some tp) ∧ (pairsB n P = true → ∃ mb q, w.heap.size ≤ mb ∧ P = flatQ q ∧ PairIn w' tp n gp op cp m1 m2 av (.map (some mb)) P ∧ MapV w' mb (fun k => (idxQ q k).map (2 * ·)) q.length ∧ (∀ p ∈ q, pairOk n p = true) ∧ (q.map (·.1)).Nodup)
theorem grown_of_below {w w' : World} {row : Option Nat} (h : Below w.heap.size w w') : w.grownBy w' row := ⟨h.os, h.tape, h.output, h.size, fun k hk _ => h.block k hk⟩
theorem grown_trans {a b c : World} {g : Nat} (h : a.grownBy b (some g)) (k : b.grownBy c (some g)) : a.grownBy c (some g) :=
  ⟨k.os.trans h.os, k.tape.trans h.tape, k.output.trans h.output, Nat.le_trans h.size k.size, fun i hi hne => (k.block i (Nat.lt_of_lt_of_le hi h.size) hne).trans (h.block i hi hne)⟩
theorem odd_any {w : World} {tp n gp op cp : Nat} {m1 m2 av mv : Value} {P : List VV} (h : PairIn w tp n gp op cp m1 m2 av mv P) (hP : P.length % 2 ≠ 0) :
    Calls Try.prog 81 #[bV tp] w (Found w tp n gp op cp m1 m2 av P) := by
  have e := pairsB_odd (n := n) hP
  have F : Hid (Found w tp n gp op cp m1 m2 av P (.returned (.bool false)) w) := ⟨by rw [e], ⟨rfl, rfl, rfl, Nat.le_refl _, fun _ _ _ => rfl⟩, fun h => by rw [e] at h; cases h⟩
  obtain ⟨c2, c3, c4, f4⟩ := h.cells
  have hs := h.small
  generalize P.length = N at *
  have q1 : ((N : Int) % 2 == 0) = false := not_eq (by omega)
  have q2 : ((N : Int) % 2 != 0) = true := by simp [bne, q1]
  clear h e hP
  go_enter Try.func81, Try.ntmps81
  go_wp2
  go_ret
  exact F.out
/-- Two boxes that are new. -/
structure Boxes (w w' : World) (bk bv : Nat) (p : VV × VV) : Prop where
  below : Below w.heap.size w w'
  hk : w'.heap[bk]? = some (.cells #[iV p.1.1, iV p.1.2] 24 (0, 0))
  hv : w'.heap[bv]? = some (.cells #[iV p.2.1, iV p.2.2] 24 (0, 0))
  lk : w.heap.size ≤ bk
  lv : w.heap.size ≤ bv
theorem boxes_a (w : World) (p : VV × VV) : Boxes w ((w.alloc (.cells #[iV p.1.1, iV p.1.2] 24)).alloc (.cells #[iV p.2.1, iV p.2.2] 24)).drew w.heap.size (w.heap.size + 1) p :=
  ⟨((((Below.refl _ _).alloc (Nat.le_refl _) _).alloc (by simp) _).drew), (Below.heap_alloc _ _ _ (by simp)).trans (MapKept.heap_alloc w _).1, (show _ = _ by have := (MapKept.heap_alloc (w.alloc (.cells #[iV p.1.1, iV p.1.2] 24)) (.cells #[iV p.2.1, iV p.2.2] 24)).1; rwa [show (w.alloc (.cells #[iV p.1.1, iV p.1.2] 24)).heap.size = w.heap.size + 1 by simp] at this), Nat.le_refl _, Nat.le_succ _⟩
theorem boxes_b (w : World) (p : VV × VV) : Boxes w ((w.alloc (.cells #[iV p.2.1, iV p.2.2] 24)).alloc (.cells #[iV p.1.1, iV p.1.2] 24)).drew (w.heap.size + 1) w.heap.size p :=
  ⟨((((Below.refl _ _).alloc (Nat.le_refl _) _).alloc (by simp) _).drew), (show _ = _ by have := (MapKept.heap_alloc (w.alloc (.cells #[iV p.2.1, iV p.2.2] 24)) (.cells #[iV p.1.1, iV p.1.2] 24)).1; rwa [show (w.alloc (.cells #[iV p.2.1, iV p.2.2] 24)).heap.size = w.heap.size + 1 by simp] at this), (Below.heap_alloc _ _ _ (by simp)).trans (MapKept.heap_alloc w _).1, Nat.le_succ _, Nat.le_refl _⟩
theorem Boxes.then {w w1 w2 : World} {bk bv : Nat} {p : VV × VV} (h : Boxes w w1 bk bv p) (hb : Below w1.heap.size w1 w2) : Boxes w w2 bk bv p :=
  ⟨h.below.trans (hb.mono h.below.size), (hb.block bk (mem_block_lt h.hk)).trans h.hk, (hb.block bv (mem_block_lt h.hv)).trans h.hv, h.lk, h.lv⟩
theorem Boxes.cells {w w1 : World} {bk bv : Nat} {p : VV × VV} (h : Boxes w w1 bk bv p) : w1.cell? ⟨bk, 0, none⟩ = some (iV p.1.1) ∧ w1.cell? ⟨bk, 1, none⟩ = some (iV p.1.2) ∧ w1.cell? ⟨bv, 0, none⟩ = some (iV p.2.1) ∧ w1.cell? ⟨bv, 1, none⟩ = some (iV p.2.2) := by
  have h1 := h.hk
  have h2 := h.hv
  refine ⟨?_, ?_, ?_, ?_⟩ <;> simp [World.cell?, h1, h2]
structure LoopF (w : World) (tp n gp op cp : Nat) (m1 m2 av : Value) (mb : Nat) (q : List (VV × VV)) (j : Nat) (wr : World) : Prop where
  pin : PairIn wr tp n gp op cp m1 m2 av (.map (some mb)) (flatQ q)
  map : MapV wr mb (fun k => (idxQ (q.take j) k).map (2 * ·)) j
  ok : ∀ p ∈ q.take j, pairOk n p = true
  nod : ((q.take j).map (·.1)).Nodup
  grown : w.grownBy wr (some tp)
  le : w.heap.size ≤ mb
theorem PairIn.keep {w w' : World} {tp n gp op cp : Nat} {m1 m2 av mv : Value} {P : List VV} (h : PairIn w tp n gp op cp m1 m2 av mv P) (h1 : w'.heap[tp]? = w.heap[tp]?) (h2 : w'.heap[gp]? = w.heap[gp]?) : PairIn w' tp n gp op cp m1 m2 av mv P :=
  ⟨h1.trans h.self, h.arr, h.row.keep h2, h.small⟩
theorem LoopF.start {w : World} {tp n gp op cp : Nat} {m1 m2 av : Value} {q : List (VV × VV)} (h : PairIn w tp n gp op cp m1 m2 av (.map none) (flatQ q)) :
    LoopF w tp n gp op cp m1 m2 av w.heap.size q 0 ((w.setCell ⟨tp, 4, none⟩ (.map (some w.heap.size))).alloc (.map #[] 0)) := by
  have e0 : (w.setCell ⟨tp, 4, none⟩ (.map (some w.heap.size))).heap[tp]? = some (.cells #[m1, m2, av, .slice (some ⟨gp, op, none⟩) (flatQ q).length cp, .map (some w.heap.size)] 74 (0, 0)) := by
    rw [setCell_eq_setRow w tp 4 _ _ _ _ h.self, setRow_heap w tp _ _ _ _ h.self]
    rfl
  have hl := mem_block_lt h.self
  have hz : (w.setCell ⟨tp, 4, none⟩ (.map (some w.heap.size))).heap.size = w.heap.size := by simp [World.setCell]
  refine ⟨⟨(Below.heap_alloc _ _ _ (by rw [hz]; exact hl)).trans e0, h.arr, h.row.keep ?_, h.small⟩, ?_, by simp, by simp, ?_, Nat.le_refl _⟩
  · rw [Below.heap_alloc _ _ _ (by rw [hz]; exact h.row.lt)]
    exact Below.heap_setCell _ _ _ _ h.ne
  · have := MapV.made (w.setCell ⟨tp, 4, none⟩ (.map (some w.heap.size)))
    rw [hz] at this
    exact this.congr (Nat.le_refl _) fun v _ => rfl
  · exact ⟨rfl, rfl, rfl, by simp [World.setCell], fun k hk hne => (Below.heap_alloc _ _ _ (by rw [hz]; exact hk)).trans (Below.heap_setCell _ _ _ _ (fun e => hne (by rw [e])))⟩
theorem idx_snoc {q : List (VV × VV)} {j : Nat} {p : VV × VV} (hp : q[j]? = some p) (hn : idxQ (q.take j) p.1 = none) (v : VV) : idxQ (q.take (j + 1)) v = if v = p.1 then some j else idxQ (q.take j) v := by
  have hj : j < q.length := (List.getElem?_eq_some_iff.1 hp).1
  unfold idxQ at hn ⊢
  rw [List.take_add_one, hp]
  simp only [Option.toList_some, List.findIdx?_append]
  by_cases e : v = p.1
  · subst e
    rw [hn, if_pos rfl]
    simp [List.findIdx?_cons, Nat.min_eq_left (Nat.le_of_lt hj)]
  · rw [if_neg e]
    have : (p.1 == v) = false := beq_eq_false_iff_ne.2 (Ne.symm e)
    simp [List.findIdx?_cons, this]
theorem LoopF.below {w wr w1 : World} {tp n gp op cp : Nat} {m1 m2 av : Value} {mb : Nat} {q : List (VV × VV)} {j : Nat} (h : LoopF w tp n gp op cp m1 m2 av mb q j wr) (hb : Below wr.heap.size wr w1) : LoopF w tp n gp op cp m1 m2 av mb q j w1 := by
  obtain ⟨es, cl, hm⟩ := h.map.form
  exact ⟨h.pin.keep (hb.block tp (mem_block_lt h.pin.self)) (hb.block gp h.pin.row.lt), h.map.keep (hb.block mb (mem_block_lt hm)), h.ok, h.nod, grown_trans h.grown (grown_of_below hb), h.le⟩
theorem LoopF.next {w w1 w2 : World} {tp n gp op cp : Nat} {m1 m2 av : Value} {mb : Nat} {q : List (VV × VV)} {j : Nat} {p : VV × VV} (h : LoopF w tp n gp op cp m1 m2 av mb q j w1) (hp : q[j]? = some p) (hn : idxQ (q.take j) p.1 = none) (hok : pairOk n p = true)
    (hM : MapV w2 mb (putF (fun k => (idxQ (q.take j) k).map (2 * ·)) p.1 (some (2 * j))) (j + 1)) (hg : w1.grownBy w2 (some mb)) : LoopF w tp n gp op cp m1 m2 av mb q (j + 1) w2 := by
  have hl := mem_block_lt h.pin.self
  obtain ⟨es, cl, hm⟩ := h.map.form
  have hlt : j < q.length := (List.getElem?_eq_some_iff.1 hp).1
  have n1 : tp ≠ mb := by rintro rfl; have := h.pin.self; rw [hm] at this; cases this
  have n2 : gp ≠ mb := by rintro rfl; obtain ⟨⟨cur, h1, _⟩, _⟩ := h.pin.row; rw [hm] at h1; cases h1
  refine ⟨h.pin.keep (hg.block tp hl (by simpa using n1)) (hg.block gp h.pin.row.lt (by simpa using n2)), hM.congr (Nat.le_refl _) fun v _ => ?_, ?_, ?_, ?_, h.le⟩
  · simp only [idx_snoc hp hn, putF]
    by_cases e : v = p.1
    · rw [if_pos e, if_pos e]; rfl
    · rw [if_neg e, if_neg e]
  · intro p' hp'
    rw [List.take_add_one, hp] at hp'
    rcases List.mem_append.1 hp' with hp' | hp'
    · exact h.ok p' hp'
    · simp at hp'; subst hp'; exact hok
  · rw [List.take_add_one, hp]
    simp only [Option.toList_some, List.map_append, List.map_cons, List.map_nil]
    rw [List.nodup_append]
    refine ⟨h.nod, by simp, fun a ha b hb => ?_⟩
    simp at hb; subst hb
    obtain ⟨p', hp', rfl⟩ := List.mem_map.1 ha
    exact idxQ_none.1 hn p' hp'
  · have hg2 : w1.grownBy w2 (some mb) := hg
    exact ⟨hg2.os.trans h.grown.os, hg2.tape.trans h.grown.tape, hg2.output.trans h.grown.output, Nat.le_trans h.grown.size hg2.size, fun i hi hne => (hg2.block i (Nat.lt_of_lt_of_le hi h.grown.size) (by have := h.le; simp; omega)).trans (h.grown.block i hi hne)⟩
/-- One pair that may not be: findPairs says no. -/
theorem Found.no {w w1 : World} {tp n gp op cp : Nat} {m1 m2 av : Value} {q : List (VV × VV)} (h : w.grownBy w1 (some tp)) (hq : ¬ ((∀ p ∈ q, pairOk n p = true) ∧ (q.map (·.1)).Nodup)) : Found w tp n gp op cp m1 m2 av (flatQ q) (.returned (.bool false)) w1 := by
  have e : pairsB n (flatQ q) = false := by rw [pairsB_flat]; exact decide_eq_false hq
  exact ⟨by rw [e], h, fun h => by rw [e] at h; cases h⟩
theorem not_ok {n : Nat} {q : List (VV × VV)} {j : Nat} {p : VV × VV} (hp : q[j]? = some p) (h : pairOk n p = false) : ¬ ((∀ p ∈ q, pairOk n p = true) ∧ (q.map (·.1)).Nodup) := fun e => by
  have := e.1 p (List.mem_of_getElem? hp)
  rw [h] at this; cases this
theorem not_twice {n : Nat} {q : List (VV × VV)} {j : Nat} {p : VV × VV} (hp : q[j]? = some p) {i : Nat} (h : idxQ (q.take j) p.1 = some i) : ¬ ((∀ p ∈ q, pairOk n p = true) ∧ (q.map (·.1)).Nodup) := fun e => by
  obtain ⟨v, hv⟩ := idxQ_some h
  have hi : i < (q.take j).length := (List.getElem?_eq_some_iff.1 hv).1
  have hij : i < j := by simp at hi; omega
  rw [List.getElem?_take_of_lt hij] at hv
  have h1 : (q.map (·.1))[i]? = some p.1 := by simp [hv]
  have h2 : (q.map (·.1))[j]? = some p.1 := by simp [hp]
  obtain ⟨l1, e1⟩ := List.getElem?_eq_some_iff.1 h1
  obtain ⟨l2, e2⟩ := List.getElem?_eq_some_iff.1 h2
  have := (List.getElem_inj e.2).1 (e1.trans e2.symm)
  omega
theorem key_re (k n : Int) {b : Bool} (h : keyB k n = b) (W : World) (d : Nat) (os : Array Obj) : Calls Try.prog 59 #[.agg #[.int .i64 k, .int .i64 n]] (grow (redrawn W d) os) fun e w'' => e = .returned (.bool b) ∧ ∃ p : Regrown, w'' = grow (redrawn W p.d) p.os := h ▸ Calls.regrown_of (Key_any k n _)
theorem listed_re {W : World} {tp n : Nat} (h : LookAt W tp n) (k : VV) {b : Bool} (hb : listedB n k = b) (d : Nat) (os : Array Obj) : Calls Try.prog 82 #[bV tp, vV k] (grow (redrawn W d) os) fun e w'' => e = .returned (.bool b) ∧ ∃ p : Regrown, w'' = grow (redrawn W p.d) p.os := hb ▸ Calls.regrown_of (listed_any (h.below (below_regrown W d os)) k)
theorem after_re {W : World} {tp n : Nat} (h : LookAt W tp n) (d : Nat) (os : Array Obj) : Calls Try.prog 88 #[bV tp] (grow (redrawn W d) os) fun e w'' => e = .returned (.agg #[.int .i64 3, .int .i64 ((n : Int) + 1)]) ∧ ∃ p : Regrown, w'' = grow (redrawn W p.d) p.os := Calls.regrown_of (after_any (h.below (below_regrown W d os)))
set_option maxHeartbeats 4000000 in
theorem even_any {w : World} {tp n gp op cp : Nat} {m1 m2 av : Value} {q : List (VV × VV)} (h : PairIn w tp n gp op cp m1 m2 av (.map none) (flatQ q)) :
    Calls Try.prog 81 #[bV tp] w (Found w tp n gp op cp m1 m2 av (flatQ q)) := by
  obtain ⟨c2, c3, c4, f4⟩ := h.cells
  have hs := h.small
  have hmm := run_makeMap_sized
  have hl := mem_block_lt h.self
  have H := Lib.hid h
  have hN := flatQ_len q
  obtain ⟨N, HN⟩ : ∃ N, N = (flatQ q).length := ⟨_, rfl⟩
  rw [← HN] at c3 hs
  have q1 : ((N : Int) % 2 == 0) = true := by rw [beq_iff_eq]; omega
  have q2 : ((N : Int) % 2 != 0) = false := by simp [bne, q1]
  have hE : N = 2 * q.length := by rw [HN, hN]
  have HE := Lib.hid hE
  have HNN := Lib.hid HN
  clear h HN hN hE
  go_enter Try.func81, Try.ntmps81
  go_wp2
  go_loopg [3] (q.length) (fun m i wr => ∃ j : Nat, m + j = q.length ∧ i = Value.int .i64 ((2 * j : Nat) : Int) ∧ Hid (LoopF w tp n gp op cp m1 m2 av w.heap.size q j wr))
  case atStart => exact ⟨0, rfl, rfl, LoopF.start H.out⟩
  case round =>
    obtain ⟨j, hj, rfl, L⟩ := hrel
    obtain ⟨k, hk⟩ : ∃ k, k = 2 * j := ⟨_, rfl⟩
    rw [← hk]
    obtain ⟨c2, c3, c4, f4⟩ := L.out.pin.cells
    rw [← HNN.out] at c3
    by_cases hlt : j < q.length
    · obtain ⟨p, hp⟩ : ∃ p, q[j]? = some p := ⟨_, List.getElem?_eq_getElem hlt⟩
      obtain ⟨p1, p2⟩ := flatQ_at q j p hp
      rw [← hk] at p1 p2
      obtain ⟨a0, a1⟩ := L.out.pin.row.at p1
      obtain ⟨b0, b1⟩ := L.out.pin.row.at p2
      have HP := Lib.hid hp
      have HK := Lib.hid hk
      have k1 : k + 1 < N := by rw [HE.out]; omega
      have k2 : (k : Int) + 1 < (N : Int) := by omega
      have k3 : (k : Int) < (N : Int) := by omega
      have k4 : IntKind.i64.wrap ((k : Int) + 1) = (k : Int) + 1 := IntWalk.i64_in _ (by omega)
      have k5 : ((k : Int) + 1).toNat = k + 1 := by omega
      have k6 : (0 : Int) ≤ (k : Int) + 1 := by omega
      have l1 := mem_block_lt L.out.pin.self
      have l2 := L.out.pin.row.lt
      clear hp hk p1 p2
      go_upto_region 7 with fail
      go_cut [4, 5] (fun s4 s5 wx => ∃ bk bv : Nat, s4 = bV bk ∧ s5 = bV bv ∧ Hid (Boxes wr wx bk bv p))
      case first =>
        go_region
        all_goals
          go_wp2_with fail
          go_meet
          first
          | exact ⟨wr.heap.size, wr.heap.size + 1, rfl, rfl, boxes_a wr p⟩
          | exact ⟨wr.heap.size + 1, wr.heap.size, rfl, rfl, boxes_b wr p⟩
      case rest =>
        obtain ⟨bk, bv, rfl, rfl, BX⟩ := hcut
        have L1 : Hid (LoopF w tp n gp op cp m1 m2 av w.heap.size q j wc) := L.out.below BX.out.below
        obtain ⟨c2, c3, c4, f4⟩ := L1.out.pin.cells
        obtain ⟨x0, x1, x2, x3⟩ := BX.out.cells
        have wk : wfP p.1 := L.out.pin.row.wf _ (List.mem_of_getElem? (flatQ_at q j p HP.out).1)
        have LK : ∀ i, (Instr.lookup 72 (.map (some w.heap.size)) (.agg #[iV p.1.1, iV p.1.2]) true).run Try.prog (wc.drewN i) = .ok (.tuple #[iV ((((idxQ (q.take j) p.1).map (2 * ·)).getD 0 : Nat) : Int), .bool ((idxQ (q.take j) p.1).map (2 * ·)).isSome]) (wc.drewN i) := fun i => (L1.out.map.keep (w' := wc.drewN i) rfl).run_look wk
        have WK := Lib.hid wk
        clear wk
        obtain ⟨tv, htv⟩ : ∃ tv, tv = ((idxQ (q.take j) p.1).map (2 * ·)).getD 0 := ⟨_, rfl⟩
        obtain ⟨tw, htw⟩ : ∃ tw, tw = ((idxQ (q.take j) p.1).map (2 * ·)).isSome := ⟨_, rfl⟩
        rw [← htv, ← htw] at LK
        have HTW := Lib.hid htw
        clear htv htw
        go_wp2_with fail
        go_quiet (fail)
        go_wp2_with fail
        have BX2 : Hid (Boxes wr (wc.drewN nq) bk bv p) := BX.out.then (below_drewN (Below.refl _ _) _)
        have L2 : Hid (LoopF w tp n gp op cp m1 m2 av w.heap.size q j (wc.drewN nq)) := L1.out.below (below_drewN (Below.refl _ _) _)
        clear LK x0 x1 x2 x3 c2 c3 c4 f4
        generalize wc.drewN nq = W2 at *
        obtain ⟨x0, x1, x2, x3⟩ := BX2.out.cells
        have y0 := fun d os => cell_regrown x0 d os
        have y1 := fun d os => cell_regrown x1 d os
        have y2 := fun d os => cell_regrown x2 d os
        have y3 := fun d os => cell_regrown x3 d os
        clear x0 x1 x2 x3
        have LOOK := Lib.hid L2.out.pin.look
        obtain ⟨bad, hbad⟩ : ∃ bad, bad = (tw || !pairOk n p) := ⟨_, rfl⟩
        go_cut [79] (fun s79 wx => ∃ b : Bool, s79 = .bool b ∧ Hid (b = bad) ∧ Hid (Below W2.heap.size W2 wx))
        case first =>
          go_wp2_with fail
          cases tw with
          | true =>
            have EB : Hid (true = bad) := hbad.symm
            clear hbad
            refine wp_region_quiet_below (by kernel_rfl) (by kernel_rfl) ?_
            repeat (go_big_quiet_step (fail))
            refine wpQuiet_nil ?_
            intro w3 ⟨⟨dq, osq⟩, hw3⟩
            have B3 : Hid (Below W2.heap.size W2 w3) := by rw [hw3]; exact below_regrown W2 dq osq
            clear hw3
            go_wp2_with fail
            go_meet
            exact ⟨_, rfl, EB, B3⟩
          | false =>
            cases hk1 : keyP p.1 with
            | false =>
              have cK := key_re p.1.1 p.1.2 hk1 W2
              have EB := Lib.hid (show true = bad by rw [hbad]; simp [pairOk, hk1])
              clear hk1 hbad
              refine wp_region_quiet_below (by kernel_rfl) (by kernel_rfl) ?_
              repeat (go_big_quiet_step (exact cK _ _))
              refine wpQuiet_nil ?_
              intro w3 ⟨⟨dq, osq⟩, hw3⟩
              have B3 : Hid (Below W2.heap.size W2 w3) := by rw [hw3]; exact below_regrown W2 dq osq
              clear hw3
              go_wp2_with fail
              go_meet
              exact ⟨_, rfl, EB, B3⟩
            | true =>
              have cK := key_re p.1.1 p.1.2 hk1 W2
              cases hk2 : keyP p.2 with
              | false =>
                have cV := key_re p.2.1 p.2.2 hk2 W2
                have EB := Lib.hid (show true = bad by rw [hbad]; simp [pairOk, hk2])
                clear hk1 hk2 hbad
                refine wp_region_quiet_below (by kernel_rfl) (by kernel_rfl) ?_
                repeat (go_big_quiet_step (first | (with_reducible exact cK _ _) | (with_reducible exact cV _ _)))
                refine wpQuiet_nil ?_
                intro w3 ⟨⟨dq, osq⟩, hw3⟩
                have B3 : Hid (Below W2.heap.size W2 w3) := by rw [hw3]; exact below_regrown W2 dq osq
                clear hw3
                go_wp2_with fail
                go_meet
                exact ⟨_, rfl, EB, B3⟩
              | true =>
                have cV := key_re p.2.1 p.2.2 hk2 W2
                cases hli : listedB n p.1 with
                | true =>
                  have cL := listed_re LOOK.out p.1 hli
                  have EB := Lib.hid (show true = bad by rw [hbad]; simp [pairOk, listed_succ, hli])
                  clear hk1 hk2 hli hbad
                  refine wp_region_quiet_below (by kernel_rfl) (by kernel_rfl) ?_
                  repeat (go_big_quiet_step (first | (with_reducible exact cK _ _) | (with_reducible exact cV _ _) | (with_reducible exact cL _ _)))
                  refine wpQuiet_nil ?_
                  intro w3 ⟨⟨dq, osq⟩, hw3⟩
                  have B3 : Hid (Below W2.heap.size W2 w3) := by rw [hw3]; exact below_regrown W2 dq osq
                  clear hw3
                  go_wp2_with fail
                  go_meet
                  exact ⟨_, rfl, EB, B3⟩
                | false =>
                  have cL := listed_re LOOK.out p.1 hli
                  have cA := after_re LOOK.out
                  by_cases haf : p.1 = intP (n + 1)
                  · have EB := Lib.hid (show true = bad by rw [hbad]; simp [pairOk, listed_succ, haf])
                    have z1 : (p.1.1 == 3) = true := by rw [haf]; rfl
                    have z2 : (p.1.2 == (n : Int) + 1) = true := by rw [haf]; simp [intP]
                    clear hk1 hk2 hli haf hbad
                    refine wp_region_quiet_below (by kernel_rfl) (by kernel_rfl) ?_
                    repeat (go_big_quiet_step (first | (with_reducible exact cK _ _) | (with_reducible exact cV _ _) | (with_reducible exact cL _ _) | (with_reducible exact cA _ _)))
                    refine wpQuiet_nil ?_
                    intro w3 ⟨⟨dq, osq⟩, hw3⟩
                    have B3 : Hid (Below W2.heap.size W2 w3) := by rw [hw3]; exact below_regrown W2 dq osq
                    clear hw3
                    go_wp2_with fail
                    go_meet
                    exact ⟨_, rfl, EB, B3⟩
                  · have EB := Lib.hid (show false = bad by rw [hbad]; simp [pairOk, listed_succ, hk1, hk2, hli, haf])
                    by_cases z1 : p.1.1 = 3
                    · have z2 : (p.1.2 == (n : Int) + 1) = false := not_eq (fun e => haf (Prod.ext z1 e))
                      have z3 : (p.1.1 == 3) = true := by simp [z1]
                      clear hk1 hk2 hli haf z1 hbad
                      refine wp_region_quiet_below (by kernel_rfl) (by kernel_rfl) ?_
                      repeat (go_big_quiet_step (first | (with_reducible exact cK _ _) | (with_reducible exact cV _ _) | (with_reducible exact cL _ _) | (with_reducible exact cA _ _)))
                      refine wpQuiet_nil ?_
                      intro w3 ⟨⟨dq, osq⟩, hw3⟩
                      have B3 : Hid (Below W2.heap.size W2 w3) := by rw [hw3]; exact below_regrown W2 dq osq
                      clear hw3
                      go_wp2_with fail
                      go_meet
                      exact ⟨_, rfl, EB, B3⟩
                    · have z3 : (p.1.1 == 3) = false := not_eq z1
                      clear hk1 hk2 hli haf z1 hbad
                      refine wp_region_quiet_below (by kernel_rfl) (by kernel_rfl) ?_
                      repeat (go_big_quiet_step (first | (with_reducible exact cK _ _) | (with_reducible exact cV _ _) | (with_reducible exact cL _ _) | (with_reducible exact cA _ _)))
                      refine wpQuiet_nil ?_
                      intro w3 ⟨⟨dq, osq⟩, hw3⟩
                      have B3 : Hid (Below W2.heap.size W2 w3) := by rw [hw3]; exact below_regrown W2 dq osq
                      clear hw3
                      go_wp2_with fail
                      go_meet
                      exact ⟨_, rfl, EB, B3⟩
        case rest =>
          obtain ⟨b, rfl, hb, B3⟩ := hcut
          clear y0 y1 y2 y3
          have L3 : Hid (LoopF w tp n gp op cp m1 m2 av w.heap.size q j wc) := L2.out.below B3.out
          have BX3 : Hid (Boxes wr wc bk bv p) := BX2.out.then B3.out
          cases b with
          | true =>
            have FIN : Hid (Found w tp n gp op cp m1 m2 av (flatQ q) (.returned (.bool false)) wc) := by
              have h := hb.out
              rw [hbad] at h
              refine Found.no L3.out.grown ?_
              cases e : pairOk n p with
              | false => exact not_ok HP.out e
              | true =>
                rw [e] at h
                have h2 := HTW.out
                have h3 : tw = true := by simpa using h.symm
                rw [h3] at h2
                cases e2 : idxQ (q.take j) p.1 with
                | none => rw [e2] at h2; cases h2
                | some i => exact not_twice HP.out e2
            clear hb hbad
            go_wp2_with fail
            go_ret
            exact FIN.out
          | false =>
            have EB : Hid (pairOk n p = true ∧ idxQ (q.take j) p.1 = none) := by
              have h := hb.out
              rw [hbad] at h
              have h2 : tw = false ∧ pairOk n p = true := by simpa using h.symm
              refine ⟨h2.2, ?_⟩
              have h3 := HTW.out
              rw [h2.1] at h3
              cases e2 : idxQ (q.take j) p.1 with
              | none => rfl
              | some i => rw [e2] at h3; cases h3
            clear hb hbad
            obtain ⟨c2, c3, c4, f4⟩ := L3.out.pin.cells
            obtain ⟨x0, x1, x2, x3⟩ := BX3.out.cells
            have hjl : j ≤ 1073741824 := by have := HE.out; omega
            obtain ⟨w4, hrun, hM4, hg4⟩ := (L3.out.map.keep (w' := wc.drew) rfl).run_put WK.out (2 * j) (by omega) (by omega)
            rw [← HK.out] at hrun
            have HM4 := Lib.hid hM4
            have HG4 := Lib.hid hg4
            clear hM4 hg4
            go_wp2_with fail
            go_region
            all_goals
              go_wp2_with fail
              go_roundg (gk - 1)
              case measure => omega
              case rel => exact ⟨j + 1, by omega, congrArg (Value.int .i64) (by have := HK.out; omega), (L3.out.below ((Below.refl _ _).drew)).next HP.out EB.out.2 EB.out.1 HM4.out HG4.out⟩
    · have hjq : j = q.length := by omega
      have FIN : Hid (Found w tp n gp op cp m1 m2 av (flatQ q) (.returned (.bool true)) wr) := by
        have h1 := L.out.ok
        have h2 := L.out.nod
        have h3 := L.out.map
        rw [hjq, List.take_length] at h1 h2 h3
        have e : pairsB n (flatQ q) = true := by rw [pairsB_flat]; exact decide_eq_true ⟨h1, h2⟩
        exact ⟨by rw [e], L.out.grown, fun _ => ⟨w.heap.size, q, Nat.le_refl _, rfl, L.out.pin, h3, h1, h2⟩⟩
      have k3 : ¬ ((k : Int) < (N : Int)) := by have := HE.out; omega
      clear hjq
      go_wp2_with fail
      go_ret
      exact FIN.out
/-- findPairs. -/
theorem findPairs_any {w : World} {tp n gp op cp : Nat} {m1 m2 av : Value} {P : List VV} (h : PairIn w tp n gp op cp m1 m2 av (.map none) P) :
    Calls Try.prog 81 #[bV tp] w (Found w tp n gp op cp m1 m2 av P) := by
  by_cases hP : P.length % 2 = 0
  · cases e : unflat P with
    | none => exact absurd hP ((unflat_none P).1 e)
    | some q =>
      obtain rfl := flat_unflat P q e
      exact even_any h
  · exact odd_any h hP
end Go.Proofs.Ytkkdgacdajojiaa
