/- QuoteKnown: the chapter's examples and the limits (a closed statement). Conditions: none. -/
import Derived.Test.YtbkejdahihijeaaQuoteWorks
import Derived.Test.YtbkejdahihijeaaLawPost
import Derived.ProofKit
namespace Go.Proofs.Ytbkejdahihijeaa.quoteKnown
open Go.ChangeShapes Go.WideShapes Go.ChangeAt Go.RowKit

/-- A row of texts of the call's own. -/
structure TextsAt (w : World) (B n : Nat) (f : Nat → ByteArray) : Prop where
  lt : B < w.heap.size
  cell : ∀ k, k < n → w.cell? ⟨B, k, none⟩ = some (.string (f k))
theorem texts_of (w : World) (cs : Array Value) (E : TypeId) {n : Nat} {f : Nat → ByteArray} (h : cs = ((List.range n).map fun k => Value.string (f k)).toArray) : TextsAt (w.alloc (.cells cs E)) w.heap.size n f := by
  refine ⟨by simp, fun k hk => ?_⟩
  subst h
  simp [go_sem, hk]
theorem TextsAt.below {w w' : World} {B n : Nat} {f : Nat → ByteArray} (h : TextsAt w B n f) (hb : Below w.heap.size w w') : TextsAt w' B n f :=
  ⟨Nat.lt_of_lt_of_le h.lt hb.size, fun k hk => (hb.cell (p := ⟨B, k, none⟩) h.lt).trans (h.cell k hk)⟩
def inT (k : Nat) : ByteArray := ([⟨#[34, 97, 98, 34]⟩, ⟨#[34, 92, 120, 54, 49, 92, 110, 92, 92, 34]⟩, ⟨#[34, 34]⟩, ⟨#[34, 92, 120, 48, 48, 92, 120, 102, 102, 92, 116, 92, 34, 34]⟩] : List ByteArray).getD k ⟨#[]⟩
def outT (k : Nat) : ByteArray := ([⟨#[97, 98]⟩, ⟨#[97, 10, 92]⟩, ⟨#[]⟩, ⟨#[0, 255, 9, 34]⟩] : List ByteArray).getD k ⟨#[]⟩
def badT (k : Nat) : ByteArray := ([⟨#[]⟩, ⟨#[34]⟩, ⟨#[97, 98]⟩, ⟨#[34, 97, 98]⟩, ⟨#[97, 98, 34]⟩, ⟨#[34, 97, 34, 98, 34]⟩, ⟨#[34, 92, 113, 34]⟩, ⟨#[34, 92, 120, 54, 34]⟩, ⟨#[34, 92, 120, 70, 70, 34]⟩, ⟨#[34, 92, 120, 54, 103, 34]⟩, ⟨#[34, 10, 34]⟩, ⟨#[34, 127, 34]⟩, ⟨#[34, 195, 164, 34]⟩, ⟨#[34, 92, 34]⟩, ⟨#[34, 92, 120, 34]⟩, ⟨#[39, 97, 39]⟩, ⟨#[32, 34, 97, 34]⟩, ⟨#[34, 92, 88, 54, 49, 34]⟩] : List ByteArray).getD k ⟨#[]⟩
theorem in_ok : ((List.range 4).all fun k => decide ((inT k).size ≤ 100) && (unqL (inT k).data.toList == ((outT k).data.toList, 0))) = true := by decide +kernel
theorem bad_ok : ((List.range 18).all fun k => decide ((badT k).size ≤ 100) && (unqL (badT k).data.toList == ([], 4))) = true := by decide +kernel
theorem in_unq (k : Nat) (hk : k < 4) (w : World) : Calls Try.prog 11 #[.string (inT k)] w fun e w' => e = .returned (.tuple #[.string (outT k), .int .i64 0]) ∧ Below w.heap.size w w' := by
  have h := List.all_eq_true.1 in_ok k (List.mem_range.2 hk)
  simp only [Bool.and_eq_true, decide_eq_true_eq, beq_iff_eq] at h
  have U := Unquote_any (inT k) w (by omega)
  rw [h.2] at U
  simp only [Lib.mk_data] at U
  exact U
theorem bad_unq (k : Nat) (hk : k < 18) (w : World) : Calls Try.prog 11 #[.string (badT k)] w fun e w' => e = .returned (.tuple #[.string ⟨#[]⟩, .int .i64 4]) ∧ Below w.heap.size w w' := by
  have h := List.all_eq_true.1 bad_ok k (List.mem_range.2 hk)
  simp only [Bool.and_eq_true, decide_eq_true_eq, beq_iff_eq] at h
  have U := Unquote_any (badT k) w (by omega)
  rw [h.2] at U
  exact U
theorem out_cell (k : Nat) (hk : k < 4) (w : World) (T : TypeId) : (w.alloc (.cells #[.string ⟨#[97, 98]⟩, .string ⟨#[97, 10, 92]⟩, .string ⟨#[]⟩, .string ⟨#[0, 255, 9, 34]⟩] T)).cell? ⟨w.heap.size, k, none⟩ = some (.string (outT k)) := by
  have : k = 0 ∨ k = 1 ∨ k = 2 ∨ k = 3 := by omega
  rcases this with rfl | rfl | rfl | rfl <;> simp [go_sem, outT]
theorem quo (s : ByteArray) (q : ByteArray) (h : quoteL s.data.toList = q.data.toList) (hs : s.size ≤ 1048576) (w : World) : Calls Try.prog 8 #[.string s] w fun e w' => e = .returned (.string q) ∧ Below w.heap.size w w' := by
  have Q := Quote_any s w hs
  rw [h] at Q
  simp only [Lib.mk_data] at Q
  exact Q
/-- The long text while it is filled: k bytes of it are laid. -/
structure Fill (w wr : World) (G k : Nat) : Prop where
  row : ∃ cs : Array Value, wr.heap[G]? = some (.cells cs 5 (0, 0)) ∧ cs.size = 4096 ∧ ∀ j, j < k → cs[j]? = some (.int .u8 97)
  below : Below w.heap.size w wr
  low : w.heap.size ≤ G
theorem Fill.start {w wr wm : World} (h : wm.ownsRow w.heap.size 5 1 (.slice (some ⟨wr.heap.size, 0, none⟩) 4096 4096) 4096 (madeCells (Value.int .u8 0).cells (4096 * 1)).toList) (hg : wr.grownBy wm none) (hb : Below w.heap.size w wr) : Fill w wm wr.heap.size 0 := by
  refine ⟨?_, hb.grown hg hb.size (fun j hj => by cases hj), hb.size⟩
  rcases h.2 with ⟨e, _⟩ | ⟨g, cap, cur, e, _, hgk, _, _, hcs, _⟩
  · cases e
  · injection e with e1 e2 e3
    injection e1 with e1
    injection e1 with e1 _
    subst e1; subst e3
    exact ⟨cur, hgk, by omega, fun j hj => by omega⟩
theorem Fill.cell {w wr : World} {G k : Nat} (h : Fill w wr G k) {j : Nat} (hj : j < 4096) : ∃ v, wr.cell? ⟨G, j, none⟩ = some v ∧ wr.frozen? ⟨G, j, none⟩ = false := by
  obtain ⟨cs, hg, hs, _⟩ := h.row
  exact ⟨cs[j]'(by omega), by rw [Lib.cell_of_heap hg]; exact Array.getElem?_eq_getElem (by omega), Lib.frozen_of_heap hg j⟩
theorem Fill.next {w wr : World} {G k : Nat} (h : Fill w wr G k) (hk : k < 4096) : Fill w (wr.setCell ⟨G, k, none⟩ (.int .u8 97)) G (k + 1) := by
  obtain ⟨cs, hg, hs, hc⟩ := h.row
  refine ⟨⟨cs.setIfInBounds k (.int .u8 97), by simp [World.setCell, Array.getElem?_modify, hg], by simp [hs], fun j hj => ?_⟩, h.below.setCell (p := ⟨G, k, none⟩) h.low _, h.low⟩
  by_cases e : j = k
  · subst e; rw [Array.getElem?_setIfInBounds_self_of_lt (by omega)]
  · rw [Array.getElem?_setIfInBounds_ne (fun x => e x.symm)]; exact hc j (by omega)
theorem Fill.keep {w wr w2 : World} {G k : Nat} (h : Fill w wr G k) (hb : Below wr.heap.size wr w2) : Fill w w2 G k := by
  obtain ⟨cs, hg, hs, hc⟩ := h.row
  have hlt : G < wr.heap.size := (Array.getElem?_eq_some_iff.1 hg).1
  exact ⟨⟨cs, (hb.block G hlt).trans hg, hs, hc⟩, h.below.trans (hb.mono h.below.size), h.low⟩
def bigL : List UInt8 := List.replicate 4096 97
def bigB : ByteArray := ⟨bigL.toArray⟩
theorem big_length : bigL.length = 4096 := by unfold bigL; rw [List.length_replicate]
theorem Fill.text {w wr : World} {G : Nat} (h : Fill w wr G 4096) : (convert 30 9 (.slice (some ⟨G, 0, none⟩) 4096 4096)).run Try.prog wr = .ok (.string bigB) wr := by
  obtain ⟨cs, hg, hs, hc⟩ := h.row
  have ho : wr.ownsRow w.heap.size 5 1 (.slice (some ⟨G, 0, none⟩) 4096 4096) bigL.length (Lib.byteCells bigL) := by
    rw [big_length]
    refine ⟨by rw [Lib.byteCells_length, big_length], .inr ⟨G, 4096, cs, rfl, h.low, hg, Nat.le_refl _, by decide, by omega, ?_⟩⟩
    apply List.ext_getElem?
    intro j
    by_cases hj : j < 4096
    · rw [List.getElem?_take_of_lt (by omega), Array.getElem?_toList, hc j hj]
      unfold Lib.byteCells bigL
      rw [List.getElem?_map, List.getElem?_replicate, if_pos hj]; rfl
    · rw [List.getElem?_eq_none (by rw [List.length_take]; omega), List.getElem?_eq_none (by rw [Lib.byteCells_length, big_length]; omega)]
  exact str_of_own ho
theorem body_big : bodyL bigL = bigL := by
  unfold bodyL bigL
  have : ∀ n, (List.replicate n (97 : UInt8)).flatMap escL = List.replicate n 97 := by
    intro n
    induction n with
    | zero => rfl
    | succ n ih => rw [List.replicate_succ, List.flatMap_cons, ih]; rfl
  exact this 4096
theorem big1 : unqL (34 :: (bigL ++ [34])) = (bigL, 0) := by
  have h := unq_quote bigL
  unfold quoteL at h
  rw [body_big, if_neg (by rw [big_length]; omega)] at h
  exact h
theorem big2 : unqL (34 :: (bigL ++ [92, 110, 34])) = ([], 3) := by
  have h := unq_quote (bigL ++ [10])
  unfold quoteL at h
  rw [body_append, body_big, if_pos (by rw [List.length_append, big_length]; decide), show bodyL [10] = [92, 110] by decide, List.append_assoc] at h
  exact h
theorem big3 : unqL (34 :: (bigL ++ [92, 110])) = ([], 4) := by
  have : midL (34 :: (bigL ++ [92, 110])) = none := by
    unfold midL
    rw [if_neg]
    rintro ⟨_, _, h⟩
    rw [show (34 :: (bigL ++ [92, 110])) = (34 :: bigL ++ [92]) ++ [110] by simp, List.getLast?_append] at h
    simp at h
  unfold unqL
  rw [this]; rfl
theorem big_unq (q : ByteArray) (l : List UInt8) (S : List UInt8) (E : Int) (hq : q.data.toList = l) (hl : l.length ≤ 1048576) (h : unqL l = (S, E)) (w : World) : Calls Try.prog 11 #[.string q] w fun e w' => e = .returned (.tuple #[.string ⟨S.toArray⟩, .int .i64 E]) ∧ Below w.heap.size w w' := by
  have U := Unquote_any q w (by rw [← size_toList, hq]; exact hl)
  rw [hq, h] at U
  exact U
theorem big_text (y : List UInt8) : (⟨#[34]⟩ : ByteArray) ++ bigB ++ ⟨y.toArray⟩ = ⟨(34 :: (bigL ++ y)).toArray⟩ := by
  unfold bigB
  rw [show (⟨#[34]⟩ : ByteArray) = ⟨[34].toArray⟩ from rfl, ByteArray.mk_append_mk, ByteArray.mk_append_mk, List.append_assoc]
  rfl
theorem big_short (y : List UInt8) (hy : y.length ≤ 3) : (34 :: (bigL ++ y)).length ≤ 1048576 := by rw [List.length_cons, List.length_append, big_length]; omega
set_option maxHeartbeats 4000000 in
set_option maxRecDepth 100000 in
theorem walk (w : World) : Calls Try.prog 7 #[] w fun e w' => e = .returned (.bool true) ∧ Below w.heap.size w w' := by
  have Q1 := Lib.hid (quo ⟨#[97, 98]⟩ ⟨#[34, 97, 98, 34]⟩ (by decide) (by decide))
  have Q2 := Lib.hid (quo ⟨#[10, 0, 34, 255]⟩ ⟨#[34, 92, 110, 92, 120, 48, 48, 92, 34, 92, 120, 102, 102, 34]⟩ (by decide) (by decide))
  have Q3 := Lib.hid (quo ⟨#[9, 92, 127, 32, 126]⟩ ⟨#[34, 92, 116, 92, 92, 92, 120, 55, 102, 32, 126, 34]⟩ (by decide) (by decide))
  have Q4 := Lib.hid (quo ⟨#[]⟩ ⟨#[34, 34]⟩ (by decide) (by decide))
  have Q5 := Lib.hid (quo ⟨#[13, 31]⟩ ⟨#[34, 92, 120, 48, 100, 92, 120, 49, 102, 34]⟩ (by decide) (by decide))
  go_enter Try.func7, Try.ntmps7
  go_wp2_with (first
    | (go_at_call 8; with_reducible refine (Q1.out _).mono ?_; rintro e w1 ⟨rfl, hb1⟩)
    | (go_at_call 8; with_reducible refine (Q2.out _).mono ?_; rintro e w2 ⟨rfl, hb2⟩; replace hb2 := Lib.hid (hb1.trans (hb2.mono hb1.size)))
    | (go_at_call 8; with_reducible refine (Q3.out _).mono ?_; rintro e w3 ⟨rfl, hb3⟩; replace hb3 := Lib.hid (hb2.out.trans (hb3.mono hb2.out.size)))
    | (go_at_call 8; with_reducible refine (Q4.out _).mono ?_; rintro e w4 ⟨rfl, hb4⟩; replace hb4 := Lib.hid (hb3.out.trans (hb4.mono hb3.out.size)))
    | (go_at_call 8; with_reducible refine (Q5.out _).mono ?_; rintro e w5 ⟨rfl, hb5⟩; replace hb5 := Lib.hid (hb4.out.trans (hb5.mono hb4.out.size))))
  clear Q1 Q2 Q3 Q4 Q5 hb1 hb2 hb3 hb4
  have hB := Lib.hid (hb5.out.alloc hb5.out.size (.cells #[.string ⟨#[34, 97, 98, 34]⟩, .string ⟨#[34, 92, 120, 54, 49, 92, 110, 92, 92, 34]⟩, .string ⟨#[34, 34]⟩, .string ⟨#[34, 92, 120, 48, 48, 92, 120, 102, 102, 92, 116, 92, 34, 34]⟩] 9))
  have hT := Lib.hid (texts_of (n := 4) (f := inT) w5 #[.string ⟨#[34, 97, 98, 34]⟩, .string ⟨#[34, 92, 120, 54, 49, 92, 110, 92, 92, 34]⟩, .string ⟨#[34, 34]⟩, .string ⟨#[34, 92, 120, 48, 48, 92, 120, 102, 102, 92, 116, 92, 34, 34]⟩] 9 rfl)
  clear hb5
  go_loopw [37] (fun i wr => ∃ k : Nat, k ≤ 4 ∧ i = .int .i64 k ∧ Hid (TextsAt wr w5.heap.size 4 inT) ∧ Hid (Below w.heap.size w wr)) (fun i _ => 4 - (intOf i).toNat)
  case atStart => exact ⟨0, by omega, rfl, hT, hB⟩
  case round =>
    obtain ⟨k, hk, rfl, HT, HB⟩ := hrel
    by_cases hlt : k < 4
    · have c0 := HT.out.cell k hlt
      have U := Lib.hid (in_unq k hlt)
      have oc := out_cell k hlt
      generalize inT k = t at c0 U
      generalize outT k = d at U oc
      have hd : (d.toList == d.toList) = true := by simp
      have k0 : (0 : Int) ≤ (k : Int) := by omega
      have k1 : (k : Int) < (4 : Int) := by omega
      clear hT hB
      go_wp2_with (go_at_call 11; refine (U.out _).mono ?_; rintro e w6 ⟨rfl, hb6⟩)
      go_roundw
      case rel =>
        exact ⟨k + 1, by omega, by go_num, (HT.out.below hb6).below ((Below.refl _ _).alloc (Nat.le_refl _) _), (HB.out.trans (hb6.mono HB.out.size)).alloc (Nat.le_trans HB.out.size hb6.size) _⟩
      case measure => simp [intOf]; omega
    · have hge : (4 : Int) ≤ (k : Int) := by omega
      obtain ⟨v, hv⟩ : ∃ v : World, v = wr := ⟨_, rfl⟩
      subst hv
      clear hT hB HT
      go_wp2_with fail
      have HB2 := Lib.hid (HB.out.alloc HB.out.size (.cells #[.string ⟨#[]⟩, .string ⟨#[34]⟩, .string ⟨#[97, 98]⟩, .string ⟨#[34, 97, 98]⟩, .string ⟨#[97, 98, 34]⟩, .string ⟨#[34, 97, 34, 98, 34]⟩, .string ⟨#[34, 92, 113, 34]⟩, .string ⟨#[34, 92, 120, 54, 34]⟩, .string ⟨#[34, 92, 120, 70, 70, 34]⟩, .string ⟨#[34, 92, 120, 54, 103, 34]⟩, .string ⟨#[34, 10, 34]⟩, .string ⟨#[34, 127, 34]⟩, .string ⟨#[34, 195, 164, 34]⟩, .string ⟨#[34, 92, 34]⟩, .string ⟨#[34, 92, 120, 34]⟩, .string ⟨#[39, 97, 39]⟩, .string ⟨#[32, 34, 97, 34]⟩, .string ⟨#[34, 92, 88, 54, 49, 34]⟩] 9))
      have HT2 := Lib.hid (texts_of (n := 18) (f := badT) v #[.string ⟨#[]⟩, .string ⟨#[34]⟩, .string ⟨#[97, 98]⟩, .string ⟨#[34, 97, 98]⟩, .string ⟨#[97, 98, 34]⟩, .string ⟨#[34, 97, 34, 98, 34]⟩, .string ⟨#[34, 92, 113, 34]⟩, .string ⟨#[34, 92, 120, 54, 34]⟩, .string ⟨#[34, 92, 120, 70, 70, 34]⟩, .string ⟨#[34, 92, 120, 54, 103, 34]⟩, .string ⟨#[34, 10, 34]⟩, .string ⟨#[34, 127, 34]⟩, .string ⟨#[34, 195, 164, 34]⟩, .string ⟨#[34, 92, 34]⟩, .string ⟨#[34, 92, 120, 34]⟩, .string ⟨#[39, 97, 39]⟩, .string ⟨#[32, 34, 97, 34]⟩, .string ⟨#[34, 92, 88, 54, 49, 34]⟩] 9 rfl)
      clear HB
      go_loopw [60] (fun i wr => ∃ k : Nat, k ≤ 18 ∧ i = .int .i64 k ∧ Hid (TextsAt wr v.heap.size 18 badT) ∧ Hid (Below w.heap.size w wr)) (fun i _ => 18 - (intOf i).toNat)
      case atStart => exact ⟨0, by omega, rfl, HT2, HB2⟩
      case round =>
        obtain ⟨k, hk, rfl, HT, HB⟩ := hrel
        by_cases hlt : k < 18
        · have c0 := HT.out.cell k hlt
          have U := Lib.hid (bad_unq k hlt)
          generalize badT k = t at c0 U
          have k0 : (0 : Int) ≤ (k : Int) := by omega
          have k1 : (k : Int) < (18 : Int) := by omega
          clear HT2 HB2
          go_wp2_with (go_at_call 11; refine (U.out _).mono ?_; rintro e w6 ⟨rfl, hb6⟩)
          go_roundw
          case rel =>
            exact ⟨k + 1, by omega, by go_num, HT.out.below hb6, HB.out.trans (hb6.mono HB.out.size)⟩
          case measure => simp [intOf]; omega
        · have hge : (18 : Int) ≤ (k : Int) := by omega
          clear HT2 HB2 HT
          obtain ⟨x, hx⟩ : ∃ x : World, x = wr := ⟨_, rfl⟩
          subst hx
          obtain ⟨i9, hi, hz0, hz1, hz2⟩ := info_parts byte_info
          go_wp2_with (at_make; refine wpList_make_full _ rfl _ _ 30 rfl w.heap.size 5 i9 _ 1 Try.underlying30 hi hz0 hz1 .i64 .i64 4096 4096 4096 rfl rfl rfl rfl (by rw [hz2]; decide) (by decide) HB.out.size ?_; intro wm hown hgrow)
          have F := Lib.hid (Fill.start hown hgrow HB.out)
          clear hown hgrow hi hz0 hz1 hz2
          go_loopw [10] (fun i wr => ∃ k : Nat, k ≤ 4096 ∧ i = .int .i64 k ∧ Hid (Fill w wr x.heap.size k)) (fun i _ => 4096 - (intOf i).toNat)
          case atStart => exact ⟨0, by omega, rfl, F⟩
          case round =>
            obtain ⟨k, hk, rfl, HF⟩ := hrel
            by_cases hlt : k < 4096
            · obtain ⟨v0, c0, f0⟩ := HF.out.cell hlt
              have k0 : (0 : Int) ≤ (k : Int) := by omega
              have k1 : (k : Int) < (4096 : Int) := by omega
              clear F
              go_wp2_with fail
              go_roundw
              case rel => exact ⟨k + 1, by omega, by go_num, HF.out.next hlt⟩
              case measure => simp [intOf]; omega
            · have hge : (4096 : Int) ≤ (k : Int) := by omega
              obtain rfl : k = 4096 := by omega
              clear F
              have C := HF.out.text
              have U1 := Lib.hid (big_unq ⟨(34 :: (bigL ++ [34])).toArray⟩ _ _ _ rfl (big_short [34] (by decide)) big1)
              have U2 := Lib.hid (big_unq ⟨(34 :: (bigL ++ [92, 110, 34])).toArray⟩ _ _ _ rfl (big_short [92, 110, 34] (by decide)) big2)
              have U3 := Lib.hid (big_unq ⟨(34 :: (bigL ++ [92, 110])).toArray⟩ _ _ _ rfl (big_short [92, 110] (by decide)) big3)
              have T1 := big_text [34]
              have T2 := big_text [92, 110, 34]
              have T3 := big_text [92, 110]
              rw [show ByteArray.mk bigL.toArray = bigB from rfl] at U1
              generalize (ByteArray.mk (34 :: (bigL ++ [34])).toArray) = q1 at U1 T1
              generalize (ByteArray.mk (34 :: (bigL ++ [92, 110, 34])).toArray) = q2 at U2 T2
              generalize (ByteArray.mk (34 :: (bigL ++ [92, 110])).toArray) = q3 at U3 T3
              have hd : (bigB.toList == bigB.toList) = true := by simp
              have F0 := HF
              go_wp2_with (go_at_call 11; with_reducible refine (U1.out _).mono ?_; rintro e w6 ⟨rfl, hb6⟩; replace HF := Lib.hid (HF.out.keep hb6); have C1 := HF.out.text; clear C)
              go_wp2_with (go_at_call 11; with_reducible refine (U2.out _).mono ?_; rintro e w7 ⟨rfl, hb7⟩; replace HF := Lib.hid (HF.out.keep hb7); have C2 := HF.out.text; clear C1)
              go_wp2_with (go_at_call 11; with_reducible refine (U3.out _).mono ?_; rintro e w8 ⟨rfl, hb8⟩; replace HF := Lib.hid (HF.out.keep hb8); have C3 := HF.out.text; clear C2)
              go_wp2_with (go_at_call 10; refine (works_true _).mono ?_; rintro e w9 ⟨rfl, hb9⟩)
              go_ret
              exact ⟨rfl, HF.out.below.trans (hb9.mono HF.out.below.size)⟩
theorem own : ownKnob Try.prog.godebug = none := by kernel_rfl
theorem laidOut : laidOutB Try.prog = true := by kernel_rfl
set_option maxRecDepth 100000 in
theorem contract (H : Type) (enc : TypeId × Value → H) (W : World) (base : Nat) (args : Array Value) (ds gs : List (DataW H)) (before : List MemPlace)
    (hval : ∀ (j : Nat) t v, Try.f7.params[j]? = some t → args[j]? = some v → Value.okWide Try.prog W .any base t v)
    (hW : DataW.Whole enc Try.prog Try.f7.params.toList Rows.quoteKnownSpec.vars false W args.toList ds gs before)
    (hsz0 : (DataW.weightsEach Try.prog (Try.f7.params.toList ++ Rows.quoteKnownSpec.plain.varTypes Try.prog) (ds ++ gs)).all (· ≤ reachBytes) = true) :
    Calls Try.prog 7 args W fun e W' => ∃ v, e = .returned v ∧ Rows.quoteKnownSpec.post enc Try.prog Try.f7 false true false false W args v W' := by
  have hW' := hW
  obtain ⟨p, q, hA0, hV, rfl, hfz, hnd⟩ := hW
  have hA : DataW.TrodAll enc Try.prog W 0 (fun _ => true) true Try.f7.params.toList args.toList ds p := hA0
  have hsz := hsz0
  rw [Try.params7] at hA hval hsz
  obtain ⟨hargs, rfl, rfl⟩ := trodAll_nil hA
  obtain rfl : args = #[] := by cases args; simp_all
  obtain ⟨rfl, rfl⟩ := trodVars_none hV
  clear hA0 hsz hsz0
  simp only [List.append_nil] at hW'
  refine (walk W).mono fun e W' ⟨he, hb⟩ => ?_
  subst he
  exact ⟨_, rfl, law_post laidOut (by kernel_rfl) (by kernel_rfl) Try.underlying4 hW' hb rfl⟩

set_option maxRecDepth 100000 in
theorem lifted (os : Os) (started : os.Started) (H : Type) (enc : TypeId × Value → H) :
    ReturnsInHanded {} Try.checked os 7 .any (Rows.quoteKnownSpec.pre6 enc Try.prog Try.f7 Rows.quoteKnownRow.domain false) (Rows.quoteKnownSpec.post enc Try.prog Try.f7 false true false false) := by
  refine returnsInHanded_of_change_sized (C := Try.checked) own started (by kernel_rfl) Try.func7
    (ChangeSpec.witness6 (enc := enc) (C := Try.checked) false ⟨#[], #[], []⟩ 8 (by kernel_rfl) (by kernel_rfl) (by kernel_rfl) (by kernel_rfl)) ?_
  intro W base args ds gs before hval hW _ hsz _
  exact contract H enc W base args ds gs before hval hW hsz
/-- The row. -/
theorem holds : Rows.QuoteKnownSaid :=
  OpenClaim.holds_of_wide 7 Try.f7 rfl rfl rfl rfl rfl rfl rfl ⟨rfl, rfl, rfl, rfl, rfl⟩ rfl rfl rfl rfl rfl (by kernel_rfl) Try.func7 (by kernel_rfl)
    (of_decide_eq_true (by kernel_rfl)) (by unfold Func.isWrapper; first | (rw [if_pos (by decide +kernel)]; kernel_rfl) | (rw [if_neg (by decide +kernel)]; exact ⟨rfl, rfl⟩))
    (fun os started H enc _ => lifted os started H enc)
end Go.Proofs.Ytbkejdahihijeaa.quoteKnown
