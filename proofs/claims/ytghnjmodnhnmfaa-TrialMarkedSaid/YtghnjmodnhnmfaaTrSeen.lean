/- trial.Seen; slices.Sort and slices.Compact at ints, in place. -/
import Derived.Test.YtghnjmodnhnmfaaTrFollow
import Derived.Test.YtghnjmodnhnmfaaRcKeys
import Derived.Shelf.Slices.CompactI
namespace Go.Proofs.Ytghnjmodnhnmfaa
set_option maxRecDepth 20000
open Go.RowKit Go.Maps Go.Sort Go.Shelf

theorem ok_held {g : List OB} (hn : g.length ≤ 900) (n : Int) (h : OkP g n) : 1 ≤ n ∧ n ≤ g.length ∧ ∀ x ∈ heldG g n, wf64 x ∧ (looksB g x = true → OkP g x) := by
  obtain ⟨h1, h2⟩ := looks_range h.2
  refine ⟨h1, h2, fun x hx => ?_⟩
  have := heldG_ok h.1 hx
  obtain ⟨h3, h4⟩ := looks_range this.2
  exact ⟨⟨by omega, by omega⟩, fun _ => this⟩
set_option maxHeartbeats 2000000 in
theorem Seen_any {w : World} {A : Option Addr} {c : Nat} {g : List OB} (hg : GAt w A g) (hn : g.length ≤ 900) (hs : ∀ o ∈ g, o.slots.length ≤ 1048576) {B : Option Addr} {d : Nat} {l : List Int} (hl : l.length ≤ 1099511627776) (h : IntsAt w B l) (hwf : ∀ x ∈ l, wf64 x) :
    Calls Try.prog 16 #[gV A g.length c, .slice B l.length d] w (GivesInts (seenL g l) w) := by
  have CH : Hid (∀ W, Below w.heap.size w W → Calls Try.prog 22 #[gV A g.length c] W fun e w' => e = .returned (.bool (checkB g)) ∧ Below W.heap.size W w') := fun W hW => Check_any (hg.below hW) (by omega)
  cases hc : checkB g with
  | false =>
    rw [show seenL g l = [] by unfold seenL; rw [hc]; rfl]
    rw [hc] at CH
    clear hg hc h hl hs hwf
    generalize g.length = n at *
    generalize l.length = nl at *
    go_enter Try.func16, Try.ntmps16
    go_wp2_with (go_at_call 22; (with_reducible refine (CH.out _ ((Below.refl _ _).alloc (Nat.le_refl _) _)).mono ?_); rintro e w1 ⟨rfl, hb⟩; have B1 := Lib.hid (below_box hb); clear hb)
    go_ret
    exact ⟨_, rfl, World.ownsRow_nil _ _ _ _, B1.out⟩
  | true =>
    rw [show seenL g l = followL g (looksB g) l by unfold seenL; rw [hc]; rfl]
    rw [hc] at CH
    have LK : Hid (∀ W, Below w.heap.size w W → Calls Try.prog 54 #[gV A g.length c] W fun e w' => ∃ b, e = .returned (.func (.func 113) #[] #[bV b]) ∧ YesAt w' (.func (.func 113) #[] #[bV b]) (fun _ => True) (looksB g) ∧ Below W.heap.size W w') := fun W hW => looksAt_any (hg.below hW) (by omega)
    have FO : Hid (∀ W f, Below w.heap.size w W → YesAt W f (fun _ => True) (looksB g) → Calls Try.prog 53 #[gV A g.length c, .slice B l.length d, f] W (GivesInts (followL g (looksB g) l) W)) := fun W f hW hf =>
      follow_any (hg.below hW) hn hs (hf.imp fun _ _ => trivial) hl (h.below hW) hwf (OkP g) (ok_held hn) (fun x _ hx => ⟨hc, hx⟩)
    clear hg hc h hl hs hwf
    generalize followL g (looksB g) l = R at *
    generalize looksB g = lk at *
    generalize g.length = n at *
    generalize l.length = nl at *
    go_enter Try.func16, Try.ntmps16
    go_upto_region 3 with (go_at_call 22; (with_reducible refine (CH.out _ ((Below.refl _ _).alloc (Nat.le_refl _) _)).mono ?_); rintro e V ⟨rfl, hb⟩; have BV := Lib.hid (below_box hb); have c0 := boxed hb (j := 0) rfl; have zV : w.heap.size < V.heap.size := (by have := hb.size; simp at this; omega); clear hb)
    have c0' : V.cell? ⟨w.heap.size, 0, none⟩ = some (.slice A n c) := c0
    clear c0
    have CX : Hid (∀ W, Below V.heap.size V W → W.cell? ⟨w.heap.size, 0, none⟩ = some (.slice A n c)) := fun W hW => (hW.cell (p := ⟨w.heap.size, 0, none⟩) zV).trans c0'
    go_region_held3 (fun w' => w'.cell? ⟨w.heap.size, 0, none⟩ = some (.slice A n c) ∧ Below V.heap.size V w') (first | exact ⟨c0', (Below.refl _ _).drew⟩ | exact held_keep (fun W => CX.out W) (by assumption) (by assumption))
      (first
      | (go_at_call 54; (with_reducible refine (LK.out _ (by exact BV.out.trans ((by assumption : _ ∧ Below V.heap.size V _).2.mono BV.out.size))).mono ?_); rintro e w1 ⟨b1, rfl, hy1, hb1⟩)
      | (go_at_call 53; (with_reducible refine (FO.out _ _ (by exact BV.out.trans ((by assumption : _ ∧ Below V.heap.size V _).2.mono BV.out.size)) (by assumption)).mono ?_); rintro e w2 ⟨v2, rfl, ho2, hb2⟩))
    have HV : w2.cell? ⟨w.heap.size, 0, none⟩ = some (.slice A n c) ∧ Below V.heap.size V w2 := by assumption
    have B2 := Lib.hid (BV.out.trans (HV.2.mono BV.out.size))
    have O2 := Lib.hid ho2
    have S1 : V.heap.size ≤ w1.heap.size := hb1.size
    clear HV hy1 ho2 hb1 hb2
    go_wp2_with fail
    go_ret
    exact ⟨v2, rfl, own_less O2.out (by have := BV.out.size; omega), B2.out⟩

theorem add_zero_at2 (bk j : Nat) : (⟨bk, 0, none⟩ : Addr).add j = ⟨bk, 0 + j, none⟩ := by unfold Addr.add; split <;> simp_all
/-- A row of numbers that may be written. -/
def RowA (base : Nat) (w : World) (v : Value) (xs : List Int) : Prop :=
  (v = .slice none 0 0 ∧ xs = []) ∨ ∃ blk cap, v = .slice (some ⟨blk, 0, none⟩) xs.length cap ∧ xs.length ≤ cap ∧ base ≤ blk ∧ blk < w.heap.size ∧ Holds (Value.int .i64) w blk 0 xs.toArray
theorem RowA.of_own {w : World} {base : Nat} {v : Value} {xs : List Int} (h : w.ownsRow base 3 1 v xs.length (xs.map (Value.int .i64))) : RowA base w v xs := by
  have h0 := h
  obtain ⟨_, ⟨rfl, h1⟩ | ⟨g, cap, cur, rfl, hb, hc, h1, h2, h3, h4⟩⟩ := h
  · exact .inl ⟨rfl, List.length_eq_zero_iff.1 h1⟩
  · refine .inr ⟨g, cap, rfl, by omega, hb, (Array.getElem?_eq_some_iff.1 hc).1, fun j hj => ⟨?_, by simp [World.frozen?, hc]⟩⟩
    have hj2 : j < xs.length := by simpa using hj
    have := h0.cells rfl j (.int .i64 xs[j]) (by simp [hj2])
    rw [add_zero_at2] at this
    rw [this]
    simp [hj2]
theorem RowA.ints {w : World} {base : Nat} {v : Value} {xs : List Int} (h : RowA base w v xs) : ∃ A c, v = .slice A xs.length c ∧ IntsAt w A xs ∧ ∀ a, A = some a → base ≤ a.block := by
  rcases h with ⟨rfl, rfl⟩ | ⟨blk, cap, rfl, hc, hb, hl, hH⟩
  · exact ⟨none, 0, rfl, fun i x hx => by simp at hx, fun a ha => by cases ha⟩
  · refine ⟨some ⟨blk, 0, none⟩, cap, rfl, fun i x hx => ⟨_, rfl, hl, ?_⟩, fun a ha => by injection ha with ha; subst ha; exact hb⟩
    have hi := (List.getElem?_eq_some_iff.1 hx).1
    have := (hH i (by simpa using hi)).1
    rw [add_zero_at2, this]
    have e := (List.getElem?_eq_some_iff.1 hx).2
    simp [hi, e]
theorem RowA.below {w w' : World} {base : Nat} {v : Value} {xs : List Int} (h : RowA base w v xs) (hb : Below w.heap.size w w') : RowA base w' v xs := by
  rcases h with h | ⟨blk, cap, e, hc, hb1, hl, hH⟩
  · exact .inl h
  · exact .inr ⟨blk, cap, e, hc, hb1, Nat.lt_of_lt_of_le hl hb.size, fun j hj => ⟨(hb.cell (p := ⟨blk, 0 + j, none⟩) hl).trans (hH j hj).1, (hb.frozen (p := ⟨blk, 0 + j, none⟩) hl).trans (hH j hj).2⟩⟩
theorem RowA.frm {w w' : World} {base : Nat} {v : Value} {xs : List Int} {S : Nat → Prop} (h : RowA base w v xs) (hb : Frm S w w') (hs : ∀ k, v.ownBlock = some k → ¬ S k) : RowA base w' v xs := by
  rcases h with h | ⟨blk, cap, e, hc, hb1, hl, hH⟩
  · exact .inl h
  · have hn : ¬ S blk := hs blk (by rw [e]; rfl)
    exact .inr ⟨blk, cap, e, hc, hb1, Nat.lt_of_lt_of_le hl hb.size, fun j hj => ⟨(hb.cell (p := ⟨blk, 0 + j, none⟩) hl hn).trans (hH j hj).1, (World.frozen?_of_block (w := w) (a := ⟨blk, 0 + j, none⟩) (hb.block _ hl hn)).trans (hH j hj).2⟩⟩
theorem frm_put0 {w : World} {bk q : Nat} {dk : Array Int} : Frm (fun k => k = bk) w (putRow (Value.int .i64) (Sort.ahead w q) bk 0 dk) := by
  refine ⟨rfl, rfl, rfl, by simp, fun k _ hn => ?_⟩
  simp only [putRow, mapBlock, Array.getElem?_modify]
  rw [if_neg (fun e => hn e.symm)]
  rfl
theorem frm_put {w : World} {bk q : Nat} {dk : Array Int} {os : Array Obj} : Frm (fun k => k = bk) w (grow (putRow (Value.int .i64) (Sort.ahead w q) bk 0 dk) os) :=
  frm_put0.trans ⟨rfl, rfl, rfl, by simp [grow], fun _ hk _ => heap_grow_old _ os hk⟩
theorem Sort_any {w : World} {base : Nat} {v : Value} {xs : List Int} (h : RowA base w v xs) (hl : xs.length ≤ 1099511627776) :
    Calls Try.prog 64 #[v] w fun e w' => e = .returned (.tuple #[]) ∧ RowA base w' v (sortI xs) ∧ Frm (fun k => v.ownBlock = some k) w w' := by
  rcases h with ⟨rfl, rfl⟩ | ⟨blk, cap, rfl, hc, hb, hlt, hH⟩
  · have := AnyM.slices_Sort_int_none Try.laysSlM5 none 0 w
    change Calls Try.prog 64 _ _ _ at this
    refine this.mono ?_
    rintro e w' ⟨rfl, rfl⟩
    exact ⟨rfl, .inl ⟨rfl, by simp [sortI]⟩, Frm.refl _ _⟩
  · have := AnyM.slices_Sort_int Try.laysSlM5 blk 0 cap xs w hH hlt (by omega)
    change Calls Try.prog 64 _ _ _ at this
    refine this.mono ?_
    rintro e w' ⟨rfl, n, os, rfl⟩
    have hF : Frm (fun k => k = blk) w (grow (putRow (Value.int .i64) (Sort.ahead w n) blk 0 (xs.mergeSort fun x y => decide (x ≤ y)).toArray) os) := frm_put
    refine ⟨rfl, .inr ⟨blk, cap, by simp [sortI], by simpa [sortI] using hc, hb, Nat.lt_of_lt_of_le hlt hF.size, ?_⟩, hF.mono fun k hk => by rw [hk]; rfl⟩
    have h0 : Holds (Value.int .i64) (Sort.ahead w n) blk 0 xs.toArray := hH
    have h1 := holds_putRow (Value.int .i64) (Sort.ahead w n) blk 0 xs.toArray (sortI xs).toArray h0 (by simp [sortI])
    intro j hj
    have hg : (grow (putRow (Value.int .i64) (Sort.ahead w n) blk 0 (sortI xs).toArray) os).heap[blk]? = (putRow (Value.int .i64) (Sort.ahead w n) blk 0 (sortI xs).toArray).heap[blk]? := heap_grow_old _ os (by simpa using hlt)
    exact ⟨(World.cell?_of_block (w := putRow (Value.int .i64) (Sort.ahead w n) blk 0 (sortI xs).toArray) (a := ⟨blk, 0 + j, none⟩) hg).trans (h1 j hj).1, (World.frozen?_of_block (w := putRow (Value.int .i64) (Sort.ahead w n) blk 0 (sortI xs).toArray) (a := ⟨blk, 0 + j, none⟩) hg).trans (h1 j hj).2⟩
end Go.Proofs.Ytghnjmodnhnmfaa
