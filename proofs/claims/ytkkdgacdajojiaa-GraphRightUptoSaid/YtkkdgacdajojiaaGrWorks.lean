/- works of this stage's laws. -/
import Derived.Test.YtkkdgacdajojiaaGrFour
import Derived.Test.YtkkdgacdajojiaaFacts
import Derived.Deep.RegionLaw
namespace Go.Proofs.Ytkkdgacdajojiaa
set_option maxRecDepth 20000
open Go.RowKit Go.Maps

def fourM : List OB := [⟨5, 2, [], ⟨#[97]⟩, 0⟩, ⟨6, 1, [(5, 1), (6, 2), (6, 1)], ⟨#[]⟩, 0⟩, ⟨0, 0, [], ⟨#[]⟩, 0⟩, ⟨9, 0, [(5, 1)], ⟨#[]⟩, 0⟩]
theorem empty_list : (⟨#[]⟩ : ByteArray).toList = [] := by kernel_rfl
theorem four_check : checkB fourL = true := by kernel_rfl
theorem four_bad : checkB fourM = false := by kernel_rfl
theorem four_into : intoL fourL = [2, 1, 0, 0] := by kernel_rfl
theorem four_exact : exactL fourL [] = [] := by kernel_rfl
theorem four_exact2 : exactL fourL [(9, 4), (5, 1), (3, 5)] = [1, 4] := by kernel_rfl
theorem four_hold1 : holdersL fourL 1 = [2, 4] := by kernel_rfl
theorem four_hold2 : holdersL fourL 2 = [2] := by kernel_rfl
/-- The chapter's graph in memory; its last value of the second object. -/
structure FourAt (w : World) (b s t : Nat) (k n : Int) : Prop where
  lt : b < w.heap.size
  objs : w.heap[b]? = some (.cells #[iV 5, iV 2, .slice none 0 0, .string ⟨#[97]⟩, iV 0, iV 6, iV 1, .slice (some ⟨s, 0, none⟩) 3 3, .string ⟨#[]⟩, iV 0, iV 0, iV 0, .slice none 0 0, .string ⟨#[]⟩, iV 0, iV 9, iV 0, .slice (some ⟨t, 0, none⟩) 1 1, .string ⟨#[]⟩, iV 0] 56 (0, 0))
  two : w.heap[s]? = some (.cells #[iV 5, iV 1, iV 6, iV 2, iV k, iV n] 24 (0, 0))
  last : w.heap[t]? = some (.cells #[iV 5, iV 1] 24 (0, 0))
theorem at_lt {w : World} {b : Nat} {o : Obj} (h : w.heap[b]? = some o) : b < w.heap.size := (Array.getElem?_eq_some_iff.1 h).1
theorem FourAt.below {w w' : World} {b s t : Nat} {k n : Int} (h : FourAt w b s t k n) (hb : Below w.heap.size w w') : FourAt w' b s t k n :=
  ⟨Nat.lt_of_lt_of_le h.lt hb.size, (hb.block _ (at_lt h.objs)).trans h.objs, (hb.block _ (at_lt h.two)).trans h.two, (hb.block _ (at_lt h.last)).trans h.last⟩
theorem pairs_block {w : World} {s : Nat} {cs : List Value} {l : List (Int × Int)} (h : w.heap[s]? = some (.cells cs.toArray 24 (0, 0))) (hc : ∀ i p, l[i]? = some p → cs[i * 2]? = some (iV p.1) ∧ cs[i * 2 + 1]? = some (iV p.2)) : PairsAt w (some ⟨s, 0, none⟩) l := by
  intro i p hp
  obtain ⟨h1, h2⟩ := hc i p hp
  have e : ∀ j, (⟨s, 0, none⟩ : Addr).add j = ⟨s, j, none⟩ := fun j => by unfold Addr.add; split <;> simp_all
  refine ⟨_, rfl, at_lt h, ?_, ?_⟩
  · rw [e]; simp [World.cell?, h, h1]
  · rw [e, add_one]; simp [World.cell?, h, h2]
theorem FourAt.graph {w : World} {b s t : Nat} {k n : Int} (h : FourAt w b s t k n) : GAt w (some ⟨b, 0, none⟩) [⟨5, 2, [], ⟨#[97]⟩, 0⟩, ⟨6, 1, [(5, 1), (6, 2), (k, n)], ⟨#[]⟩, 0⟩, ⟨0, 0, [], ⟨#[]⟩, 0⟩, ⟨9, 0, [(5, 1)], ⟨#[]⟩, 0⟩] := by
  have hp : PairsAt w (some ⟨s, 0, none⟩) [(5, 1), (6, 2), (k, n)] := pairs_block (cs := [iV 5, iV 1, iV 6, iV 2, iV k, iV n]) h.two (fun i p hp => by
    match i, hp with
    | 0, hp => injection hp with hp; subst hp; exact ⟨rfl, rfl⟩
    | 1, hp => injection hp with hp; subst hp; exact ⟨rfl, rfl⟩
    | 2, hp => injection hp with hp; subst hp; exact ⟨rfl, rfl⟩
    | j + 3, hp => simp at hp)
  have hq : PairsAt w (some ⟨t, 0, none⟩) [(5, 1)] := pairs_block (cs := [iV 5, iV 1]) h.last (fun i p hp => by
    match i, hp with
    | 0, hp => injection hp with hp; subst hp; exact ⟨rfl, rfl⟩
    | j + 1, hp => simp at hp)
  have hz : PairsAt w none [] := fun i p hp => by simp at hp
  have ho := h.objs
  have cell : ∀ j, w.cell? ⟨b, j, none⟩ = (#[iV 5, iV 2, .slice none 0 0, .string ⟨#[97]⟩, iV 0, iV 6, iV 1, .slice (some ⟨s, 0, none⟩) 3 3, .string ⟨#[]⟩, iV 0, iV 0, iV 0, .slice none 0 0, .string ⟨#[]⟩, iV 0, iV 9, iV 0, .slice (some ⟨t, 0, none⟩) 1 1, .string ⟨#[]⟩, iV 0] : Array Value)[j]? := fun j => by simp [World.cell?, ho]
  intro i o hi
  match i, hi with
  | 0, hi => injection hi with hi; subst hi; exact ⟨_, none, 0, rfl, h.lt, ⟨cell 0, cell 1, cell 2, cell 3, cell 4⟩, hz, by simp⟩
  | 1, hi => injection hi with hi; subst hi; exact ⟨_, some ⟨s, 0, none⟩, 3, rfl, h.lt, ⟨cell 5, cell 6, cell 7, cell 8, cell 9⟩, hp, by simp⟩
  | 2, hi => injection hi with hi; subst hi; exact ⟨_, none, 0, rfl, h.lt, ⟨cell 10, cell 11, cell 12, cell 13, cell 14⟩, hz, by simp⟩
  | 3, hi => injection hi with hi; subst hi; exact ⟨_, some ⟨t, 0, none⟩, 1, rfl, h.lt, ⟨cell 15, cell 16, cell 17, cell 18, cell 19⟩, hq, by simp⟩
  | j + 4, hi => simp at hi
theorem ints_alloc (l : List Int) (w : World) (T : TypeId) : IntsAt (w.alloc (.cells (l.map (Value.int .i64)).toArray T (0, 0))) (some ⟨w.heap.size, 0, none⟩) l := by
  intro i x hx
  have e : (⟨w.heap.size, 0, none⟩ : Addr).add i = ⟨w.heap.size, i, none⟩ := by unfold Addr.add; split <;> simp_all
  refine ⟨_, rfl, by simp, ?_⟩
  rw [e]
  simp [go_sem, hx]
theorem ints_call {W : World} {A : Option Addr} {c : Nat} (l : List Int) (T : TypeId) (h : IntsAt W A l) (hl : l.length ≤ 140737488355328) (n : Nat) (hn : n = l.length) (oo : Obj) (ho : oo = .cells (l.map (Value.int .i64)).toArray T (0, 0)) :
    Calls Try.prog 43 #[.slice A n c, .slice (some ⟨W.heap.size, 0, none⟩) n n] (W.alloc oo) fun e w' => e = .returned (.bool true) ∧ Below (W.alloc oo).heap.size (W.alloc oo) w' := by
  subst hn; subst ho
  exact ints_any _ _ _ _ _ _ hl (h.below ((Below.refl _ _).alloc (Nat.le_refl _) _)) (ints_alloc l W T)
theorem ints_two {W : World} {A B : Option Addr} (c d : Nat) (l : List Int) (hA : IntsAt W A l) (hB : IntsAt W B l) (hl : l.length ≤ 140737488355328) (n : Nat) (hn : n = l.length) :
    Calls Try.prog 43 #[.slice A n c, .slice B n d] W fun e w' => e = .returned (.bool true) ∧ Below W.heap.size W w' := by
  subst hn
  exact ints_any _ _ _ _ _ _ hl hA hB
/-- A slice of these numbers; of these values. -/
def ISl (w : World) (v : Value) (l : List Int) : Prop := ∃ A c, v = .slice A l.length c ∧ IntsAt w A l
theorem ISl.below {w w' : World} {v : Value} {l : List Int} (h : ISl w v l) (hb : Below w.heap.size w w') : ISl w' v l := by
  obtain ⟨A, c, e, hi⟩ := h
  exact ⟨A, c, e, hi.below hb⟩
def PSl (w : World) (v : Value) (l : List (Int × Int)) : Prop := ∃ A c, v = .slice A l.length c ∧ PairsAt w A l
theorem PSl.below {w w' : World} {v : Value} {l : List (Int × Int)} (h : PSl w v l) (hb : Below w.heap.size w w') : PSl w' v l := by
  obtain ⟨A, c, e, hi⟩ := h
  exact ⟨A, c, e, pairs_below hi hb⟩
/-- What can be true of a value: that it is just this; a slice of these numbers; of these values. -/
inductive Fact where
  | is (v : Value)
  | ints (l : List Int)
  | vals (l : List (Int × Int))
def Holds (w : World) (v : Value) : Fact → Prop
  | .is u => v = u
  | .ints l => ISl w v l
  | .vals l => PSl w v l
theorem Holds.below {w w' : World} {v : Value} : ∀ {F : Fact}, Holds w v F → Below w.heap.size w w' → Holds w' v F
  | .is _, h, _ => h
  | .ints _, h, hb => ISl.below h hb
  | .vals _, h, hb => PSl.below h hb
/-- What is true of each operation's value in works. -/
def factW (b : Nat) : Nat → Fact
  | 0 | 5 | 10 | 20 | 26 => .is (gV (some ⟨b, 0, none⟩) 4 4)
  | 1 | 2 => .ints [2, 1, 0, 0]
  | 6 => .ints []
  | 11 => .is (vV (9, 4))
  | 12 => .is (vV (5, 1))
  | 13 => .is (vV (3, 5))
  | 14 => .vals [(9, 4), (5, 1), (3, 5)]
  | 15 | 16 => .ints [1, 4]
  | 21 | 22 => .ints [2, 4]
  | 27 | 28 => .ints [2]
  | _ => .is (.bool true)
def RW (b i : Nat) (v : Value) (w : World) : Prop := Holds w v (factW b i)
theorem RW.below {b i : Nat} {v : Value} {w w' : World} (h : RW b i v w) (hb : Below w.heap.size w w') : RW b i v w' := Holds.below h hb
def TW (b bx : Nat) (f : Nat → Value) : Act := ⟨#[.bool false, bV bx, .bool true, f 31, gV (some ⟨b, 0, none⟩) 4 4, .agg #[.slice (some ⟨b, 0, none⟩) 4 4], .bool true, f 0, f 1, f 2, f 3, f 4, f 5, f 6, f 7, f 8, f 9, f 10, f 11, f 12, f 13, f 14, f 15, f 16, f 17, f 18, f 19, f 20, f 21, f 22, f 23, f 24, f 25, f 26, f 27, f 28, f 29, f 30, undef, undef, undef, undef, undef, undef, undef, undef, undef, undef, undef, undef, undef, undef, undef, undef], []⟩
theorem FourAt.set {w : World} {b s t : Nat} (h : FourAt w b s t 3 7) (h1 : s ≠ b) (h2 : s ≠ t) : FourAt ((w.setCell ⟨s, 4, none⟩ (iV 6)).setCell ⟨s, 5, none⟩ (iV 1)) b s t 6 1 := by
  have o := fun (k : Nat) (hk : k ≠ s) => (heap_set_ne (w.setCell ⟨s, 4, none⟩ (iV 6)) ⟨s, 5, none⟩ (iV 1) (k := k) hk).trans (heap_set_ne w ⟨s, 4, none⟩ (iV 6) (k := k) hk)
  have e := heap_setCell_same w s 4 _ _ (iV 6) h.two
  have e2 := heap_setCell_same (w.setCell ⟨s, 4, none⟩ (iV 6)) s 5 _ _ (iV 1) e
  exact ⟨by have := h.lt; simpa using this, (o b (Ne.symm h1)).trans h.objs, e2, (o t (Ne.symm h2)).trans h.last⟩
theorem FourAt.ne {w : World} {b s t : Nat} {k n : Int} (h : FourAt w b s t k n) : s ≠ b ∧ s ≠ t := by
  constructor
  · rintro rfl
    have h1 := h.objs
    rw [h.two] at h1
    injection h1 with h1; injection h1 with _ h1; exact absurd h1 (by decide)
  · rintro rfl
    have h1 := h.last
    rw [h.two] at h1
    injection h1 with h1; injection h1 with h1; have h2 := congrArg Array.size h1; simp at h2
set_option maxHeartbeats 8000000 in
theorem works_true (w : World) : Calls Try.prog 33 #[] w fun e w' => e = .returned (.bool true) ∧ Below w.heap.size w w' := by
  go_enter Try.func33, Try.ntmps33
  go_upto_region 3 with (first
    | (go_at_call 45; (with_reducible refine (four_any _).mono ?_); rintro e w1 ⟨⟨b, s, t, rfl, h1, h2, h3, h4, h5, h6⟩, hb⟩; have F1 : Hid (FourAt w1 b s t 3 7) := (show FourAt _ _ _ _ _ _ from ⟨h1, h4, h5, h6⟩); have HS := Lib.hid h3; have B1 := Lib.hid hb; clear h1 h2 h3 h4 h5 h6 hb)
    | (go_at_call 31; refine (Check_any (g := fourL) (c := 4) (F1.out.below ((Below.refl _ _).alloc (Nat.le_refl _) _)).graph (by simp [fourL])).mono ?_; rintro e V ⟨he, hb⟩; rw [four_check] at he; subst he; have c0 := boxed hb (j := 0) rfl; have zV : w1.heap.size < V.heap.size := (by have := hb.size; simp at this; omega); have BV := Lib.hid (below_box hb); clear hb))
  have FV : Hid (FourAt V b s t 3 7) := F1.out.below BV.out
  have B2 : Hid (Below w.heap.size w V) := B1.out.trans (BV.out.mono B1.out.size)
  have c0' : V.cell? ⟨w1.heap.size, 0, none⟩ = some (.slice (some ⟨b, 0, none⟩) 4 4) := c0
  clear c0
  obtain ⟨bx, hbx⟩ : ∃ bx, bx = w1.heap.size := ⟨_, rfl⟩
  rw [← hbx] at c0' zV ⊢
  have HBX := Lib.hid hbx
  clear hbx
  have G : Hid (∀ W, Below V.heap.size V W → GAt W (some ⟨b, 0, none⟩) fourL) := fun W hW => (FV.out.below hW).graph
  have CX : Hid (∀ W, Below V.heap.size V W → W.cell? ⟨bx, 0, none⟩ = some (.slice (some ⟨b, 0, none⟩) 4 4)) := fun W hW => (hW.cell (p := ⟨bx, 0, none⟩) zV).trans c0'
  have CI : Hid (∀ W, Below V.heap.size V W → Calls Try.prog 36 #[gV (some ⟨b, 0, none⟩) 4 4] W (GivesI [2, 1, 0, 0] W)) := fun W hW => by
    have := Into_any (c := 4) (G.out W hW) (by simp [fourL])
    rwa [four_into] at this
  have CE : Hid (∀ W, Below V.heap.size V W → Calls Try.prog 38 #[gV (some ⟨b, 0, none⟩) 4 4, .slice none 0 0] W (GivesI [] W)) := fun W hW => by
    have := Exact_any (c := 4) (d := 0) (B := none) (more := []) (G.out W hW) (by simp [fourL]) (fun i p hp => by simp at hp) (by simp)
    rwa [four_exact] at this
  have CE2 : Hid (∀ W Y d, Below V.heap.size V W → PairsAt W (some Y) [(9, 4), (5, 1), (3, 5)] → Calls Try.prog 38 #[gV (some ⟨b, 0, none⟩) 4 4, .slice (some Y) 3 d] W (GivesI [1, 4] W)) := fun W Y d hW hY => by
    have := Exact_any (c := 4) (d := d) (more := [(9, 4), (5, 1), (3, 5)]) (G.out W hW) (by simp [fourL]) hY (by simp)
    rwa [four_exact2] at this
  have CH1 : Hid (∀ W, Below V.heap.size V W → Calls Try.prog 40 #[gV (some ⟨b, 0, none⟩) 4 4, .int .i64 1] W (GivesI [2, 4] W)) := fun W hW => by
    have := Holders_any (c := 4) (G.out W hW) (by simp [fourL]) 1
    rwa [four_hold1] at this
  have CH2 : Hid (∀ W, Below V.heap.size V W → Calls Try.prog 40 #[gV (some ⟨b, 0, none⟩) 4 4, .int .i64 2] W (GivesI [2] W)) := fun W hW => by
    have := Holders_any (c := 4) (G.out W hW) (by simp [fourL]) 2
    rwa [four_hold2] at this
  go_cut [3] (fun s3 wx => s3 = Value.bool true ∧ Hid (Below V.heap.size V wx))
  case first =>
    refine Facts.wp_region_facts (TW b bx) (Below V.heap.size V) (RW b) (by kernel_rfl) (by kernel_rfl) (by kernel_rfl) rfl ((Below.refl _ _).drew) (fun i v w w' h _ hb => h.below hb) ?_ ?_ ?_ ?_ ?_
    · intro i o f v ho
      match i, ho with
      | 0, ho => injection ho with ho; subst ho; rfl
      | 1, ho => injection ho with ho; subst ho; rfl
      | 2, ho => injection ho with ho; subst ho; rfl
      | 3, ho => injection ho with ho; subst ho; rfl
      | 4, ho => injection ho with ho; subst ho; rfl
      | 5, ho => injection ho with ho; subst ho; rfl
      | 6, ho => injection ho with ho; subst ho; rfl
      | 7, ho => injection ho with ho; subst ho; rfl
      | 8, ho => injection ho with ho; subst ho; rfl
      | 9, ho => injection ho with ho; subst ho; rfl
      | 10, ho => injection ho with ho; subst ho; rfl
      | 11, ho => injection ho with ho; subst ho; rfl
      | 12, ho => injection ho with ho; subst ho; rfl
      | 13, ho => injection ho with ho; subst ho; rfl
      | 14, ho => injection ho with ho; subst ho; rfl
      | 15, ho => injection ho with ho; subst ho; rfl
      | 16, ho => injection ho with ho; subst ho; rfl
      | 17, ho => injection ho with ho; subst ho; rfl
      | 18, ho => injection ho with ho; subst ho; rfl
      | 19, ho => injection ho with ho; subst ho; rfl
      | 20, ho => injection ho with ho; subst ho; rfl
      | 21, ho => injection ho with ho; subst ho; rfl
      | 22, ho => injection ho with ho; subst ho; rfl
      | 23, ho => injection ho with ho; subst ho; rfl
      | 24, ho => injection ho with ho; subst ho; rfl
      | 25, ho => injection ho with ho; subst ho; rfl
      | 26, ho => injection ho with ho; subst ho; rfl
      | 27, ho => injection ho with ho; subst ho; rfl
      | 28, ho => injection ho with ho; subst ho; rfl
      | 29, ho => injection ho with ho; subst ho; rfl
      | 30, ho => injection ho with ho; subst ho; rfl
      | 31, ho => injection ho with ho; subst ho; rfl
      | n + 32, ho => cases ho
    · intro i o d f ho hd
      match i, ho with
      | 0, ho => injection ho with ho; subst ho; injection hd with hd; subst hd; rfl
      | 1, ho => injection ho with ho; subst ho; injection hd with hd; subst hd; rfl
      | 2, ho => injection ho with ho; subst ho; injection hd with hd; subst hd; rfl
      | 3, ho => injection ho with ho; subst ho; injection hd with hd; subst hd; rfl
      | 4, ho => injection ho with ho; subst ho; injection hd with hd; subst hd; rfl
      | 5, ho => injection ho with ho; subst ho; injection hd with hd; subst hd; rfl
      | 6, ho => injection ho with ho; subst ho; injection hd with hd; subst hd; rfl
      | 7, ho => injection ho with ho; subst ho; injection hd with hd; subst hd; rfl
      | 8, ho => injection ho with ho; subst ho; injection hd with hd; subst hd; rfl
      | 9, ho => injection ho with ho; subst ho; injection hd with hd; subst hd; rfl
      | 10, ho => injection ho with ho; subst ho; injection hd with hd; subst hd; rfl
      | 11, ho => injection ho with ho; subst ho; injection hd with hd; subst hd; rfl
      | 12, ho => injection ho with ho; subst ho; injection hd with hd; subst hd; rfl
      | 13, ho => injection ho with ho; subst ho; injection hd with hd; subst hd; rfl
      | 14, ho => injection ho with ho; subst ho; injection hd with hd; subst hd; rfl
      | 15, ho => injection ho with ho; subst ho; injection hd with hd; subst hd; rfl
      | 16, ho => injection ho with ho; subst ho; injection hd with hd; subst hd; rfl
      | 17, ho => injection ho with ho; subst ho; injection hd with hd; subst hd; rfl
      | 18, ho => injection ho with ho; subst ho; injection hd with hd; subst hd; rfl
      | 19, ho => injection ho with ho; subst ho; injection hd with hd; subst hd; rfl
      | 20, ho => injection ho with ho; subst ho; injection hd with hd; subst hd; rfl
      | 21, ho => injection ho with ho; subst ho; injection hd with hd; subst hd; rfl
      | 22, ho => injection ho with ho; subst ho; injection hd with hd; subst hd; rfl
      | 23, ho => injection ho with ho; subst ho; injection hd with hd; subst hd; rfl
      | 24, ho => injection ho with ho; subst ho; injection hd with hd; subst hd; rfl
      | 25, ho => injection ho with ho; subst ho; injection hd with hd; subst hd; rfl
      | 26, ho => injection ho with ho; subst ho; injection hd with hd; subst hd; rfl
      | 27, ho => injection ho with ho; subst ho; injection hd with hd; subst hd; rfl
      | 28, ho => injection ho with ho; subst ho; injection hd with hd; subst hd; rfl
      | 29, ho => injection ho with ho; subst ho; injection hd with hd; subst hd; rfl
      | 30, ho => injection ho with ho; subst ho; injection hd with hd; subst hd; rfl
      | 31, ho => injection ho with ho; subst ho; injection hd with hd; subst hd; rfl
      | n + 32, ho => cases ho
    · intro i o g b' v w ho hg hR
      match i, ho with
      | 0, ho => injection ho with ho; subst ho; first | (cases hg; exact hR) | cases hg
      | 1, ho => injection ho with ho; subst ho; first | (cases hg; exact hR) | cases hg
      | 2, ho => injection ho with ho; subst ho; first | (cases hg; exact hR) | cases hg
      | 3, ho => injection ho with ho; subst ho; first | (cases hg; exact hR) | cases hg
      | 4, ho => injection ho with ho; subst ho; first | (cases hg; exact hR) | cases hg
      | 5, ho => injection ho with ho; subst ho; first | (cases hg; exact hR) | cases hg
      | 6, ho => injection ho with ho; subst ho; first | (cases hg; exact hR) | cases hg
      | 7, ho => injection ho with ho; subst ho; first | (cases hg; exact hR) | cases hg
      | 8, ho => injection ho with ho; subst ho; first | (cases hg; exact hR) | cases hg
      | 9, ho => injection ho with ho; subst ho; first | (cases hg; exact hR) | cases hg
      | 10, ho => injection ho with ho; subst ho; first | (cases hg; exact hR) | cases hg
      | 11, ho => injection ho with ho; subst ho; first | (cases hg; exact hR) | cases hg
      | 12, ho => injection ho with ho; subst ho; first | (cases hg; exact hR) | cases hg
      | 13, ho => injection ho with ho; subst ho; first | (cases hg; exact hR) | cases hg
      | 14, ho => injection ho with ho; subst ho; first | (cases hg; exact hR) | cases hg
      | 15, ho => injection ho with ho; subst ho; first | (cases hg; exact hR) | cases hg
      | 16, ho => injection ho with ho; subst ho; first | (cases hg; exact hR) | cases hg
      | 17, ho => injection ho with ho; subst ho; first | (cases hg; exact hR) | cases hg
      | 18, ho => injection ho with ho; subst ho; first | (cases hg; exact hR) | cases hg
      | 19, ho => injection ho with ho; subst ho; first | (cases hg; exact hR) | cases hg
      | 20, ho => injection ho with ho; subst ho; first | (cases hg; exact hR) | cases hg
      | 21, ho => injection ho with ho; subst ho; first | (cases hg; exact hR) | cases hg
      | 22, ho => injection ho with ho; subst ho; first | (cases hg; exact hR) | cases hg
      | 23, ho => injection ho with ho; subst ho; first | (cases hg; exact hR) | cases hg
      | 24, ho => injection ho with ho; subst ho; first | (cases hg; exact hR) | cases hg
      | 25, ho => injection ho with ho; subst ho; first | (cases hg; exact hR) | cases hg
      | 26, ho => injection ho with ho; subst ho; first | (cases hg; exact hR) | cases hg
      | 27, ho => injection ho with ho; subst ho; first | (cases hg; exact hR) | cases hg
      | 28, ho => injection ho with ho; subst ho; first | (cases hg; exact hR) | cases hg
      | 29, ho => injection ho with ho; subst ho; first | (cases hg; exact hR) | cases hg
      | 30, ho => injection ho with ho; subst ho; first | (cases hg; exact hR) | cases hg
      | 31, ho => injection ho with ho; subst ho; first | (cases hg; exact hR) | cases hg
      | n + 32, ho => cases ho
    · intro i o ho
      match i, ho with
      | 0, ho =>
        injection ho with ho
        subst ho
        intro f W K hC hf hK
        have x0 := CX.out W hC
        clear hf
        unfold TW at hK ⊢
        go_simp
        exact hK _ _ rfl hC (Below.refl _ _)
      | 1, ho =>
        injection ho with ho
        subst ho
        intro f W K hC hf hK
        have h0 : f 0 = gV (some ⟨b, 0, none⟩) 4 4 := hf 0 (by kernel_rfl)
        have x0 := CX.out W hC
        clear hf
        unfold TW at hK ⊢
        generalize f 0 = x100 at *
        subst h0
        go_simp
        refine (CI.out W hC).mono ?_
        rintro e w' ⟨A, c, rfl, hI, hb⟩
        exact hK _ _ ⟨A, c, rfl, hI⟩ (hC.trans (hb.mono hC.size)) hb
      | 2, ho =>
        injection ho with ho
        subst ho
        intro f W K hC hf hK
        have x0 := CX.out W hC
        clear hf
        unfold TW at hK ⊢
        go_simp
        exact hK _ _ ⟨_, _, rfl, ints_alloc [2, 1, 0, 0] W 3⟩ (hC.alloc hC.size _) ((Below.refl _ _).alloc (Nat.le_refl _) _)
      | 3, ho =>
        injection ho with ho
        subst ho
        intro f W K hC hf hK
        have h1 : ISl W (f 1) [2, 1, 0, 0] := hf 1 (by kernel_rfl)
        have h2 : ISl W (f 2) [2, 1, 0, 0] := hf 2 (by kernel_rfl)
        have x0 := CX.out W hC
        clear hf
        unfold TW at hK ⊢
        generalize f 1 = x101 at *
        obtain ⟨A1, c1, rfl, i1⟩ := h1
        generalize f 2 = x102 at *
        obtain ⟨A2, c2, rfl, i2⟩ := h2
        go_simp
        refine (ints_any A1 A2 c1 c2 [2, 1, 0, 0] W (by simp) i1 i2).mono ?_
        rintro e w' ⟨rfl, hb⟩
        exact hK _ _ rfl (hC.trans (hb.mono hC.size)) hb
      | 4, ho =>
        injection ho with ho
        subst ho
        intro f W K hC hf hK
        have h3 : f 3 = .bool true := hf 3 (by kernel_rfl)
        have x0 := CX.out W hC
        clear hf
        unfold TW at hK ⊢
        generalize f 3 = x103 at *
        subst h3
        go_simp
        exact hK _ _ rfl hC (Below.refl _ _)
      | 5, ho =>
        injection ho with ho
        subst ho
        intro f W K hC hf hK
        have h4 : f 4 = .bool true := hf 4 (by kernel_rfl)
        have x0 := CX.out W hC
        clear hf
        unfold TW at hK ⊢
        generalize f 4 = x104 at *
        subst h4
        go_simp
        exact hK _ _ rfl hC (Below.refl _ _)
      | 6, ho =>
        injection ho with ho
        subst ho
        intro f W K hC hf hK
        have h5 : f 5 = gV (some ⟨b, 0, none⟩) 4 4 := hf 5 (by kernel_rfl)
        have h4 : f 4 = .bool true := hf 4 (by kernel_rfl)
        have x0 := CX.out W hC
        clear hf
        unfold TW at hK ⊢
        generalize f 5 = x105 at *
        subst h5
        generalize f 4 = x104 at *
        subst h4
        go_simp
        refine (CE.out W hC).mono ?_
        rintro e w' ⟨A, c, rfl, hI, hb⟩
        exact hK _ _ ⟨A, c, rfl, hI⟩ (hC.trans (hb.mono hC.size)) hb
      | 7, ho =>
        injection ho with ho
        subst ho
        intro f W K hC hf hK
        have h6 : ISl W (f 6) [] := hf 6 (by kernel_rfl)
        have h4 : f 4 = .bool true := hf 4 (by kernel_rfl)
        have x0 := CX.out W hC
        clear hf
        unfold TW at hK ⊢
        generalize f 6 = x106 at *
        obtain ⟨A6, c6, rfl, i6⟩ := h6
        generalize f 4 = x104 at *
        subst h4
        go_simp
        refine (ints_any A6 none c6 0 [] W (by simp) i6 (fun i x hx => by simp at hx)).mono ?_
        rintro e w' ⟨rfl, hb⟩
        exact hK _ _ rfl (hC.trans (hb.mono hC.size)) hb
      | 8, ho =>
        injection ho with ho
        subst ho
        intro f W K hC hf hK
        have h4 : f 4 = .bool true := hf 4 (by kernel_rfl)
        have h7 : f 7 = .bool true := hf 7 (by kernel_rfl)
        have x0 := CX.out W hC
        clear hf
        unfold TW at hK ⊢
        generalize f 4 = x104 at *
        subst h4
        generalize f 7 = x107 at *
        subst h7
        go_simp
        exact hK _ _ rfl hC (Below.refl _ _)
      | 9, ho =>
        injection ho with ho
        subst ho
        intro f W K hC hf hK
        have h8 : f 8 = .bool true := hf 8 (by kernel_rfl)
        have x0 := CX.out W hC
        clear hf
        unfold TW at hK ⊢
        generalize f 8 = x108 at *
        subst h8
        go_simp
        exact hK _ _ rfl hC (Below.refl _ _)
      | 10, ho =>
        injection ho with ho
        subst ho
        intro f W K hC hf hK
        have h9 : f 9 = .bool true := hf 9 (by kernel_rfl)
        have x0 := CX.out W hC
        clear hf
        unfold TW at hK ⊢
        generalize f 9 = x109 at *
        subst h9
        go_simp
        exact hK _ _ rfl hC (Below.refl _ _)
      | 11, ho =>
        injection ho with ho
        subst ho
        intro f W K hC hf hK
        have h9 : f 9 = .bool true := hf 9 (by kernel_rfl)
        have x0 := CX.out W hC
        clear hf
        unfold TW at hK ⊢
        generalize f 9 = x109 at *
        subst h9
        go_simp
        refine (of_any 9 4 W).mono ?_
        rintro e w' ⟨rfl, hb⟩
        exact hK _ _ rfl (hC.trans (hb.mono hC.size)) hb
      | 12, ho =>
        injection ho with ho
        subst ho
        intro f W K hC hf hK
        have h9 : f 9 = .bool true := hf 9 (by kernel_rfl)
        have x0 := CX.out W hC
        clear hf
        unfold TW at hK ⊢
        generalize f 9 = x109 at *
        subst h9
        go_simp
        refine (of_any 5 1 W).mono ?_
        rintro e w' ⟨rfl, hb⟩
        exact hK _ _ rfl (hC.trans (hb.mono hC.size)) hb
      | 13, ho =>
        injection ho with ho
        subst ho
        intro f W K hC hf hK
        have h9 : f 9 = .bool true := hf 9 (by kernel_rfl)
        have x0 := CX.out W hC
        clear hf
        unfold TW at hK ⊢
        generalize f 9 = x109 at *
        subst h9
        go_simp
        refine (of_any 3 5 W).mono ?_
        rintro e w' ⟨rfl, hb⟩
        exact hK _ _ rfl (hC.trans (hb.mono hC.size)) hb
      | 14, ho =>
        injection ho with ho
        subst ho
        intro f W K hC hf hK
        have h11 : f 11 = vV (9, 4) := hf 11 (by kernel_rfl)
        have h12 : f 12 = vV (5, 1) := hf 12 (by kernel_rfl)
        have h13 : f 13 = vV (3, 5) := hf 13 (by kernel_rfl)
        have h9 : f 9 = .bool true := hf 9 (by kernel_rfl)
        have x0 := CX.out W hC
        clear hf
        unfold TW at hK ⊢
        generalize f 11 = x111 at *
        subst h11
        generalize f 12 = x112 at *
        subst h12
        generalize f 13 = x113 at *
        subst h13
        generalize f 9 = x109 at *
        subst h9
        go_simp
        exact hK _ _ ⟨_, _, rfl, pairs_alloc [(9, 4), (5, 1), (3, 5)] W 24⟩ (hC.alloc hC.size _) ((Below.refl _ _).alloc (Nat.le_refl _) _)
      | 15, ho =>
        injection ho with ho
        subst ho
        intro f W K hC hf hK
        have h10 : f 10 = gV (some ⟨b, 0, none⟩) 4 4 := hf 10 (by kernel_rfl)
        have h14 : PSl W (f 14) [(9, 4), (5, 1), (3, 5)] := hf 14 (by kernel_rfl)
        have h9 : f 9 = .bool true := hf 9 (by kernel_rfl)
        have x0 := CX.out W hC
        clear hf
        unfold TW at hK ⊢
        generalize f 10 = x110 at *
        subst h10
        generalize f 14 = x114 at *
        obtain ⟨A14, c14, rfl, p14⟩ := h14
        generalize f 9 = x109 at *
        subst h9
        obtain ⟨Y, rfl, -⟩ := p14 0 _ rfl
        go_simp
        refine (CE2.out W Y c14 hC p14).mono ?_
        rintro e w' ⟨A, c, rfl, hI, hb⟩
        exact hK _ _ ⟨A, c, rfl, hI⟩ (hC.trans (hb.mono hC.size)) hb
      | 16, ho =>
        injection ho with ho
        subst ho
        intro f W K hC hf hK
        have h9 : f 9 = .bool true := hf 9 (by kernel_rfl)
        have x0 := CX.out W hC
        clear hf
        unfold TW at hK ⊢
        generalize f 9 = x109 at *
        subst h9
        go_simp
        exact hK _ _ ⟨_, _, rfl, ints_alloc [1, 4] W 3⟩ (hC.alloc hC.size _) ((Below.refl _ _).alloc (Nat.le_refl _) _)
      | 17, ho =>
        injection ho with ho
        subst ho
        intro f W K hC hf hK
        have h15 : ISl W (f 15) [1, 4] := hf 15 (by kernel_rfl)
        have h16 : ISl W (f 16) [1, 4] := hf 16 (by kernel_rfl)
        have h9 : f 9 = .bool true := hf 9 (by kernel_rfl)
        have x0 := CX.out W hC
        clear hf
        unfold TW at hK ⊢
        generalize f 15 = x115 at *
        obtain ⟨A15, c15, rfl, i15⟩ := h15
        generalize f 16 = x116 at *
        obtain ⟨A16, c16, rfl, i16⟩ := h16
        generalize f 9 = x109 at *
        subst h9
        go_simp
        refine (ints_any A15 A16 c15 c16 [1, 4] W (by simp) i15 i16).mono ?_
        rintro e w' ⟨rfl, hb⟩
        exact hK _ _ rfl (hC.trans (hb.mono hC.size)) hb
      | 18, ho =>
        injection ho with ho
        subst ho
        intro f W K hC hf hK
        have h9 : f 9 = .bool true := hf 9 (by kernel_rfl)
        have h17 : f 17 = .bool true := hf 17 (by kernel_rfl)
        have x0 := CX.out W hC
        clear hf
        unfold TW at hK ⊢
        generalize f 9 = x109 at *
        subst h9
        generalize f 17 = x117 at *
        subst h17
        go_simp
        exact hK _ _ rfl hC (Below.refl _ _)
      | 19, ho =>
        injection ho with ho
        subst ho
        intro f W K hC hf hK
        have h18 : f 18 = .bool true := hf 18 (by kernel_rfl)
        have x0 := CX.out W hC
        clear hf
        unfold TW at hK ⊢
        generalize f 18 = x118 at *
        subst h18
        go_simp
        exact hK _ _ rfl hC (Below.refl _ _)
      | 20, ho =>
        injection ho with ho
        subst ho
        intro f W K hC hf hK
        have h19 : f 19 = .bool true := hf 19 (by kernel_rfl)
        have x0 := CX.out W hC
        clear hf
        unfold TW at hK ⊢
        generalize f 19 = x119 at *
        subst h19
        go_simp
        exact hK _ _ rfl hC (Below.refl _ _)
      | 21, ho =>
        injection ho with ho
        subst ho
        intro f W K hC hf hK
        have h20 : f 20 = gV (some ⟨b, 0, none⟩) 4 4 := hf 20 (by kernel_rfl)
        have h19 : f 19 = .bool true := hf 19 (by kernel_rfl)
        have x0 := CX.out W hC
        clear hf
        unfold TW at hK ⊢
        generalize f 20 = x120 at *
        subst h20
        generalize f 19 = x119 at *
        subst h19
        go_simp
        refine (CH1.out W hC).mono ?_
        rintro e w' ⟨A, c, rfl, hI, hb⟩
        exact hK _ _ ⟨A, c, rfl, hI⟩ (hC.trans (hb.mono hC.size)) hb
      | 22, ho =>
        injection ho with ho
        subst ho
        intro f W K hC hf hK
        have h19 : f 19 = .bool true := hf 19 (by kernel_rfl)
        have x0 := CX.out W hC
        clear hf
        unfold TW at hK ⊢
        generalize f 19 = x119 at *
        subst h19
        go_simp
        exact hK _ _ ⟨_, _, rfl, ints_alloc [2, 4] W 3⟩ (hC.alloc hC.size _) ((Below.refl _ _).alloc (Nat.le_refl _) _)
      | 23, ho =>
        injection ho with ho
        subst ho
        intro f W K hC hf hK
        have h21 : ISl W (f 21) [2, 4] := hf 21 (by kernel_rfl)
        have h22 : ISl W (f 22) [2, 4] := hf 22 (by kernel_rfl)
        have h19 : f 19 = .bool true := hf 19 (by kernel_rfl)
        have x0 := CX.out W hC
        clear hf
        unfold TW at hK ⊢
        generalize f 21 = x121 at *
        obtain ⟨A21, c21, rfl, i21⟩ := h21
        generalize f 22 = x122 at *
        obtain ⟨A22, c22, rfl, i22⟩ := h22
        generalize f 19 = x119 at *
        subst h19
        go_simp
        refine (ints_any A21 A22 c21 c22 [2, 4] W (by simp) i21 i22).mono ?_
        rintro e w' ⟨rfl, hb⟩
        exact hK _ _ rfl (hC.trans (hb.mono hC.size)) hb
      | 24, ho =>
        injection ho with ho
        subst ho
        intro f W K hC hf hK
        have h19 : f 19 = .bool true := hf 19 (by kernel_rfl)
        have h23 : f 23 = .bool true := hf 23 (by kernel_rfl)
        have x0 := CX.out W hC
        clear hf
        unfold TW at hK ⊢
        generalize f 19 = x119 at *
        subst h19
        generalize f 23 = x123 at *
        subst h23
        go_simp
        exact hK _ _ rfl hC (Below.refl _ _)
      | 25, ho =>
        injection ho with ho
        subst ho
        intro f W K hC hf hK
        have h24 : f 24 = .bool true := hf 24 (by kernel_rfl)
        have x0 := CX.out W hC
        clear hf
        unfold TW at hK ⊢
        generalize f 24 = x124 at *
        subst h24
        go_simp
        exact hK _ _ rfl hC (Below.refl _ _)
      | 26, ho =>
        injection ho with ho
        subst ho
        intro f W K hC hf hK
        have h25 : f 25 = .bool true := hf 25 (by kernel_rfl)
        have x0 := CX.out W hC
        clear hf
        unfold TW at hK ⊢
        generalize f 25 = x125 at *
        subst h25
        go_simp
        exact hK _ _ rfl hC (Below.refl _ _)
      | 27, ho =>
        injection ho with ho
        subst ho
        intro f W K hC hf hK
        have h26 : f 26 = gV (some ⟨b, 0, none⟩) 4 4 := hf 26 (by kernel_rfl)
        have h25 : f 25 = .bool true := hf 25 (by kernel_rfl)
        have x0 := CX.out W hC
        clear hf
        unfold TW at hK ⊢
        generalize f 26 = x126 at *
        subst h26
        generalize f 25 = x125 at *
        subst h25
        go_simp
        refine (CH2.out W hC).mono ?_
        rintro e w' ⟨A, c, rfl, hI, hb⟩
        exact hK _ _ ⟨A, c, rfl, hI⟩ (hC.trans (hb.mono hC.size)) hb
      | 28, ho =>
        injection ho with ho
        subst ho
        intro f W K hC hf hK
        have h25 : f 25 = .bool true := hf 25 (by kernel_rfl)
        have x0 := CX.out W hC
        clear hf
        unfold TW at hK ⊢
        generalize f 25 = x125 at *
        subst h25
        go_simp
        exact hK _ _ ⟨_, _, rfl, ints_alloc [2] W 3⟩ (hC.alloc hC.size _) ((Below.refl _ _).alloc (Nat.le_refl _) _)
      | 29, ho =>
        injection ho with ho
        subst ho
        intro f W K hC hf hK
        have h27 : ISl W (f 27) [2] := hf 27 (by kernel_rfl)
        have h28 : ISl W (f 28) [2] := hf 28 (by kernel_rfl)
        have h25 : f 25 = .bool true := hf 25 (by kernel_rfl)
        have x0 := CX.out W hC
        clear hf
        unfold TW at hK ⊢
        generalize f 27 = x127 at *
        obtain ⟨A27, c27, rfl, i27⟩ := h27
        generalize f 28 = x128 at *
        obtain ⟨A28, c28, rfl, i28⟩ := h28
        generalize f 25 = x125 at *
        subst h25
        go_simp
        refine (ints_any A27 A28 c27 c28 [2] W (by simp) i27 i28).mono ?_
        rintro e w' ⟨rfl, hb⟩
        exact hK _ _ rfl (hC.trans (hb.mono hC.size)) hb
      | 30, ho =>
        injection ho with ho
        subst ho
        intro f W K hC hf hK
        have h25 : f 25 = .bool true := hf 25 (by kernel_rfl)
        have h29 : f 29 = .bool true := hf 29 (by kernel_rfl)
        have x0 := CX.out W hC
        clear hf
        unfold TW at hK ⊢
        generalize f 25 = x125 at *
        subst h25
        generalize f 29 = x129 at *
        subst h29
        go_simp
        exact hK _ _ rfl hC (Below.refl _ _)
      | 31, ho =>
        injection ho with ho
        subst ho
        intro f W K hC hf hK
        have h30 : f 30 = .bool true := hf 30 (by kernel_rfl)
        have x0 := CX.out W hC
        clear hf
        unfold TW at hK ⊢
        generalize f 30 = x130 at *
        subst h30
        go_simp
        exact hK _ _ rfl hC (Below.refl _ _)
      | n + 32, ho => cases ho
    · intro f W hC hf
      have h31 : f 31 = .bool true := hf 31 (by decide)
      simp only [TW]
      generalize f 31 = x31 at *
      subst h31
      go_wp2_with fail
      go_meet
      exact ⟨rfl, hC⟩
  case rest =>
    obtain ⟨rfl, BW⟩ := hcut
    have F2 : Hid (FourAt wc b s t 3 7) := FV.out.below BW.out
    have x0 := CX.out _ BW.out
    have hb := F2.out.objs
    have y1 : wc.cell? ⟨b, 7, none⟩ = some (.slice (some ⟨s, 0, none⟩) 3 3) := by simp [World.cell?, hb]
    have hs := F2.out.two
    have y2 : wc.cell? ⟨s, 4, none⟩ = some (iV 3) := by simp [World.cell?, hs]
    have y3 : wc.cell? ⟨s, 5, none⟩ = some (iV 7) := by simp [World.cell?, hs]
    have y4 : wc.frozen? ⟨s, 4, none⟩ = false := by simp [World.frozen?, hs]
    have y5 : wc.frozen? ⟨s, 5, none⟩ = false := by simp [World.frozen?, hs]
    have hne := F2.out.ne
    have hsV : Hid (w.heap.size ≤ s) := HS
    have B3 : Hid (Below w.heap.size w wc) := B2.out.trans (BW.out.mono B2.out.size)
    have FACT : Hid (∀ W, Below wc.heap.size wc W → (W.cell? ⟨bx, 0, none⟩ = some (.slice (some ⟨b, 0, none⟩) 4 4) ∧ W.cell? ⟨b, 7, none⟩ = some (.slice (some ⟨s, 0, none⟩) 3 3) ∧ W.cell? ⟨s, 4, none⟩ = some (iV 3) ∧ W.cell? ⟨s, 5, none⟩ = some (iV 7) ∧ W.frozen? ⟨s, 4, none⟩ = false ∧ W.frozen? ⟨s, 5, none⟩ = false)) := fun W hW => by
      have h1 := (F2.out.below hW).objs
      have h2 := (F2.out.below hW).two
      exact ⟨CX.out W (BW.out.trans (hW.mono BW.out.size)), by simp [World.cell?, h1], by simp [World.cell?, h2], by simp [World.cell?, h2], by simp [World.frozen?, h2], by simp [World.frozen?, h2]⟩
    have AFT : Hid (∀ W, Below wc.heap.size wc W → FourAt ((W.setCell ⟨s, 4, none⟩ (iV 6)).setCell ⟨s, 5, none⟩ (iV 1)) b s t 6 1 ∧ Below w.heap.size w ((W.setCell ⟨s, 4, none⟩ (iV 6)).setCell ⟨s, 5, none⟩ (iV 1)) ∧ ((W.setCell ⟨s, 4, none⟩ (iV 6)).setCell ⟨s, 5, none⟩ (iV 1)).cell? ⟨bx, 0, none⟩ = some (.slice (some ⟨b, 0, none⟩) 4 4)) := fun W hW => by
      have h0 := (FACT.out W hW).1
      have hbs : bx ≠ s := by
        rintro rfl
        have h2 := (F2.out.below hW).two
        simp [World.cell?, h2] at h0
      exact ⟨(F2.out.below hW).set hne.1 hne.2, ((B3.out.trans (hW.mono B3.out.size)).setCell hsV.out _).setCell hsV.out _, by rw [World.cell?_setCell_far _ _ _ _ (Ne.symm hbs), World.cell?_setCell_far _ _ _ _ (Ne.symm hbs)]; exact h0⟩
    have BB := Lib.hid ((Below.refl wc.heap.size wc).drew)
    go_upto_region 4 with fail
    go_cut [2, 3] (fun s2 s3 wx => s2 = Value.bool true ∧ s3 = Value.bool true ∧ Hid (FourAt wx b s t 6 1 ∧ Below w.heap.size w wx ∧ wx.cell? ⟨bx, 0, none⟩ = some (.slice (some ⟨b, 0, none⟩) 4 4)))
    case first =>
      obtain ⟨q0, q1, q2, q3, q4, q5⟩ := FACT.out _ BB.out
      clear x0 y1 y2 y3 y4 y5 hb hs
      go_region_law (go_simp; go_at_call 44; (with_reducible refine (of_any 6 1 _).mono ?_); rintro e w5 ⟨rfl, hb⟩; replace BB := Lib.hid (BB.out.trans (hb.mono BB.out.size)); obtain ⟨q0, q1, q2, q3, q4, q5⟩ := FACT.out _ BB.out; clear hb)
      all_goals
        go_wp2_with fail
        go_meet
        exact ⟨rfl, rfl, AFT.out _ BB.out⟩
    case rest =>
      obtain ⟨rfl, rfl, HC⟩ := hcut
      have z0 := HC.out.2.2
      clear x0 y1 y2 y3 y4 y5 hb hs
      go_wp2_with (go_at_call 31; refine (Check_any (g := fourM) (c := 4) HC.out.1.graph (by simp [fourM])).mono ?_; rintro e w6 ⟨he, hb6⟩; rw [four_bad] at he; subst he; have B6 := Lib.hid hb6; clear hb6)
      go_ret
      exact ⟨rfl, HC.out.2.1.trans (B6.out.mono HC.out.2.1.size)⟩
end Go.Proofs.Ytkkdgacdajojiaa
