/- TrialKnown's graphs, in memory and as plain words: who is seen, white, gone in each. -/
import Derived.Test.YtjlobjgemhapaaaTrWorks
namespace Go.Proofs.Ytjlobjgemhapaaa
set_option maxRecDepth 20000
open Go.ChangeShapes Go.WideShapes Go.ChangeAt Go.RowKit Go.Maps Go.Sort

def strT : List OB := [⟨5, 1, [], ⟨#[97]⟩, 0⟩, ⟨6, 1, [(5, 1), (6, 2)], ⟨#[]⟩, 0⟩]
def badT : List OB := [tabT 1 [2] 0]
def chainT : List OB := [tabT 0 [2] 0, tabT 1 [3] 0, tabT 1 [] 0]
def twiceT : List OB := [tabT 2 [1, 1] 0, tabT 1 [1] 0]
def fourA : List OB := [tabT 1 [2] 2, tabT 1 [1, 3] 0, tabT 1 [] 0, tabT 1 [4] 0]
def fourB : List OB := [tabT 1 [2] 2, tabT 1 [1, 3] 0, tabT 1 [] 0, tabT 1 [4] 2]
def fourK : List OB := [tabT 1 [2] 2, tabT 1 [1, 3] 0, tabT 1 [] 7, tabT 1 [4] 2]
theorem str_seen : seenL strT [1, 2] = [2] := by kernel_rfl
theorem str_white : whiteL strT [2] = [2] := white_eq (u := [2]) (by kernel_rfl) (List.Perm.refl _) (by decide)
theorem bad_check : checkB badT = false := by kernel_rfl
theorem bad_seen : seenL badT [1] = [] := by kernel_rfl
theorem bad_white : whiteL badT [1] = [] := white_eq (u := []) (by kernel_rfl) (List.Perm.refl _) (by decide)
theorem chain_white1 : whiteL chainT [1] = [1, 2, 3] := white_eq (u := [1, 2, 3]) (by kernel_rfl) (List.Perm.refl _) (by decide)
theorem chain_white2 : whiteL chainT [2] = [] := white_eq (u := []) (by kernel_rfl) (List.Perm.refl _) (by decide)
theorem twice_white : whiteL twiceT [1] = [1] := white_eq (u := [1]) (by kernel_rfl) (List.Perm.refl _) (by decide)
def listK : List Int := [4, 3, 2, 1, 1, 77, -3]
theorem k_whites : whitesL fourK listK = [1, 2, 3, 4] := (whites_eq (u := [4, 3, 2, 1, 1]) (k := [1, 1, 2, 3, 4]) (by kernel_rfl) (by decide) (by decide)).trans (by kernel_rfl)
theorem k_marks : marksL fourK listK = [1, 3, 4] := by unfold marksL; rw [k_whites]; kernel_rfl
theorem k_kept : keptL fourK listK = [1, 3, 4, 2] := by unfold keptL; rw [k_marks, k_whites]; kernel_rfl
theorem k_gone : goneL fourK listK = [] := by unfold goneL; rw [k_kept, k_whites]; kernel_rfl
theorem k_sort : markS fourK [1, 3, 4] = [3, 1, 4] := markS_eq (by decide) (by simp [leM, markG, fourK, tabT])

/-! Objects as a slice that is written out -/
theorem al2 (w : World) (o : Obj) : Below w.heap.size w (w.alloc o) := (Below.refl _ _).alloc (Nat.le_refl _) _
theorem objs_cell {w : World} {cs : List Value} {T : TypeId} {j : Nat} {u : Value} (hu : cs[j]? = some u) : (w.alloc (.cells cs.toArray T (0, 0))).cell? ⟨w.heap.size, j, none⟩ = some u := by
  have := lit_cells12 (w := w) (T := T) j u hu
  rwa [add_zero_at2, Nat.zero_add] at this
theorem objs_lit {w : World} {sl : Nat → Option Addr × Nat} {g : List OB} {T : TypeId} (hs : ∀ (i : Nat) o, g[i]? = some o → SlotsAt w o (sl i).1) : GAt (w.alloc (.cells (cellsG sl 0 g).toArray T (0, 0))) (some ⟨w.heap.size, 0, none⟩) g := by
  intro i o ho
  obtain ⟨d0, d1, d2, d3, d4⟩ := cellsG_at sl 0 g i o ho
  rw [Nat.zero_add] at d2
  have e : (⟨w.heap.size, 0, none⟩ : Addr).add (i * 5) = ⟨w.heap.size, i * 5, none⟩ := by unfold Addr.add; split <;> simp_all
  refine ⟨⟨w.heap.size, 0, none⟩, (sl i).1, (sl i).2, rfl, by simp, ?_, (hs i o ho).below ((Below.refl _ _).alloc (Nat.le_refl _) _)⟩
  rw [e]
  exact ⟨objs_cell d0, objs_cell d1, objs_cell d2, objs_cell d3, objs_cell d4⟩
/-- A box with a graph in it. -/
structure Has (w W : World) (bx : Nat) (A : Option Addr) (n c : Nat) (h : List OB) : Prop where
  below : Below w.heap.size w W
  cell : W.cell? ⟨bx, 0, none⟩ = some (.slice A n c)
  graph : GAt W A h
  lt : bx < W.heap.size
theorem Has.keep {w W W' : World} {bx n c : Nat} {A : Option Addr} {h : List OB} (H : Has w W bx A n c h) (hb : Below W.heap.size W W') : Has w W' bx A n c h :=
  ⟨H.below.trans (hb.mono H.below.size), (hb.cell (p := ⟨bx, 0, none⟩) H.lt).trans H.cell, H.graph.below hb, Nat.lt_of_lt_of_le H.lt hb.size⟩
theorem seen_g {h : List OB} {l R : List Int} {N c : Nat} (hN : N = h.length) (hn : h.length ≤ 900) (hs : ∀ o ∈ h, o.slots.length ≤ 1048576) (hR : seenL h l = R) (hw : ∀ x ∈ l, wf64 x) (hl : l.length ≤ 100) {n d : Nat} (hd : n = l.length) {W : World} {A B : Option Addr} (hg : GAt W A h) (hi : IntsAt W B l) :
    Calls Try.prog 12 #[gV A N c, .slice B n d] W (GivesI R W) := by
  have := Seen_any (c := c) (d := d) hg hn hs (by omega) hi hw
  rw [hR, ← hd, ← hN] at this
  exact this.mono fun e w' h => GivesI.of h
theorem white_g {h : List OB} {l R : List Int} {N c : Nat} (hN : N = h.length) (hn : h.length ≤ 900) (hs : ∀ o ∈ h, o.slots.length ≤ 1048576) (hR : whiteL h l = R) (hw : ∀ x ∈ l, wf64 x) (hl : l.length ≤ 100) {n d : Nat} (hd : n = l.length) {W : World} {A B : Option Addr} (hg : GAt W A h) (hi : IntsAt W B l) :
    Calls Try.prog 14 #[gV A N c, .slice B n d] W (GivesI R W) := by
  have := White_any (c := c) (d := d) hg hn hs (by omega) hi hw
  rw [hR, ← hd, ← hN] at this
  exact this
theorem gone_k {W : World} {b d : Nat} {B : Option Addr} (hg : GAt W (some ⟨b, 0, none⟩) fourK) (hi : IntsAt W B listK) :
    Calls Try.prog 16 #[gV (some ⟨b, 0, none⟩) 4 4, .slice B 7 d] W (GivesTwo [] [3, 1, 4] W) := by
  have := Gone_whole (c := 4) (d := d) hg (by decide) (by decide) (by kernel_rfl) (by decide) hi
  rw [k_gone, k_marks, k_sort] at this
  exact this
theorem has_lit {w0 w : World} (hb : Below w0.heap.size w0 w) {sl : Nat → Option Addr × Nat} {g : List OB} {T1 T2 : TypeId} (n : Nat) (hs : ∀ (i : Nat) o, g[i]? = some o → SlotsAt w o (sl i).1) :
    Has w0 ((w.alloc (.cells (cellsG sl 0 g).toArray T1 (0, 0))).alloc (.cells #[.slice (some ⟨w.heap.size, 0, none⟩) n n] T2 (0, 0))) (w.heap.size + 1) (some ⟨w.heap.size, 0, none⟩) n n g := by
  refine ⟨(hb.alloc hb.size _).alloc (by have := hb.size; simp; omega) _, ?_, (objs_lit hs).below ((Below.refl _ _).alloc (Nat.le_refl _) _), by simp⟩
  simp [go_sem]
theorem pairs_lit2 {w : World} {a b c d : Int} {T : TypeId} : PairsAt (w.alloc (.cells #[iV a, iV b, iV c, iV d] T (0, 0))) (some ⟨w.heap.size, 0, none⟩) [(a, b), (c, d)] := fun i p hp => by
  match i, hp with
  | 0, hp => injection hp with hp; subst hp; exact ⟨_, rfl, by simp, by simp [Addr.add, go_sem], by simp [Addr.add, go_sem]⟩
  | 1, hp => injection hp with hp; subst hp; exact ⟨_, rfl, by simp, by simp [Addr.add, go_sem], by simp [Addr.add, go_sem]⟩
  | _ + 2, hp => simp at hp
theorem str_has (w : World) : Has w (((w.alloc (.cells #[iV 5, iV 1, iV 6, iV 2] 41 (0, 0))).alloc (.cells #[iV 5, iV 1, .slice none 0 0, .string ⟨#[97]⟩, iV 0, iV 6, iV 1, .slice (some ⟨w.heap.size, 0, none⟩) 2 2, .string ⟨#[]⟩, iV 0] 38 (0, 0))).alloc (.cells #[.slice (some ⟨w.heap.size + 1, 0, none⟩) 2 2] 24 (0, 0))) (w.heap.size + 1 + 1) (some ⟨w.heap.size + 1, 0, none⟩) 2 2 strT := by
  have e : (w.alloc (.cells #[iV 5, iV 1, iV 6, iV 2] 41 (0, 0))).heap.size = w.heap.size + 1 := by simp
  have H := has_lit (w0 := w) (w := w.alloc (.cells #[iV 5, iV 1, iV 6, iV 2] 41 (0, 0))) (al2 _ _) (sl := fun i => match i with
    | 0 => (none, 0)
    | _ => (some ⟨w.heap.size, 0, none⟩, 2)) (g := strT) (T1 := 38) (T2 := 24) 2 (fun i o ho => by
      match i, ho with
      | 0, ho => injection ho with ho; subst ho; exact ⟨fun i p hp => by simp at hp, by simp⟩
      | 1, ho => injection ho with ho; subst ho; exact ⟨pairs_lit2, by simp⟩
      | _ + 2, ho => simp [strT] at ho)
  rw [e] at H
  exact H
theorem bad_has {w0 w : World} (hb : Below w0.heap.size w0 w) {A : Option Addr} {c : Nat} (P : PairsAt w A [(6, 2)]) : Has w0 ((w.alloc (.cells #[iV 6, iV 1, .slice A 1 c, .string ⟨#[]⟩, iV 0] 38 (0, 0))).alloc (.cells #[.slice (some ⟨w.heap.size, 0, none⟩) 1 1] 24 (0, 0))) (w.heap.size + 1) (some ⟨w.heap.size, 0, none⟩) 1 1 badT :=
  has_lit hb (sl := fun _ => (A, c)) (g := badT) 1 (fun i o ho => by
      match i, ho with
      | 0, ho => injection ho with ho; subst ho; exact ⟨P, by simp [tabT]⟩
      | _ + 1, ho => simp [badT] at ho)
theorem chain_has {w0 w : World} (hb : Below w0.heap.size w0 w) {A1 A2 A3 : Option Addr} {c1 c2 c3 : Nat} (P1 : PairsAt w A1 [(6, 2)]) (P2 : PairsAt w A2 [(6, 3)]) (P3 : PairsAt w A3 []) : Has w0 ((w.alloc (.cells #[iV 6, iV 0, .slice A1 1 c1, .string ⟨#[]⟩, iV 0, iV 6, iV 1, .slice A2 1 c2, .string ⟨#[]⟩, iV 0, iV 6, iV 1, .slice A3 0 c3, .string ⟨#[]⟩, iV 0] 38 (0, 0))).alloc (.cells #[.slice (some ⟨w.heap.size, 0, none⟩) 3 3] 24 (0, 0))) (w.heap.size + 1) (some ⟨w.heap.size, 0, none⟩) 3 3 chainT :=
  has_lit hb (sl := fun i => match i with
    | 0 => (A1, c1)
    | 1 => (A2, c2)
    | _ => (A3, c3)) (g := chainT) 3 (fun i o ho => by
      match i, ho with
      | 0, ho => injection ho with ho; subst ho; exact ⟨P1, by simp [tabT]⟩
      | 1, ho => injection ho with ho; subst ho; exact ⟨P2, by simp [tabT]⟩
      | 2, ho => injection ho with ho; subst ho; exact ⟨P3, by simp [tabT]⟩
      | _ + 3, ho => simp [chainT] at ho)
theorem twice_has {w0 w : World} (hb : Below w0.heap.size w0 w) {A1 A2 : Option Addr} {c1 c2 : Nat} (P1 : PairsAt w A1 [(6, 1), (6, 1)]) (P2 : PairsAt w A2 [(6, 1)]) : Has w0 ((w.alloc (.cells #[iV 6, iV 2, .slice A1 2 c1, .string ⟨#[]⟩, iV 0, iV 6, iV 1, .slice A2 1 c2, .string ⟨#[]⟩, iV 0] 38 (0, 0))).alloc (.cells #[.slice (some ⟨w.heap.size, 0, none⟩) 2 2] 24 (0, 0))) (w.heap.size + 1) (some ⟨w.heap.size, 0, none⟩) 2 2 twiceT :=
  has_lit hb (sl := fun i => match i with
    | 0 => (A1, c1)
    | _ => (A2, c2)) (g := twiceT) 2 (fun i o ho => by
      match i, ho with
      | 0, ho => injection ho with ho; subst ho; exact ⟨P1, by simp [tabT]⟩
      | 1, ho => injection ho with ho; subst ho; exact ⟨P2, by simp [tabT]⟩
      | _ + 2, ho => simp [twiceT] at ho)
end Go.Proofs.Ytjlobjgemhapaaa
